import PyProof.Rows.All
import Wide.All
import OpenK.AllK
import Wide.FinOn
import Open.SpecLaws
import KE.OsHead
import KE.OsGo
import HandS.ForSpec
import HandS.Comp
import PySem.Challenge.RW_fourbars_s02_full
set_option Elab.async false
set_option maxRecDepth 100000
set_option maxHeartbeats 2000000
namespace My
open LkFour LkDSpec
def Good (G A C R : Nat) : Prop := (1 ≤ G ∧ G ≤ 999) ∧ (1 ≤ A ∧ A ≤ 999) ∧ (1 ≤ C ∧ C ≤ 999) ∧ (1 ≤ R ∧ R ≤ 999)
theorem isLength_iff (n : Nat) : LkDSpec.isLength n = true ↔ 1 ≤ n ∧ n ≤ 999 := by
  unfold LkDSpec.isLength
  rw [Bool.and_eq_true, decide_eq_true_iff, decide_eq_true_iff]
  exact Iff.rfl
theorem lengths_iff (G A C R : Nat) : LkDSpec.lengths ⟨G, A, C, R⟩ = true ↔ Good G A C R := by
  unfold LkDSpec.lengths Good
  rw [Bool.and_eq_true, Bool.and_eq_true, Bool.and_eq_true, isLength_iff, isLength_iff, isLength_iff, isLength_iff]
theorem lengths_good {G A C R : Nat} (h : Good G A C R) : LkDSpec.lengths ⟨G, A, C, R⟩ = true := (lengths_iff ..).2 h
theorem lengths_bad {G A C R : Nat} (h : ¬ Good G A C R) : LkDSpec.lengths ⟨G, A, C, R⟩ = false := by
  rw [Bool.eq_false_iff]
  exact fun e => h ((lengths_iff ..).1 e)
theorem kind_step (G A C R : Nat) : PyWqapbt.kind G A C R = Neutral.shown (LkDSpec.answer ⟨⟨G, A, C, R⟩, .kind⟩) := by
  have e : Neutral.callOf [[0, (G : Int), (A : Int), (C : Int), (R : Int)]] = some ⟨⟨G, A, C, R⟩, .kind⟩ := by
    show (if Neutral.whole [(G : Int), (A : Int), (C : Int), (R : Int)] = true then some _ else none) = _
    rw [if_pos (by simp [Neutral.whole])]
    rfl
  show (Neutral.step Neutral.start [[0, (G : Int), (A : Int), (C : Int), (R : Int)]]).2 = _
  unfold Neutral.step
  rw [e]
  rfl
theorem kind_bad {G A C R : Nat} (h : ¬ Good G A C R) : PyWqapbt.kind G A C R = [-1] := by
  rw [kind_step, LkDSpec.answer, if_pos (Or.inl (lengths_bad h))]
  rfl
theorem kind_good {G A C R : Nat} (h : Good G A C R) : PyWqapbt.kind G A C R = [((Four.kind ⟨G, A, C, R⟩ : Nat) : Int)] := by
  rw [kind_step, LkDSpec.answer, if_neg (by rw [lengths_good h]; simp [LkDSpec.fine])]
  rfl
theorem longest_is {G A C R : Nat} {l : Int} (m1 : l = G ∨ l = A ∨ l = C ∨ l = R) (m2 : (G : Int) ≤ l ∧ (A : Int) ≤ l ∧ (C : Int) ≤ l ∧ (R : Int) ≤ l) : ((Four.longest ⟨G, A, C, R⟩ : Nat) : Int) = l := by
  simp only [Four.longest]
  omega
theorem shortest_is {G A C R : Nat} {h : Int} (n1 : h = G ∨ h = A ∨ h = C ∨ h = R) (n2 : h ≤ (G : Int) ∧ h ≤ (A : Int) ∧ h ≤ (C : Int) ∧ h ≤ (R : Int)) : ((Four.shortest ⟨G, A, C, R⟩ : Nat) : Int) = h := by
  simp only [Four.shortest]
  omega
theorem place_is (G A C R h : Int) (n1 : h = G ∨ h = A ∨ h = C ∨ h = R) : ((List.idxOf h [G, A, C, R] : Nat) : Int) = if G = h then 0 else if A = h then 1 else if C = h then 2 else 3 := by
  simp only [List.idxOf_cons, List.idxOf_nil, beq_iff_eq, cond_eq_ite]
  by_cases a : G = h
  · simp [a]
  · by_cases b : A = h
    · simp [a, b]
    · by_cases c : C = h
      · simp [a, b, c]
      · have d : R = h := by omega
        simp [a, b, c, d]
/-- the kind, as the program works it out -/
def kindBy (l h s : Int) (i : Int) : Int := if l > h + (s - l - h) then 0 else if l = h + (s - l - h) then 1 else if h + l > s - l - h then 7 else if h + l = s - l - h then 6 else 2 + i
theorem kind_by {G A C R : Nat} {l h : Int} (m1 : l = G ∨ l = A ∨ l = C ∨ l = R) (m2 : (G : Int) ≤ l ∧ (A : Int) ≤ l ∧ (C : Int) ≤ l ∧ (R : Int) ≤ l)
    (n1 : h = G ∨ h = A ∨ h = C ∨ h = R) (n2 : h ≤ (G : Int) ∧ h ≤ (A : Int) ∧ h ≤ (C : Int) ∧ h ≤ (R : Int)) :
    ((Four.kind ⟨G, A, C, R⟩ : Nat) : Int) = kindBy l h (G + A + C + R) ((List.idxOf h [(G : Int), A, C, R] : Nat) : Int) := by
  have hl := longest_is m1 m2
  have hh := shortest_is n1 n2
  rw [place_is _ _ _ _ _ n1, kindBy]
  simp only [Four.kind, Four.sum]
  generalize Four.longest ⟨G, A, C, R⟩ = l' at *
  generalize Four.shortest ⟨G, A, C, R⟩ = h' at *
  subst hl hh
  have b1 : l' + h' ≤ G + A + C + R := by omega
  have q1 : ((l' : Int) > h' + ((G : Int) + A + C + R - l' - h')) ↔ h' + (G + A + C + R - l' - h') < l' := by omega
  have q2 : ((l' : Int) = h' + ((G : Int) + A + C + R - l' - h')) ↔ h' + (G + A + C + R - l' - h') = l' := by omega
  have q3 : ((h' : Int) + l' > (G : Int) + A + C + R - l' - h') ↔ ¬ (h' + l' < G + A + C + R - l' - h' ∨ h' + l' = G + A + C + R - l' - h') := by omega
  have q4 : ((h' : Int) + l' = (G : Int) + A + C + R - l' - h') ↔ h' + l' = G + A + C + R - l' - h' := by omega
  have p1 : ((G : Int) = h') ↔ G = h' := by omega
  have p2 : ((A : Int) = h') ↔ A = h' := by omega
  have p3 : ((C : Int) = h') ↔ C = h' := by omega
  simp only [q1, q2, q3, q4, p1, p2, p3]
  by_cases c1 : h' + (G + A + C + R - l' - h') < l'
  · simp [c1]
  · by_cases c2 : h' + (G + A + C + R - l' - h') = l'
    · simp [c1, c2]
    · by_cases c3 : h' + l' < G + A + C + R - l' - h'
      · have c4 : ¬ (h' + l' = G + A + C + R - l' - h') := by omega
        simp only [c1, c2, c3, c4, if_true, if_false, true_or, not_true_eq_false]
        by_cases d1 : G = h'
        · simp [d1]
        · by_cases d2 : A = h'
          · simp [d1, d2]
          · by_cases d3 : C = h' <;> simp [d1, d2, d3]
      · by_cases c4 : h' + l' = G + A + C + R - l' - h' <;> simp [c1, c2, c3, c4]
end My
namespace My
open LkFour LkDSpec
theorem full_step (G A C R p : Nat) : PyWqapbt.full G A C R p = Neutral.shown (LkDSpec.answer ⟨⟨G, A, C, R⟩, .full p⟩) := by
  have e : Neutral.callOf [[1, (G : Int), (A : Int), (C : Int), (R : Int), (p : Int)]] = some ⟨⟨G, A, C, R⟩, .full p⟩ := by
    show (if Neutral.whole [(G : Int), (A : Int), (C : Int), (R : Int), (p : Int)] = true then some _ else none) = _
    rw [if_pos (by simp [Neutral.whole])]
    rfl
  show (Neutral.step Neutral.start [[1, (G : Int), (A : Int), (C : Int), (R : Int), (p : Int)]]).2 = _
  unfold Neutral.step
  rw [e]
  rfl
theorem full_bad {G A C R p : Nat} (h : ¬ (Good G A C R ∧ p ≤ 3)) : PyWqapbt.full G A C R p = [-1] := by
  rw [full_step, LkDSpec.answer, if_pos]
  · rfl
  · by_cases g : Good G A C R
    · refine Or.inr ?_
      show decide (p ≤ 3) = false
      exact decide_eq_false (fun q => h ⟨g, q⟩)
    · exact Or.inl (lengths_bad g)
theorem full_good {G A C R p : Nat} (h : Good G A C R) (q : p ≤ 3) : PyWqapbt.full G A C R p = [if Four.kind ⟨G, A, C, R⟩ = 0 then -2 else if Four.full ⟨G, A, C, R⟩ p = true then 1 else 0] := by
  rw [full_step, LkDSpec.answer, if_neg (by rw [lengths_good h]; simp [LkDSpec.fine, q])]
  show Neutral.shown (if Four.kind ⟨G, A, C, R⟩ = 0 then LkDSpec.says (-2) else LkDSpec.says (if Four.full ⟨G, A, C, R⟩ p = true then 1 else 0)) = _
  split <;> rfl
/-- the distance of two numbers, as abs gives it -/
theorem gap_is (x y : Nat) : ((gap x y : Nat) : Int) = (((x : Int) - y).natAbs : Int) := by
  unfold gap
  omega
theorem full_at {G A C R p u v w z : Nat} (e : Four.at_ ⟨G, A, C, R⟩ p = (u, v, w, z)) : Four.full ⟨G, A, C, R⟩ p = true ↔ ((((w : Int) - z).natAbs : Int) ≤ (((u : Int) - v).natAbs : Int) ∧ (u : Int) + v ≤ (w : Int) + z) := by
  unfold Four.full
  rw [e]
  show (decide (u + v ≤ w + z) && decide (gap w z ≤ gap u v)) = true ↔ _
  rw [Bool.and_eq_true, decide_eq_true_iff, decide_eq_true_iff]
  have a := gap_is w z
  have b := gap_is u v
  omega
end My
namespace My
open PySem PySem.Spec PyProof.Rows L2
open PySem.W (Codec)
def top (i : Nat) : Stmt := PySem.Challenge.pw_fourbars_s02_full.main.body.getD i (.Pass ⟨0, 0, 0, 0⟩)
theorem Same.new {H : Hp} {p : Addr} {o : HO} (h : H p = none) : Same H (upd H p o) := fun b u e => by
  rw [upd_ne (ne_of_none e h)]
  exact e
theorem at_map {ns : List Int} {i : Nat} {x : V} (h : (ns.map V.int)[i]? = some x) : ∃ z, ns[i]? = some z ∧ x = V.int z := by
  rw [List.getElem?_map] at h
  cases e : ns[i]? with
  | none =>
    rw [e] at h
    cases h
  | some z =>
    rw [e] at h
    exact ⟨z, rfl, (Option.some.inj h).symm⟩
theorem take_more {α : Type} : ∀ {l : List α} {i : Nat} {x : α}, l[i]? = some x → l.take (i + 1) = l.take i ++ [x]
  | [], i, x, h => by simp at h
  | a :: l, 0, x, h => by
    have e : a = x := Option.some.inj h
    subst e
    rfl
  | a :: l, i + 1, x, h => by
    have ih := take_more (l := l) (i := i) (x := x) h
    show a :: l.take (i + 1) = a :: l.take i ++ [x]
    rw [ih]
    rfl
theorem idx_ne {a h : Int} {l : List Int} (e : ¬ a = h) : (a :: l).idxOf h = l.idxOf h + 1 := by
  rw [List.idxOf_cons, beq_eq_false_iff_ne.2 e]
  rfl
theorem index_at : ∀ {ns : List Int} {h : Int}, h ∈ ns → (ns.map V.int)[ns.idxOf h]? = some (V.int h)
  | [], h, m => by simp at m
  | a :: l, h, m => by
    by_cases e : a = h
    · subst e
      rw [List.idxOf_cons_self]
      rfl
    · have m' : h ∈ l := by
        rcases List.mem_cons.1 m with q | q
        · exact absurd q.symm e
        · exact q
      rw [idx_ne e]
      exact index_at m'
theorem index_ahead : ∀ {ns : List Int} {h : Int} {m : Nat} {z : V}, m < ns.idxOf h → (ns.map V.int)[m]? = some z → eqV z (V.int h) = false
  | [], h, m, z, l, e => by simp at e
  | a :: r, h, 0, z, l, e => by
    have ez : V.int a = z := Option.some.inj e
    subst ez
    show (a == h) = false
    rw [beq_eq_false_iff_ne]
    intro q
    subst q
    rw [List.idxOf_cons_self] at l
    exact absurd l (Nat.lt_irrefl 0)
  | a :: r, h, m + 1, z, l, e => by
    by_cases q : a = h
    · subst q
      rw [List.idxOf_cons_self] at l
      exact absurd l (Nat.not_lt_zero _)
    · rw [idx_ne q] at l
      exact index_ahead (ns := r) (Nat.lt_of_succ_lt_succ l) e
theorem flat_ints : ∀ ns : List Int, (ns.map V.int).all flatV = true
  | [] => rfl
  | _ :: r => by
    show (true && (r.map V.int).all flatV) = true
    rw [flat_ints r]
    rfl
abbrev sLens : Stmt := top 2
theorem scLens : FnScope ["lengths", "length"] ["lengths"] (defScope sLens) := ⟨rfl, rfl, rfl, by decide +kernel, rfl, by decide +kernel, by decide +kernel⟩
def okLen (n : Int) : Bool := decide (1 ≤ n) && decide (n ≤ 999)
theorem okLen_iff (n : Int) : okLen n = true ↔ 1 ≤ n ∧ n ≤ 999 := by
  unfold okLen
  rw [Bool.and_eq_true, decide_eq_true_iff, decide_eq_true_iff]
def spLens (K : PySem.W.Frag) : Sp := fun vs H Q _ => ∃ (a : Addr) (ns : List Int), vs = [.ref a] ∧ SqL K H a (ns.map V.int) ∧ ns.length ≤ 1000 ∧ ∀ H' : Hp, Same H H' → Q (.bl (ns.all okLen)) H'
section
variable {P : Program} {w : World} {K : PySem.W.Frag} {mg : Str → Option Value} {base : Heap}
theorem ok_lens {f : Addr} {fd : FuncData} (F : Fun K "are_lengths" "are_lengths" sLens f fd) (nAll : mg "all" = none) : FnOk P w K mg base CX0 1 f fd ["lengths"] (spLens K) := by
  refine F.ok scLens (fun vs H Q E h => ?_) (fun cdv A outer s H vs Q E hr h => ?_)
  · obtain ⟨a, ns, rfl, _⟩ := h
    rfl
  · obtain ⟨a, ns, rfl, hS, hlen, k⟩ := h
    refine ⟨_, pss_one (ps_ret (pe_callB (cr_all rfl) (by rfl) nAll (by decide +kernel) (pa_cons
      (pe_lc (own := [("length", 1)]) (g := gName 1) (tt := tYes) rfl scLens.nd (pi_list (pv 0)) (blkOk_by (N := ["lengths", "length"]) (sc := defScope sLens) (by decide +kernel))
        (fun _ _ _ _ _ => pg_name (i := 1) scLens.nd rfl (Or.inl rfl)) (fun _ _ _ _ _ => pts_nil) (fun _ _ _ _ _ => pe_chain op_le op_le pe_int (pv 1) pe_int)) pa_nil))), ?_⟩
    refine ⟨_, rfl, a, rfl, ⟨_, hS⟩, fun D hD => lc_list (K := K) (a := a) (xs := ns.map V.int) (fun i H' => Same H H' ∧ H' D = some (.lst (((ns.take i).map okLen).map V.bl)))
      ⟨Same.new hD, upd_same⟩ (fun i H' _ q => q.1.seq hS) ?_ ?_⟩
    · rintro i x H' hi ⟨sm, hd⟩
      obtain ⟨z, hz, rfl⟩ := at_map hi
      have il : i < ns.length := (List.getElem?_eq_some_iff.mp hz).1
      have fin : ∀ b : Bool, b = okLen z → ∃ acc, H' D = some (.lst acc) ∧ acc.length < sizeLine ∧ (Same H (upd H' D (.lst (acc ++ [V.bl b]))) ∧ (upd H' D (.lst (acc ++ [V.bl b]))) D = some (.lst (((ns.take (i + 1)).map okLen).map V.bl))) := fun b e => by
        refine ⟨_, hd, ?_, fun c o q => ?_, ?_⟩
        · rw [List.length_map, List.length_map, List.length_take]
          exact small1000 (Nat.le_trans (Nat.min_le_right _ _) hlen)
        · rw [upd_ne (ne_of_none q hD)]
          exact sm c o q
        · rw [upd_same, take_more hz, List.map_append, List.map_append, e]
          rfl
      refine ⟨rfl, _, rfl, _, _, rfl, rfl, _, rfl, ?_⟩
      by_cases c : 1 ≤ z
      · rw [decide_eq_true c]
        refine iteT ⟨_, _, rfl, rfl, fin _ ?_⟩
        unfold okLen
        rw [decide_eq_true c]
        rfl
      · rw [decide_eq_false c]
        refine iteF (fin _ ?_)
        unfold okLen
        rw [decide_eq_false c]
        rfl
    · rintro H' ⟨sm, hd⟩
      rw [List.length_map, List.take_length] at hd
      refine ⟨D, ns.map okLen, rfl, SqL.of hd, ?_⟩
      have e : (ns.map okLen).all id = ns.all okLen := by
        rw [List.all_map]
        rfl
      rw [e]
      exact k H' sm
end
abbrev sKindOf : Stmt := top 4
theorem scKindOf : FnScope ["lengths", "longest", "shortest", "others"] ["lengths"] (defScope sKindOf) := ⟨rfl, rfl, rfl, by decide +kernel, rfl, by decide +kernel, by decide +kernel⟩
def spKindOf (K : PySem.W.Frag) : Sp := fun vs H Q _ => ∃ (a : Addr) (G A C R : Nat), vs = [.ref a] ∧ SqL K H a (([(G : Int), (A : Int), (C : Int), (R : Int)]).map V.int) ∧ Q (.int ((LkFour.Four.kind ⟨G, A, C, R⟩ : Nat) : Int)) H
section
variable {P : Program} {w : World} {K : PySem.W.Frag} {mg : Str → Option Value} {base : Heap}
theorem ok_kind_of {f : Addr} {fd : FuncData} (F : Fun K "kind_of" "kind_of" sKindOf f fd) (nMax : mg "max" = none) (nMin : mg "min" = none) (nSum : mg "sum" = none) : FnOk P w K mg base CX0 1 f fd ["lengths"] (spKindOf K) := by
  refine F.ok scKindOf (fun vs H Q E h => ?_) (fun cdv A outer s H vs Q E hr h => ?_)
  · obtain ⟨a, G, A, C, R, rfl, _⟩ := h
    rfl
  · obtain ⟨a, G, A, C, R, rfl, hS, k⟩ := h
    refine ⟨_, pss_cons (ps_set (i := 1) scKindOf.nd rfl (Or.inl rfl) (pe_callB (cr_max rfl) (by rfl) nMax (by decide +kernel) (pa_cons (pv 0) pa_nil)))
      (pss_cons (ps_set (i := 2) scKindOf.nd rfl (Or.inl rfl) (pe_callB (cr_min rfl) (by rfl) nMin (by decide +kernel) (pa_cons (pv 0) pa_nil)))
      (pss_cons (ps_set (i := 3) scKindOf.nd rfl (Or.inl rfl) (pe_op op_sub (pe_op op_sub (pe_callB (cr_sum rfl) (by rfl) nSum (by decide +kernel) (pa_cons (pv 0) pa_nil)) (pv 1)) (pv 2)))
      (pss_cons (ps_if (pt_cmpR op_gt (pv 1) (pe_op op_add (pv 2) (pv 3)) (nomark _)) (pss_one (ps_ret pe_int)) pss_nil)
      (pss_cons (ps_if (pt_cmpR op_eq (pv 1) (pe_op op_add (pv 2) (pv 3)) (nomark _)) (pss_one (ps_ret pe_int)) pss_nil)
      (pss_cons (ps_if (pt_cmpR op_gt (pe_op op_add (pv 2) (pv 1)) (pv 3) (nomark _)) (pss_one (ps_ret pe_int)) pss_nil)
      (pss_cons (ps_if (pt_cmpR op_eq (pe_op op_add (pv 2) (pv 1)) (pv 3) (nomark _)) (pss_one (ps_ret pe_int)) pss_nil)
      (pss_one (ps_ret (pe_op op_add pe_int (pe_bm PySem.F.plainAttrs_list PySem.F.slot_list_index PySem.F.type_list_index mt_index (pv 0) (pa_cons (pv 2) pa_nil))))))))))), ?_⟩
    refine ⟨_, rfl, a, [(G : Int), (A : Int), (C : Int), (R : Int)], rfl, hS, (by show 0 < 4; decide), fun l ml hl => ?_⟩
    refine ⟨_, rfl, a, [(G : Int), (A : Int), (C : Int), (R : Int)], rfl, hS, (by show 0 < 4; decide), fun h mh hh => ?_⟩
    refine ⟨_, rfl, a, [(G : Int), (A : Int), (C : Int), (R : Int)], rfl, hS, ?_⟩
    refine ⟨_, rfl, _, _, rfl, rfl, _, rfl, _, _, rfl, rfl, ?_⟩
    have m1 : l = G ∨ l = A ∨ l = C ∨ l = R := by simpa using ml
    have m2 : (G : Int) ≤ l ∧ (A : Int) ≤ l ∧ (C : Int) ≤ l ∧ (R : Int) ≤ l := by simpa using hl
    have n1 : h = G ∨ h = A ∨ h = C ∨ h = R := by simpa using mh
    have n2 : h ≤ (G : Int) ∧ h ≤ (A : Int) ∧ h ≤ (C : Int) ∧ h ≤ (R : Int) := by simpa using hh
    have kb := kind_by m1 m2 n1 n2
    rw [kb] at k
    unfold kindBy at k
    have es : ([(G : Int), (A : Int), (C : Int), (R : Int)]).sum = (G : Int) + A + C + R := by
      simp only [List.sum_cons, List.sum_nil]
      omega
    rw [es]
    refine ⟨_, rfl, _, rfl, _, rfl, _, _, rfl, rfl, _, _, rfl, rfl, _, rfl, ite2 (fun c => ?_) fun c => ?_⟩
    · rw [if_pos (of_decide_eq_true c)] at k
      exact k
    rw [if_neg (fun q => c (decide_eq_true q))] at k
    refine ⟨_, rfl, _, rfl, _, rfl, _, _, rfl, rfl, rfl, _, rfl, ite2 (fun c => ?_) fun c => ?_⟩
    · rw [if_pos (V.int.inj (of_decide_eq_true c))] at k
      exact k
    rw [if_neg (fun q => c (decide_eq_true (congrArg V.int q)))] at k
    refine ⟨_, rfl, _, rfl, _, _, rfl, rfl, _, rfl, _, _, rfl, rfl, _, rfl, ite2 (fun c => ?_) fun c => ?_⟩
    · rw [if_pos (of_decide_eq_true c)] at k
      exact k
    rw [if_neg (fun q => c (decide_eq_true q))] at k
    refine ⟨_, rfl, _, rfl, _, _, rfl, rfl, _, rfl, rfl, _, rfl, ite2 (fun c => ?_) fun c => ?_⟩
    · rw [if_pos (V.int.inj (of_decide_eq_true c))] at k
      exact k
    rw [if_neg (fun q => c (decide_eq_true (congrArg V.int q)))] at k
    refine ⟨_, rfl, Or.inl ⟨rfl, _, hS⟩, _, rfl, a, _, _, _, _, rfl, rfl, hS, rfl, flat_ints _, index_at mh, ?_, fun m z lt e => index_ahead lt e, _, _, rfl, rfl, k⟩
    show (h == h) = true
    exact beq_self_eq_true h
end
abbrev sPin : Stmt := top 3
theorem scPin : FnScope ["pin"] ["pin"] (defScope sPin) := ⟨rfl, rfl, rfl, by decide +kernel, rfl, by decide +kernel, by decide +kernel⟩
def spPin : Sp := fun vs H Q _ => ∃ n : Int, vs = [.int n] ∧ Q (.bl (decide (0 ≤ n) && decide (n ≤ 3))) H
abbrev sTurns : Stmt := top 5
theorem scTurns : FnScope ["lengths", "pin", "bars", "folded", "stretched"] ["lengths", "pin"] (defScope sTurns) := ⟨rfl, rfl, rfl, by decide +kernel, rfl, by decide +kernel, by decide +kernel⟩
def spTurns (K : PySem.W.Frag) : Sp := fun vs H Q _ => ∃ (a : Addr) (G A C R p : Nat), vs = [.ref a, .int (p : Int)] ∧ H a = some (.lst (([(G : Int), (A : Int), (C : Int), (R : Int)]).map V.int)) ∧ p ≤ 3 ∧
  ∀ H' : Hp, Same H H' → Q (.bl (LkFour.Four.full ⟨G, A, C, R⟩ p)) H'
/-- the bars from a pin on -/
def barsAt (l : List Int) (p : Nat) : List Int := l.drop p ++ l.take p
theorem abs_is (i : Int) : (if i < 0 then -i else i) = (i.natAbs : Int) := by
  split <;> omega
theorem gap_comm (x y : Nat) : LkFour.gap x y = LkFour.gap y x := by
  unfold LkFour.gap
  omega
theorem cutV_tail (l : List V) (p : Nat) (h : p ≤ l.length) : cutV l (some (p : Int)) none = l.drop p := by
  unfold cutV
  rw [HT.sIx_nat, HT.sIx_none, Nat.min_eq_left h]
  exact List.take_of_length_le (by rw [List.length_drop]; omega)
theorem cutV_head (l : List V) (p : Nat) (h : p ≤ l.length) : cutV l none (some (p : Int)) = l.take p := by
  unfold cutV
  rw [HT.sIx_nat, HT.sIx_none, Nat.min_eq_left h]
  rfl
section
variable {P : Program} {w : World} {K : PySem.W.Frag} {mg : Str → Option Value} {base : Heap}
theorem ok_pin {f : Addr} {fd : FuncData} (F : Fun K "is_pin" "is_pin" sPin f fd) : FnOk P w K mg base CX0 1 f fd ["pin"] spPin := by
  refine F.ok scPin (fun vs H Q E h => ?_) (fun cdv A outer s H vs Q E hr h => ?_)
  · obtain ⟨n, rfl, _⟩ := h
    rfl
  · obtain ⟨n, rfl, k⟩ := h
    refine ⟨_, pss_one (ps_ret (pe_chain op_le op_le pe_int (pv 0) pe_int)), ?_⟩
    refine ⟨_, rfl, _, _, rfl, rfl, _, rfl, ?_⟩
    by_cases c : 0 ≤ n
    · rw [decide_eq_true c] at k ⊢
      exact iteT ⟨_, _, rfl, rfl, k⟩
    · rw [decide_eq_false c] at k ⊢
      exact iteF k
/-- the four bars from the pin on, and what full says of them -/
theorem full_bars (G A C R p : Nat) (h : p ≤ 3) : ∃ u v w z : Nat, barsAt [(G : Int), (A : Int), (C : Int), (R : Int)] p = [(u : Int), (v : Int), (w : Int), (z : Int)] ∧
    (LkFour.Four.full ⟨G, A, C, R⟩ p = true ↔ ((((w : Int) - z).natAbs : Int) ≤ (((u : Int) - v).natAbs : Int) ∧ (u : Int) + v ≤ (w : Int) + z)) := by
  match p, h with
  | 0, _ => exact ⟨G, A, C, R, rfl, (full_at (u := G) (v := A) (w := R) (z := C) rfl).trans (by omega)⟩
  | 1, _ => exact ⟨A, C, R, G, rfl, (full_at (u := A) (v := C) (w := G) (z := R) rfl).trans (by omega)⟩
  | 2, _ => exact ⟨C, R, G, A, rfl, (full_at (u := C) (v := R) (w := A) (z := G) rfl).trans (by omega)⟩
  | 3, _ => exact ⟨R, G, A, C, rfl, (full_at (u := R) (v := G) (w := C) (z := A) rfl).trans (by omega)⟩
  | p + 4, h => omega
theorem ok_turns {f : Addr} {fd : FuncData} (F : Fun K "turns_fully" "turns_fully" sTurns f fd) (nAbs : mg "abs" = none) : FnOk P w K mg base CX0 1 f fd ["lengths", "pin"] (spTurns K) := by
  refine F.ok scTurns (fun vs H Q E h => ?_) (fun cdv A outer s H vs Q E hr h => ?_)
  · obtain ⟨a, G, A, C, R, p, rfl, _⟩ := h
    rfl
  · obtain ⟨a, G, A, C, R, p, rfl, hL, hp, k⟩ := h
    refine ⟨_, pss_cons (ps_set (i := 2) scTurns.nd rfl (Or.inl rfl) (pe_op op_cat (pe_slice sl_list (pv 0) (po_some (pv 1)) po_none) (pe_slice sl_list (pv 0) po_none (po_some (pv 1)))))
      (pss_cons (ps_set (i := 3) scTurns.nd rfl (Or.inl rfl) (pe_callB call_abs (by rfl) nAbs (by decide +kernel) (pa_cons (pe_op op_sub (pe_ix ix_list (pv 2) pe_int (fun _ _ => rfl)) (pe_ix ix_list (pv 2) pe_int (fun _ _ => rfl))) pa_nil)))
      (pss_cons (ps_set (i := 4) scTurns.nd rfl (Or.inl rfl) (pe_op op_add (pe_ix ix_list (pv 2) pe_int (fun _ _ => rfl)) (pe_ix ix_list (pv 2) pe_int (fun _ _ => rfl))))
      (pss_one (ps_ret (pe_and (pe_cmpR op_le (pe_callB call_abs (by rfl) nAbs (by decide +kernel) (pa_cons (pe_op op_sub (pe_ix ix_list (pv 2) pe_int (fun _ _ => rfl)) (pe_ix ix_list (pv 2) pe_int (fun _ _ => rfl))) pa_nil)) (pv 3) (nomark _))
        (pe_one (pe_cmpR op_le (pv 4) (pe_op op_add (pe_ix ix_list (pv 2) pe_int (fun _ _ => rfl)) (pe_ix ix_list (pv 2) pe_int (fun _ _ => rfl))) (nomark _)))))))), ?_⟩
    refine ⟨_, rfl, _, rfl, _, rfl, a, _, rfl, SqL.of hL, fun q1 n1 => ?_⟩
    have s1 : Same H (upd H q1 (.lst (cutV (([(G : Int), (A : Int), (C : Int), (R : Int)]).map V.int) (some (p : Int)) none))) := Same.new n1
    have hL1 := s1 _ _ hL
    refine ⟨_, rfl, _, rfl, _, rfl, a, _, rfl, SqL.of hL1, fun q2 n2 => ?_⟩
    have hq1 := (Same.new (o := .lst (cutV (([(G : Int), (A : Int), (C : Int), (R : Int)]).map V.int) none (some (p : Int)))) n2) _ _ (upd_same : upd H q1 (.lst (cutV (([(G : Int), (A : Int), (C : Int), (R : Int)]).map V.int) (some (p : Int)) none)) q1 = _)
    have s2 := s1.trans (Same.new (o := .lst (cutV (([(G : Int), (A : Int), (C : Int), (R : Int)]).map V.int) none (some (p : Int)))) n2)
    refine ⟨q1, q2, _, _, rfl, rfl, hq1, upd_same, ?_, fun q3 n3 => ?_⟩
    · rw [cutV_tail _ _ (by show p ≤ 4; omega), cutV_head _ _ (by show p ≤ 4; omega), List.length_drop, List.length_take]
      have z : 4 ≤ sizeLine := by decide
      have y : (([(G : Int), (A : Int), (C : Int), (R : Int)]).map V.int).length = 4 := rfl
      rw [y]
      omega
    obtain ⟨u, v, w', z, eb, ef⟩ := full_bars G A C R p hp
    have e3 : cutV (([(G : Int), (A : Int), (C : Int), (R : Int)]).map V.int) (some (p : Int)) none ++ cutV (([(G : Int), (A : Int), (C : Int), (R : Int)]).map V.int) none (some (p : Int)) = ([(u : Int), (v : Int), (w' : Int), (z : Int)]).map V.int := by
      rw [cutV_tail _ _ (by show p ≤ 4; omega), cutV_head _ _ (by show p ≤ 4; omega), ← List.map_drop, ← List.map_take, ← List.map_append, ← eb]
      rfl
    rw [e3]
    have s3 := s2.trans (Same.new (o := .lst (([(u : Int), (v : Int), (w' : Int), (z : Int)]).map V.int)) n3)
    have hb : SqL K (upd (upd (upd H q1 (.lst (cutV (([(G : Int), (A : Int), (C : Int), (R : Int)]).map V.int) (some (p : Int)) none))) q2 (.lst (cutV (([(G : Int), (A : Int), (C : Int), (R : Int)]).map V.int) none (some (p : Int))))) q3 (.lst (([(u : Int), (v : Int), (w' : Int), (z : Int)]).map V.int))) q3 (([(u : Int), (v : Int), (w' : Int), (z : Int)]).map V.int) := SqL.of upd_same
    have i0 : atI (([(u : Int), (v : Int), (w' : Int), (z : Int)]).map V.int) 0 = some (V.int u) := atI_nat (j := 0) rfl
    have i1 : atI (([(u : Int), (v : Int), (w' : Int), (z : Int)]).map V.int) 1 = some (V.int v) := atI_nat (j := 1) rfl
    have i2 : atI (([(u : Int), (v : Int), (w' : Int), (z : Int)]).map V.int) 2 = some (V.int w') := atI_nat (j := 2) rfl
    have i3 : atI (([(u : Int), (v : Int), (w' : Int), (z : Int)]).map V.int) 3 = some (V.int z) := atI_nat (j := 3) rfl
    have k3 := k _ s3
    generalize upd (upd (upd H q1 (.lst (cutV (([(G : Int), (A : Int), (C : Int), (R : Int)]).map V.int) (some (p : Int)) none))) q2 (.lst (cutV (([(G : Int), (A : Int), (C : Int), (R : Int)]).map V.int) none (some (p : Int))))) q3 (.lst (([(u : Int), (v : Int), (w' : Int), (z : Int)]).map V.int)) = H3 at hb k3 ⊢
    generalize ([(u : Int), (v : Int), (w' : Int), (z : Int)]).map V.int = bs at hb i0 i1 i2 i3 ⊢
    refine ⟨_, rfl, q3, bs, 0, _, rfl, rfl, hb, i0, _, rfl, q3, bs, 1, _, rfl, rfl, hb, i1, _, _, rfl, rfl, _, rfl, ?_⟩
    refine ⟨_, rfl, q3, bs, 0, _, rfl, rfl, hb, i0, _, rfl, q3, bs, 1, _, rfl, rfl, hb, i1, _, _, rfl, rfl, ?_⟩
    refine ⟨_, rfl, q3, bs, 2, _, rfl, rfl, hb, i2, _, rfl, q3, bs, 3, _, rfl, rfl, hb, i3, _, _, rfl, rfl, _, rfl, _, rfl, _, _, rfl, rfl, _, rfl, ?_⟩
    rw [abs_is, abs_is]
    by_cases c : (((w' : Int) - z).natAbs : Int) ≤ (((u : Int) - v).natAbs : Int)
    · rw [decide_eq_true c]
      refine iteT ⟨_, rfl, _, rfl, q3, bs, 2, _, rfl, rfl, hb, i2, _, rfl, q3, bs, 3, _, rfl, rfl, hb, i3, _, _, rfl, rfl, _, _, rfl, rfl, ?_⟩
      show Q (V.bl (decide ((u : Int) + v ≤ (w' : Int) + z))) H3
      by_cases d : (u : Int) + v ≤ (w' : Int) + z
      · rw [decide_eq_true d]
        rw [ef.2 ⟨c, d⟩] at k3
        exact k3
      · rw [decide_eq_false d]
        rw [Bool.eq_false_iff.2 (fun q => d (ef.1 q).2)] at k3
        exact k3
    · rw [decide_eq_false c]
      refine iteF ?_
      rw [Bool.eq_false_iff.2 (fun q => c (ef.1 q).1)] at k3
      exact k3
end
abbrev sFull : Stmt := top 1
theorem scFull : FnScope ["g", "a", "c", "r", "pin", "lengths"] ["g", "a", "c", "r", "pin"] (defScope sFull) := ⟨rfl, rfl, rfl, by decide +kernel, rfl, by decide +kernel, by decide +kernel⟩
theorem all_good (G A C R : Nat) : ([(G : Int), (A : Int), (C : Int), (R : Int)]).all okLen = true ↔ Good G A C R := by
  show (okLen G && (okLen A && (okLen C && (okLen R && true)))) = true ↔ _
  unfold Good
  rw [Bool.and_eq_true, Bool.and_eq_true, Bool.and_eq_true, Bool.and_eq_true, okLen_iff, okLen_iff, okLen_iff, okLen_iff]
  refine ⟨fun ⟨h1, h2, h3, h4, _⟩ => ?_, fun h => ?_⟩
  · omega
  · exact ⟨by omega, by omega, by omega, by omega, rfl⟩
def spFull : Sp := fun vs H Q _ => ∃ (G A C R p : Nat), vs = [.int (G : Int), .int (A : Int), .int (C : Int), .int (R : Int), .int (p : Int)] ∧ ∀ (H' : Hp) (l : Addr), H' l = some (.lst ((PyWqapbt.full G A C R p).map V.int)) → Q (.ref l) H'
section
variable {P : Program} {w : World} {K : PySem.W.Frag} {mg : Str → Option Value} {base : Heap}
theorem ok_full {f fL fK fP fT : Addr} {fd fdL fdK fdP fdT : FuncData} (F : Fun K "full" "full" sFull f fd)
    (FL : Fun K "are_lengths" "are_lengths" sLens fL fdL) (bL : Binds K fdL ["lengths"] []) (gL : mg "are_lengths" = some (.ref fL))
    (FP : Fun K "is_pin" "is_pin" sPin fP fdP) (bP : Binds K fdP ["pin"] []) (gP : mg "is_pin" = some (.ref fP))
    (FK : Fun K "kind_of" "kind_of" sKindOf fK fdK) (bK : Binds K fdK ["lengths"] []) (gK : mg "kind_of" = some (.ref fK))
    (FT : Fun K "turns_fully" "turns_fully" sTurns fT fdT) (bT : Binds K fdT ["lengths", "pin"] []) (gT : mg "turns_fully" = some (.ref fT))
    (nAll : mg "all" = none) (nMax : mg "max" = none) (nMin : mg "min" = none) (nSum : mg "sum" = none) (nAbs : mg "abs" = none) : FnOk P w K mg base CX0 2 f fd ["g", "a", "c", "r", "pin"] spFull := by
  have OL : FnOk P w K mg base CX0 1 fL fdL ["lengths"] (spLens K) := ok_lens FL nAll
  have OK : FnOk P w K mg base CX0 1 fK fdK ["lengths"] (spKindOf K) := ok_kind_of FK nMax nMin nSum
  have OP : FnOk P w K mg base CX0 1 fP fdP ["pin"] spPin := ok_pin FP
  have OT : FnOk P w K mg base CX0 1 fT fdT ["lengths", "pin"] (spTurns K) := ok_turns FT nAbs
  refine F.ok scFull (fun vs H Q E h => ?_) (fun cdv A outer s H vs Q E hr h => ?_)
  · obtain ⟨G, A, C, R, p, rfl, _⟩ := h
    rfl
  · obtain ⟨G, A, C, R, p, rfl, k⟩ := h
    refine ⟨_, pss_cons (ps_set (i := 5) scFull.nd rfl (Or.inl rfl) (pe_lst (pa_cons (pv 0) (pa_cons (pv 1) (pa_cons (pv 2) (pa_cons (pv 3) pa_nil))))))
      (pss_cons (ps_if (PW.pt (pw_or (pt_not (pt_val (pe_call OL hr rfl gL FL.kp bL .nil pass0 (pa_cons (pv 5) pa_nil)))) (pw_or1 (pt_not (pt_val (pe_call OP hr rfl gP FP.kp bP .nil pass0 (pa_cons (pv 4) pa_nil)))))))
        (pss_one (ps_ret (pe_lst (pa_cons (pe_un un_neg pe_int) pa_nil)))) pss_nil)
      (pss_cons (ps_if (pt_cmpR op_eq (pe_call OK hr rfl gK FK.kp bK .nil pass0 (pa_cons (pv 5) pa_nil)) pe_int (nomark _)) (pss_one (ps_ret (pe_lst (pa_cons (pe_un un_neg pe_int) pa_nil)))) pss_nil)
      (pss_cons (ps_if (pt_val (pe_call OT hr rfl gT FT.kp bT .nil pass0 (pa_cons (pv 5) (pa_cons (pv 4) pa_nil)))) (pss_one (ps_ret (pe_lst (pa_cons pe_int pa_nil)))) pss_nil)
      (pss_one (ps_ret (pe_lst (pa_cons pe_int pa_nil))))))), ?_⟩
    refine ⟨_, rfl, _, rfl, _, rfl, _, rfl, (by show 4 ≤ sizeLine; decide), fun l hl => ?_⟩
    have hL : (upd H l (.lst (([(G : Int), (A : Int), (C : Int), (R : Int)]).map V.int))) l = some (.lst (([(G : Int), (A : Int), (C : Int), (R : Int)]).map V.int)) := upd_same
    refine ⟨_, rfl, l, _, rfl, SqL.of hL, (by show 4 ≤ 1000; decide), fun H1 s1 => ⟨_, rfl, ?_⟩⟩
    have hL1 := s1 _ _ hL
    by_cases g : Good G A C R
    · rw [(all_good ..).2 g]
      refine iteF ⟨_, rfl, _, rfl, _, rfl, ?_⟩
      by_cases q : p ≤ 3
      · have e : (decide (0 ≤ (p : Int)) && decide ((p : Int) ≤ 3)) = true := by
          rw [decide_eq_true (by omega), decide_eq_true (by omega)]
          rfl
        rw [e]
        refine iteF ⟨_, rfl, l, G, A, C, R, rfl, SqL.of hL1, rfl, _, rfl, ite2 (fun c => ?_) fun c => ?_⟩
        · refine ⟨_, rfl, (by show 1 ≤ sizeLine; decide), fun t ht => k _ t ?_⟩
          have c' : LkFour.Four.kind ⟨G, A, C, R⟩ = 0 := Int.ofNat.inj (V.int.inj (of_decide_eq_true c))
          rw [full_good g q, if_pos c']
          exact upd_same
        have c' : ¬ LkFour.Four.kind ⟨G, A, C, R⟩ = 0 := fun z => c (decide_eq_true (congrArg (fun n : Nat => V.int (n : Int)) z))
        refine ⟨_, rfl, _, rfl, l, G, A, C, R, p, rfl, hL1, q, fun H2 s2 => ⟨_, rfl, ite2 (fun d => ?_) fun d => ?_⟩⟩
        · refine ⟨(by show 1 ≤ sizeLine; decide), fun t ht => k _ t ?_⟩
          rw [full_good g q, if_neg c', if_pos d]
          exact upd_same
        · refine ⟨(by show 1 ≤ sizeLine; decide), fun t ht => k _ t ?_⟩
          rw [full_good g q, if_neg c', if_neg d]
          exact upd_same
      · have e : (decide (0 ≤ (p : Int)) && decide ((p : Int) ≤ 3)) = false := by
          rw [decide_eq_false (show ¬ (p : Int) ≤ 3 by omega), Bool.and_false]
        rw [e]
        refine iteT ⟨_, rfl, (by show 1 ≤ sizeLine; decide), fun t ht => k _ t ?_⟩
        rw [full_bad (fun z => q z.2)]
        exact upd_same
    · have e : ([(G : Int), (A : Int), (C : Int), (R : Int)]).all okLen = false := by
        rw [Bool.eq_false_iff]
        exact fun q => g ((all_good ..).1 q)
      rw [e]
      refine iteT (iteT ⟨_, rfl, (by show 1 ≤ sizeLine; decide), fun q hq => k _ q ?_⟩)
      rw [full_bad (fun z => g z.1)]
      exact upd_same
theorem all_mk {h : Heap} {fa fL fK fP fT : Addr} (X : K.In h) (Gm : h.Ns mainGlobals mg) (hfa : mg "full" = some (.ref fa))
    {od1 an1 od2 an2 od3 an3 od4 an4 od5 an5 : Option Addr} {sl1 sl2 sl3 sl4 sl5 : Array (Option Value)} {oc1 kV1 dc1 pm1 cd1 ct1 oc2 kV2 dc2 pm2 cd2 ct2 oc3 kV3 dc3 pm3 cd3 ct3 oc4 kV4 dc4 pm4 cd4 ct4 oc5 kV5 dc5 pm5 cd5 ct5 : Value}
    (a1 : PySem.W.nsIn K mainGlobals "are_lengths" = some (some (.ref fL))) (l1 : K.lookup fL = some ⟨oc1, od1, .func (PySem.W.fnOf "are_lengths" "are_lengths" (defArgs sLens) (defBody sLens) (defScope sLens) .none kV1 dc1 pm1 an1 cd1 ct1), sl1⟩) (c1 : PySem.W.codeIn K cd1 "are_lengths" = true) (k1 : PySem.W.keepIn K (.ref fL) = true)
    (a2 : PySem.W.nsIn K mainGlobals "kind_of" = some (some (.ref fK))) (l2 : K.lookup fK = some ⟨oc2, od2, .func (PySem.W.fnOf "kind_of" "kind_of" (defArgs sKindOf) (defBody sKindOf) (defScope sKindOf) .none kV2 dc2 pm2 an2 cd2 ct2), sl2⟩) (c2 : PySem.W.codeIn K cd2 "kind_of" = true) (k2 : PySem.W.keepIn K (.ref fK) = true)
    {f3 : Addr} (a3 : PySem.W.nsIn K mainGlobals "full" = some (some (.ref f3))) (l3 : K.lookup f3 = some ⟨oc3, od3, .func (PySem.W.fnOf "full" "full" (defArgs sFull) (defBody sFull) (defScope sFull) .none kV3 dc3 pm3 an3 cd3 ct3), sl3⟩) (c3 : PySem.W.codeIn K cd3 "full" = true) (k3 : PySem.W.keepIn K (.ref f3) = true)
    (a4 : PySem.W.nsIn K mainGlobals "is_pin" = some (some (.ref fP))) (l4 : K.lookup fP = some ⟨oc4, od4, .func (PySem.W.fnOf "is_pin" "is_pin" (defArgs sPin) (defBody sPin) (defScope sPin) .none kV4 dc4 pm4 an4 cd4 ct4), sl4⟩) (c4 : PySem.W.codeIn K cd4 "is_pin" = true) (k4 : PySem.W.keepIn K (.ref fP) = true)
    (a5 : PySem.W.nsIn K mainGlobals "turns_fully" = some (some (.ref fT))) (l5 : K.lookup fT = some ⟨oc5, od5, .func (PySem.W.fnOf "turns_fully" "turns_fully" (defArgs sTurns) (defBody sTurns) (defScope sTurns) .none kV5 dc5 pm5 an5 cd5 ct5), sl5⟩) (c5 : PySem.W.codeIn K cd5 "turns_fully" = true) (k5 : PySem.W.keepIn K (.ref fT) = true)
    (nAll : PySem.W.nsIn K mainGlobals "all" = some none) (nMax : PySem.W.nsIn K mainGlobals "max" = some none) (nMin : PySem.W.nsIn K mainGlobals "min" = some none) (nSum : PySem.W.nsIn K mainGlobals "sum" = some none) (nAbs : PySem.W.nsIn K mainGlobals "abs" = some none) :
    ∃ fd : FuncData, (∀ (s : Shared) (us : List Value), us.length = (["g", "a", "c", "r", "pin"] : List Str).length → BindsTo s fd ⟨us, []⟩ ((["g", "a", "c", "r", "pin"] : List Str).zip us)) ∧ ∀ base : Heap, K.In base → base.Ns mainGlobals mg → FnOk P w K mg base CX0 2 fa fd ["g", "a", "c", "r", "pin"] spFull := by
  have e := hfa.symm.trans (PySem.W.mg_of X Gm a3)
  cases e
  have F1 := fun_mk (st := sLens) l1 c1 k1
  have F2 := fun_mk (st := sKindOf) l2 c2 k2
  have F3 := fun_mk (st := sFull) l3 c3 k3
  have F4 := fun_mk (st := sPin) l4 c4 k4
  have F5 := fun_mk (st := sTurns) l5 c5 k5
  have b1 := F1.binds (ps := ["lengths"]) fun _ _ _ _ _ _ us hl => match us, hl with | [_], _ => rfl
  have b2 := F2.binds (ps := ["lengths"]) fun _ _ _ _ _ _ us hl => match us, hl with | [_], _ => rfl
  have b4 := F4.binds (ps := ["pin"]) fun _ _ _ _ _ _ us hl => match us, hl with | [_], _ => rfl
  have b5 := F5.binds (ps := ["lengths", "pin"]) fun _ _ _ _ _ _ us hl => match us, hl with | [_, _], _ => rfl
  exact ⟨PySem.W.fnOf "full" "full" (defArgs sFull) (defBody sFull) (defScope sFull) .none kV3 dc3 pm3 an3 cd3 ct3, fun s us hu => match us, hu with | [_, _, _, _, _], _ => .of_eq rfl,
    fun base _ _ => ok_full F3 F1 b1 (PySem.W.mg_of X Gm a1) F4 b4 (PySem.W.mg_of X Gm a4) F2 b2 (PySem.W.mg_of X Gm a2) F5 b5 (PySem.W.mg_of X Gm a5) (PySem.W.mg_none_of X Gm nAll) (PySem.W.mg_none_of X Gm nMax) (PySem.W.mg_none_of X Gm nMin) (PySem.W.mg_none_of X Gm nSum) (PySem.W.mg_none_of X Gm nAbs)⟩
end
end My
open PySem PySem.W PyProof.Rows
set_option maxRecDepth 100000 in
set_option maxHeartbeats 0 in
theorem PySem.Challenge.cw_fourbars_s02_full_holds : PySem.Challenge.rw_fourbars_s02_full.Holds := by
  w_on; k_headS; (case hw => exact ⟨[.int 0, .int 0, .int 0, .int 0, .int 0], by decide +kernel, by decide +kernel⟩)
  k_fillS
  refine L2.walk_specK (r := PySem.Challenge.rw_fourbars_s02_full) (k := 2) (CX := L2.CX0) (ps := ["g", "a", "c", "r", "pin"]) (sp := fun _ => My.spFull) (by decide +kernel) rfl rfl ⟨rfl, by decide, by decide⟩ (fun w h Y => PySem.W.kIn_of Y) ?F ?S (fun _ _ _ _ z => z)
  case F =>
    intro w mg fa h Y KX G hmg
    refine' My.all_mk KX G hmg ?a1 ?l1 ?c1 ?k1 ?a2 ?l2 ?c2 ?k2 ?a3 ?l3 ?c3 ?k3 ?a4 ?l4 ?c4 ?k4 ?a5 ?l5 ?c5 ?k5 ?nAll ?nMax ?nMin ?nSum ?nAbs
    (case a1 => k_is); (case l1 => k_is); (case c1 => k_is); (case k1 => k_is)
    (case a2 => k_is); (case l2 => k_is); (case c2 => k_is); (case k2 => k_is)
    (case a3 => k_is); (case l3 => k_is); (case c3 => k_is); (case k3 => k_is)
    (case a4 => k_is); (case l4 => k_is); (case c4 => k_is); (case k4 => k_is)
    (case a5 => k_is); (case l5 => k_is); (case c5 => k_is); (case k5 => k_is)
    (case nAll => k_is); (case nMax => k_is); (case nMin => k_is); (case nSum => k_is); (case nAbs => k_is)
  case S =>
    intro K H xs a hO hwi hask hx
    obtain ⟨g, a, c, r, p, u⟩ := a
    cases hx with
    | cons h1 hx =>
      cases hx with
      | cons h2 hx =>
        cases hx with
        | cons h3 hx =>
          cases hx with
          | cons h4 hx =>
            cases hx with
            | cons h5 hx =>
              cases hx
              cases h1
              cases h2
              cases h3
              cases h4
              cases h5
              have q : (Codec.inInt 0 9223372036854775807 g && (Codec.inInt 0 9223372036854775807 a && (Codec.inInt 0 9223372036854775807 c && (Codec.inInt 0 9223372036854775807 r && (Codec.inInt 0 9223372036854775807 p && true))))) = true := hwi
              simp only [Codec.inInt, Bool.and_eq_true, decide_eq_true_eq] at q
              obtain ⟨⟨q1, _⟩, ⟨q2, _⟩, ⟨q3, _⟩, ⟨q4, _⟩, ⟨q5, _⟩, _⟩ := q
              obtain ⟨G, rfl⟩ := Int.eq_ofNat_of_zero_le q1
              obtain ⟨A, rfl⟩ := Int.eq_ofNat_of_zero_le q2
              obtain ⟨C, rfl⟩ := Int.eq_ofNat_of_zero_le q3
              obtain ⟨R, rfl⟩ := Int.eq_ofNat_of_zero_le q4
              obtain ⟨p', rfl⟩ := Int.eq_ofNat_of_zero_le q5
              exact ⟨G, A, C, R, p', rfl, fun H' l hp => .lst (L2.SqL.of hp) (L2.dw_ints _)⟩
#print axioms PySem.Challenge.cw_fourbars_s02_full_holds
