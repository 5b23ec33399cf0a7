import PyProof.Rows.All
import Wide.All
import OpenK.AllK
import Wide.FinOn
import Open.SpecLaws
import KE.OsHead
import KE.OsGo
import HandS.ForSpec
import HandS.Comp
import PySem.Challenge.RW_fourbars_s04_line
set_option Elab.async false
set_option maxRecDepth 100000
set_option maxHeartbeats 2000000
namespace My
open LkFour LkDSpec
def Good (G A C R : Nat) : Prop := (1 ≤ G ∧ G ≤ 999) ∧ (1 ≤ A ∧ A ≤ 999) ∧ (1 ≤ C ∧ C ≤ 999) ∧ (1 ≤ R ∧ R ≤ 999)
theorem isLength_iff (n : Nat) : LkDSpec.isLength n = true ↔ 1 ≤ n ∧ n ≤ 999 := by
  unfold LkDSpec.isLength
  rw [Bool.and_eq_true, decide_eq_true_iff, decide_eq_true_iff]
  exact Iff.rfl
theorem lengths_iff (G A C R : Nat) : LkDSpec.lengths ⟨G, A, C, R⟩ = true ↔ Good G A C R := by
  unfold LkDSpec.lengths Good
  rw [Bool.and_eq_true, Bool.and_eq_true, Bool.and_eq_true, isLength_iff, isLength_iff, isLength_iff, isLength_iff]
theorem lengths_good {G A C R : Nat} (h : Good G A C R) : LkDSpec.lengths ⟨G, A, C, R⟩ = true := (lengths_iff ..).2 h
theorem lengths_bad {G A C R : Nat} (h : ¬ Good G A C R) : LkDSpec.lengths ⟨G, A, C, R⟩ = false := by
  rw [Bool.eq_false_iff]
  exact fun e => h ((lengths_iff ..).1 e)
theorem kind_step (G A C R : Nat) : PyWqapbt.kind G A C R = Neutral.shown (LkDSpec.answer ⟨⟨G, A, C, R⟩, .kind⟩) := by
  have e : Neutral.callOf [[0, (G : Int), (A : Int), (C : Int), (R : Int)]] = some ⟨⟨G, A, C, R⟩, .kind⟩ := by
    show (if Neutral.whole [(G : Int), (A : Int), (C : Int), (R : Int)] = true then some _ else none) = _
    rw [if_pos (by simp [Neutral.whole])]
    rfl
  show (Neutral.step Neutral.start [[0, (G : Int), (A : Int), (C : Int), (R : Int)]]).2 = _
  unfold Neutral.step
  rw [e]
  rfl
theorem kind_bad {G A C R : Nat} (h : ¬ Good G A C R) : PyWqapbt.kind G A C R = [-1] := by
  rw [kind_step, LkDSpec.answer, if_pos (Or.inl (lengths_bad h))]
  rfl
theorem kind_good {G A C R : Nat} (h : Good G A C R) : PyWqapbt.kind G A C R = [((Four.kind ⟨G, A, C, R⟩ : Nat) : Int)] := by
  rw [kind_step, LkDSpec.answer, if_neg (by rw [lengths_good h]; simp [LkDSpec.fine])]
  rfl
theorem longest_is {G A C R : Nat} {l : Int} (m1 : l = G ∨ l = A ∨ l = C ∨ l = R) (m2 : (G : Int) ≤ l ∧ (A : Int) ≤ l ∧ (C : Int) ≤ l ∧ (R : Int) ≤ l) : ((Four.longest ⟨G, A, C, R⟩ : Nat) : Int) = l := by
  simp only [Four.longest]
  omega
theorem shortest_is {G A C R : Nat} {h : Int} (n1 : h = G ∨ h = A ∨ h = C ∨ h = R) (n2 : h ≤ (G : Int) ∧ h ≤ (A : Int) ∧ h ≤ (C : Int) ∧ h ≤ (R : Int)) : ((Four.shortest ⟨G, A, C, R⟩ : Nat) : Int) = h := by
  simp only [Four.shortest]
  omega
theorem place_is (G A C R h : Int) (n1 : h = G ∨ h = A ∨ h = C ∨ h = R) : ((List.idxOf h [G, A, C, R] : Nat) : Int) = if G = h then 0 else if A = h then 1 else if C = h then 2 else 3 := by
  simp only [List.idxOf_cons, List.idxOf_nil, beq_iff_eq, cond_eq_ite]
  by_cases a : G = h
  · simp [a]
  · by_cases b : A = h
    · simp [a, b]
    · by_cases c : C = h
      · simp [a, b, c]
      · have d : R = h := by omega
        simp [a, b, c, d]
/-- the kind, as the program works it out -/
def kindBy (l h s : Int) (i : Int) : Int := if l > h + (s - l - h) then 0 else if l = h + (s - l - h) then 1 else if h + l > s - l - h then 7 else if h + l = s - l - h then 6 else 2 + i
theorem kind_by {G A C R : Nat} {l h : Int} (m1 : l = G ∨ l = A ∨ l = C ∨ l = R) (m2 : (G : Int) ≤ l ∧ (A : Int) ≤ l ∧ (C : Int) ≤ l ∧ (R : Int) ≤ l)
    (n1 : h = G ∨ h = A ∨ h = C ∨ h = R) (n2 : h ≤ (G : Int) ∧ h ≤ (A : Int) ∧ h ≤ (C : Int) ∧ h ≤ (R : Int)) :
    ((Four.kind ⟨G, A, C, R⟩ : Nat) : Int) = kindBy l h (G + A + C + R) ((List.idxOf h [(G : Int), A, C, R] : Nat) : Int) := by
  have hl := longest_is m1 m2
  have hh := shortest_is n1 n2
  rw [place_is _ _ _ _ _ n1, kindBy]
  simp only [Four.kind, Four.sum]
  generalize Four.longest ⟨G, A, C, R⟩ = l' at *
  generalize Four.shortest ⟨G, A, C, R⟩ = h' at *
  subst hl hh
  have b1 : l' + h' ≤ G + A + C + R := by omega
  have q1 : ((l' : Int) > h' + ((G : Int) + A + C + R - l' - h')) ↔ h' + (G + A + C + R - l' - h') < l' := by omega
  have q2 : ((l' : Int) = h' + ((G : Int) + A + C + R - l' - h')) ↔ h' + (G + A + C + R - l' - h') = l' := by omega
  have q3 : ((h' : Int) + l' > (G : Int) + A + C + R - l' - h') ↔ ¬ (h' + l' < G + A + C + R - l' - h' ∨ h' + l' = G + A + C + R - l' - h') := by omega
  have q4 : ((h' : Int) + l' = (G : Int) + A + C + R - l' - h') ↔ h' + l' = G + A + C + R - l' - h' := by omega
  have p1 : ((G : Int) = h') ↔ G = h' := by omega
  have p2 : ((A : Int) = h') ↔ A = h' := by omega
  have p3 : ((C : Int) = h') ↔ C = h' := by omega
  simp only [q1, q2, q3, q4, p1, p2, p3]
  by_cases c1 : h' + (G + A + C + R - l' - h') < l'
  · simp [c1]
  · by_cases c2 : h' + (G + A + C + R - l' - h') = l'
    · simp [c1, c2]
    · by_cases c3 : h' + l' < G + A + C + R - l' - h'
      · have c4 : ¬ (h' + l' = G + A + C + R - l' - h') := by omega
        simp only [c1, c2, c3, c4, if_true, if_false, true_or, not_true_eq_false]
        by_cases d1 : G = h'
        · simp [d1]
        · by_cases d2 : A = h'
          · simp [d1, d2]
          · by_cases d3 : C = h' <;> simp [d1, d2, d3]
      · by_cases c4 : h' + l' = G + A + C + R - l' - h' <;> simp [c1, c2, c3, c4]
end My
namespace My
open LkFour LkDSpec
theorem full_step (G A C R p : Nat) : PyWqapbt.full G A C R p = Neutral.shown (LkDSpec.answer ⟨⟨G, A, C, R⟩, .full p⟩) := by
  have e : Neutral.callOf [[1, (G : Int), (A : Int), (C : Int), (R : Int), (p : Int)]] = some ⟨⟨G, A, C, R⟩, .full p⟩ := by
    show (if Neutral.whole [(G : Int), (A : Int), (C : Int), (R : Int), (p : Int)] = true then some _ else none) = _
    rw [if_pos (by simp [Neutral.whole])]
    rfl
  show (Neutral.step Neutral.start [[1, (G : Int), (A : Int), (C : Int), (R : Int), (p : Int)]]).2 = _
  unfold Neutral.step
  rw [e]
  rfl
theorem full_bad {G A C R p : Nat} (h : ¬ (Good G A C R ∧ p ≤ 3)) : PyWqapbt.full G A C R p = [-1] := by
  rw [full_step, LkDSpec.answer, if_pos]
  · rfl
  · by_cases g : Good G A C R
    · refine Or.inr ?_
      show decide (p ≤ 3) = false
      exact decide_eq_false (fun q => h ⟨g, q⟩)
    · exact Or.inl (lengths_bad g)
theorem full_good {G A C R p : Nat} (h : Good G A C R) (q : p ≤ 3) : PyWqapbt.full G A C R p = [if Four.kind ⟨G, A, C, R⟩ = 0 then -2 else if Four.full ⟨G, A, C, R⟩ p = true then 1 else 0] := by
  rw [full_step, LkDSpec.answer, if_neg (by rw [lengths_good h]; simp [LkDSpec.fine, q])]
  show Neutral.shown (if Four.kind ⟨G, A, C, R⟩ = 0 then LkDSpec.says (-2) else LkDSpec.says (if Four.full ⟨G, A, C, R⟩ p = true then 1 else 0)) = _
  split <;> rfl
/-- the distance of two numbers, as abs gives it -/
theorem gap_is (x y : Nat) : ((gap x y : Nat) : Int) = (((x : Int) - y).natAbs : Int) := by
  unfold gap
  omega
theorem full_at {G A C R p u v w z : Nat} (e : Four.at_ ⟨G, A, C, R⟩ p = (u, v, w, z)) : Four.full ⟨G, A, C, R⟩ p = true ↔ ((((w : Int) - z).natAbs : Int) ≤ (((u : Int) - v).natAbs : Int) ∧ (u : Int) + v ≤ (w : Int) + z) := by
  unfold Four.full
  rw [e]
  show (decide (u + v ≤ w + z) && decide (gap w z ≤ gap u v)) = true ↔ _
  rw [Bool.and_eq_true, decide_eq_true_iff, decide_eq_true_iff]
  have a := gap_is w z
  have b := gap_is u v
  omega
end My
namespace My
open LkFour LkDSpec
theorem cosine_div (u v : Nat) (sq : Int) : cosine u v sq = Rat.divInt ((u : Int) * u + (v : Int) * v - sq) (2 * u * v) := by
  rw [Rat.divInt_eq_div]
  unfold cosine
  simp only [Rat.intCast_sub, Rat.intCast_add, Rat.intCast_mul, Rat.intCast_natCast, Rat.natCast_add, Rat.natCast_mul]
  rfl
theorem two_div {n d : Int} (hd : 0 < d) : two (Rat.divInt n d) = [n / (Int.gcd d n : Int), d / (Int.gcd d n : Int)] := by
  unfold two
  have e : ((d.natAbs / d.gcd n : Nat) : Int) = d / (Int.gcd d n : Int) := by
    rw [Int.natCast_ediv, Int.natAbs_of_nonneg (Int.le_of_lt hd)]
  rw [Rat.num_divInt, Rat.den_divInt, if_neg (show ¬ d = 0 by omega), Int.sign_eq_one_of_pos hd, Int.one_mul, e]
/-- a fraction in lowest terms is told as it stands -/
theorem two_low {n d a b : Int} (hb : 0 < b) (hd : d ≠ 0) (e : a * d = n * b) (g : Int.gcd a b = 1) : two (Rat.divInt n d) = [a, b] := by
  have h : Rat.divInt n d = Rat.divInt a b := (Rat.divInt_eq_divInt_iff hd (by omega)).2 e.symm
  rw [h, two_div hb, Int.gcd_comm, g]
  simp
/-- divided by any common measure that is the greatest -/
theorem two_by {n d k : Int} (hd : 0 < d) (hk : k = (Int.gcd n d : Int)) : two (Rat.divInt n d) = [n / k, d / k] := by
  rw [two_div hd, hk, Int.gcd_comm]
end My
namespace My
open LkFour LkDSpec
theorem frac_div (x y z e k : Int) : ((x * x + y - z : Rat) / (2 * e * k : Rat)) = Rat.divInt (x * x + y - z) (2 * e * k) := by
  rw [Rat.divInt_eq_div]
  simp only [Rat.intCast_sub, Rat.intCast_add, Rat.intCast_mul]
  rfl
theorem line_opp {f : Four} {pin : Nat} {fo : Bool} {o u v w z : Nat} {d : Int} (e : f.at_ pin = (u, v, w, z)) (ed : f.apart pin fo = d) (h : o = (pin + 2) % 4) :
    f.lineCosine pin fo o = some (Rat.divInt ((w : Int) * w + (z : Int) * z - d * d) (2 * w * z)) := by
  unfold Four.lineCosine
  rw [e, ed]
  simp only [if_pos h]
  rw [cosine_div]
theorem line_any {f : Four} {pin : Nat} {fo : Bool} {o u v w z : Nat} {d : Int} (e : f.at_ pin = (u, v, w, z)) (ed : f.apart pin fo = d) (h : o ≠ (pin + 2) % 4) (h0 : d = 0) :
    f.lineCosine pin fo o = none := by
  unfold Four.lineCosine
  rw [e, ed]
  simp only [if_neg h, if_pos h0]
theorem line_before {f : Four} {pin : Nat} {fo : Bool} {o u v w z : Nat} {d : Int} (e : f.at_ pin = (u, v, w, z)) (ed : f.apart pin fo = d) (h : o ≠ (pin + 2) % 4) (h0 : d ≠ 0) (h1 : o = (pin + 3) % 4) :
    f.lineCosine pin fo o = some (Rat.divInt (d * d + (w : Int) * w - (z : Int) * z) (2 * d * w)) := by
  unfold Four.lineCosine
  rw [e, ed]
  simp only [if_neg h, if_neg h0, if_pos h1]
  rw [← frac_div]
  simp only [Rat.intCast_mul, Rat.intCast_natCast, Rat.natCast_mul]
theorem line_behind {f : Four} {pin : Nat} {fo : Bool} {o u v w z : Nat} {d : Int} (e : f.at_ pin = (u, v, w, z)) (ed : f.apart pin fo = d) (h : o ≠ (pin + 2) % 4) (h0 : d ≠ 0) (h1 : o ≠ (pin + 3) % 4) :
    f.lineCosine pin fo o = some (Rat.divInt (d * d + (z : Int) * z - (w : Int) * w) (2 * (if fo = true then -d else d) * z)) := by
  unfold Four.lineCosine
  rw [e, ed]
  simp only [if_neg h, if_neg h0, if_neg h1]
  rw [← frac_div]
  simp only [Rat.intCast_mul, Rat.intCast_natCast, Rat.natCast_mul]
theorem range_step (G A C R p : Nat) : PyWqapbt.range_of G A C R p = Neutral.shown (LkDSpec.answer ⟨⟨G, A, C, R⟩, .range p⟩) := by
  have e : Neutral.callOf [[2, (G : Int), (A : Int), (C : Int), (R : Int), (p : Int)]] = some ⟨⟨G, A, C, R⟩, .range p⟩ := by
    show (if Neutral.whole [(G : Int), (A : Int), (C : Int), (R : Int), (p : Int)] = true then some _ else none) = _
    rw [if_pos (by simp [Neutral.whole])]
    rfl
  show (Neutral.step Neutral.start [[2, (G : Int), (A : Int), (C : Int), (R : Int), (p : Int)]]).2 = _
  unfold Neutral.step
  rw [e]
  rfl
theorem range_bad {G A C R p : Nat} (h : ¬ (Good G A C R ∧ p ≤ 3)) : PyWqapbt.range_of G A C R p = [-1] := by
  rw [range_step, LkDSpec.answer, if_pos]
  · rfl
  · by_cases g : Good G A C R
    · refine Or.inr ?_
      show decide (p ≤ 3) = false
      exact decide_eq_false (fun q => h ⟨g, q⟩)
    · exact Or.inl (lengths_bad g)
theorem range_good {G A C R p : Nat} (h : Good G A C R) (q : p ≤ 3) : PyWqapbt.range_of G A C R p =
    if Four.kind ⟨G, A, C, R⟩ = 0 then [-2] else 0 :: 4 :: (two (Four.range ⟨G, A, C, R⟩ p).1 ++ two (Four.range ⟨G, A, C, R⟩ p).2) := by
  rw [range_step, LkDSpec.answer, if_neg (by rw [lengths_good h]; simp [LkDSpec.fine, q])]
  show Neutral.shown (if Four.kind ⟨G, A, C, R⟩ = 0 then LkDSpec.says (-2) else ⟨0, [two (Four.range ⟨G, A, C, R⟩ p).1 ++ two (Four.range ⟨G, A, C, R⟩ p).2]⟩) = _
  split
  · rfl
  · simp [Neutral.shown, two]
theorem two_neg_one : two (-1) = [-1, 1] := by decide +kernel
theorem two_one : two 1 = [1, 1] := by decide +kernel
theorem range_at {G A C R p u v w z : Nat} (e : Four.at_ ⟨G, A, C, R⟩ p = (u, v, w, z)) : Four.range ⟨G, A, C, R⟩ p =
    (if u + v ≤ w + z then -1 else Rat.divInt ((u : Int) * u + (v : Int) * v - (((w + z) * (w + z) : Nat) : Int)) (2 * u * v), if gap w z ≤ gap u v then 1 else Rat.divInt ((u : Int) * u + (v : Int) * v - ((gap w z * gap w z : Nat) : Int)) (2 * u * v)) := by
  unfold Four.range
  rw [e]
  simp only [cosine_div]
theorem line_step (G A C R x y z : Nat) : PyWqapbt.line G A C R x y z = Neutral.shown (LkDSpec.answer ⟨⟨G, A, C, R⟩, .line x y z⟩) := by
  have e : Neutral.callOf [[3, (G : Int), (A : Int), (C : Int), (R : Int), (x : Int), (y : Int), (z : Int)]] = some ⟨⟨G, A, C, R⟩, .line x y z⟩ := by
    show (if Neutral.whole [(G : Int), (A : Int), (C : Int), (R : Int), (x : Int), (y : Int), (z : Int)] = true then some _ else none) = _
    rw [if_pos (by simp [Neutral.whole])]
    rfl
  show (Neutral.step Neutral.start [[3, (G : Int), (A : Int), (C : Int), (R : Int), (x : Int), (y : Int), (z : Int)]]).2 = _
  unfold Neutral.step
  rw [e]
  rfl
end My
namespace My
open LkFour LkDSpec
theorem fine_line (x y z : Nat) : LkDSpec.fine (.line x y z) = true ↔ x ≤ 3 ∧ z ≤ 3 ∧ y ≤ 1 ∧ z ≠ x := by
  show (decide (x ≤ 3) && (decide (z ≤ 3) && (decide (y ≤ 1) && z != x))) = true ↔ _
  rw [Bool.and_eq_true, Bool.and_eq_true, Bool.and_eq_true, decide_eq_true_iff, decide_eq_true_iff, decide_eq_true_iff, bne_iff_ne]
theorem line_bad {G A C R x y z : Nat} (h : ¬ (Good G A C R ∧ x ≤ 3 ∧ z ≤ 3 ∧ y ≤ 1 ∧ z ≠ x)) : PyWqapbt.line G A C R x y z = [-1] := by
  rw [line_step, LkDSpec.answer, if_pos]
  · rfl
  · by_cases g : Good G A C R
    · refine Or.inr ?_
      rw [Bool.eq_false_iff]
      exact fun e => h ⟨g, (fine_line ..).1 e⟩
    · exact Or.inl (lengths_bad g)
theorem line_good {G A C R x y z : Nat} (h : Good G A C R) (q : x ≤ 3 ∧ z ≤ 3 ∧ y ≤ 1 ∧ z ≠ x) : PyWqapbt.line G A C R x y z =
    if Four.kind ⟨G, A, C, R⟩ = 0 then [-2] else if Four.inLine ⟨G, A, C, R⟩ x (y == 1) = false then [0, 0] else
      match Four.lineCosine ⟨G, A, C, R⟩ x (y == 1) z with
      | some t => 1 :: 2 :: two t
      | none => [-5] := by
  rw [line_step, LkDSpec.answer, if_neg (by rw [lengths_good h, (fine_line ..).2 q]; simp)]
  show Neutral.shown (if Four.kind ⟨G, A, C, R⟩ = 0 then LkDSpec.says (-2) else if Four.inLine ⟨G, A, C, R⟩ x (y == 1) = false then ⟨0, [[]]⟩ else (match Four.lineCosine ⟨G, A, C, R⟩ x (y == 1) z with | some t => ⟨1, [two t]⟩ | none => LkDSpec.says (-5))) = _
  split
  · rfl
  · split
    · rfl
    · cases Four.lineCosine ⟨G, A, C, R⟩ x (y == 1) z with
      | none => rfl
      | some t => simp [Neutral.shown, two]
theorem inLine_at {f : Four} {pin : Nat} {fo : Bool} {u v w z : Nat} {d : Int} (e : f.at_ pin = (u, v, w, z)) (ed : f.apart pin fo = d) : f.inLine pin fo = true ↔ (((w : Int) - z).natAbs : Int) ≤ (d.natAbs : Int) ∧ (d.natAbs : Int) ≤ (w : Int) + z := by
  unfold Four.inLine
  rw [e, ed]
  show (decide (gap w z ≤ d.natAbs) && decide (d.natAbs ≤ w + z)) = true ↔ _
  rw [Bool.and_eq_true, decide_eq_true_iff, decide_eq_true_iff]
  have a := gap_is w z
  omega
theorem apart_at {f : Four} {pin : Nat} {fo : Bool} {u v w z : Nat} (e : f.at_ pin = (u, v, w, z)) : f.apart pin fo = if fo = true then (u : Int) - v else (u : Int) + v := by
  unfold Four.apart
  rw [e]
theorem circuits_step (G A C R : Nat) : PyWqapbt.circuits G A C R = Neutral.shown (LkDSpec.answer ⟨⟨G, A, C, R⟩, .circuits⟩) := by
  have e : Neutral.callOf [[4, (G : Int), (A : Int), (C : Int), (R : Int)]] = some ⟨⟨G, A, C, R⟩, .circuits⟩ := by
    show (if Neutral.whole [(G : Int), (A : Int), (C : Int), (R : Int)] = true then some _ else none) = _
    rw [if_pos (by simp [Neutral.whole])]
    rfl
  show (Neutral.step Neutral.start [[4, (G : Int), (A : Int), (C : Int), (R : Int)]]).2 = _
  unfold Neutral.step
  rw [e]
  rfl
theorem circuits_bad {G A C R : Nat} (h : ¬ Good G A C R) : PyWqapbt.circuits G A C R = [-1] := by
  rw [circuits_step, LkDSpec.answer, if_pos (Or.inl (lengths_bad h))]
  rfl
theorem circuits_good {G A C R : Nat} (h : Good G A C R) : PyWqapbt.circuits G A C R = [if Four.kind ⟨G, A, C, R⟩ = 0 then 0 else if 2 ≤ Four.kind ⟨G, A, C, R⟩ ∧ Four.kind ⟨G, A, C, R⟩ ≤ 5 then 2 else 1] := by
  rw [circuits_step, LkDSpec.answer, if_neg (by rw [lengths_good h]; simp [LkDSpec.fine])]
  show [((Four.circuits ⟨G, A, C, R⟩ : Nat) : Int)] = _
  unfold Four.circuits
  by_cases a : Four.kind ⟨G, A, C, R⟩ = 0
  · rw [if_pos a, if_pos a]
    rfl
  · rw [if_neg a, if_neg a]
    by_cases b : 2 ≤ Four.kind ⟨G, A, C, R⟩ ∧ Four.kind ⟨G, A, C, R⟩ ≤ 5
    · rw [if_pos b, if_pos b]
      rfl
    · rw [if_neg b, if_neg b]
      rfl
end My
namespace My
open LkFour LkDSpec
/-- the fraction's two numbers, divided by the greatest common measure with the sign of the lower one -/
theorem two_fdiv {n d k : Int} (hd : d ≠ 0) (hk : k = if d < 0 then -((Nat.gcd n.natAbs d.natAbs : Nat) : Int) else ((Nat.gcd n.natAbs d.natAbs : Nat) : Int)) : two (Rat.divInt n d) = [n.fdiv k, d.fdiv k] := by
  have g0 : (0 : Int) < (Int.gcd n d : Int) := by
    have : 0 < Int.gcd n d := Int.gcd_pos_of_ne_zero_right n hd
    omega
  have eg : ((Nat.gcd n.natAbs d.natAbs : Nat) : Int) = (Int.gcd n d : Int) := rfl
  by_cases c : d < 0
  · rw [if_pos c, eg] at hk
    have e1 : Rat.divInt n d = Rat.divInt (-n) (-d) := by
      rw [Rat.divInt_eq_divInt_iff hd (by omega)]
      grind
    have e2 : (Int.gcd (-n) (-d) : Int) = (Int.gcd n d : Int) := by
      rw [Int.gcd_neg, Int.neg_gcd]
    rw [e1, two_by (k := (Int.gcd n d : Int)) (by omega) e2.symm]
    obtain ⟨x, hx⟩ := Int.gcd_dvd_left n d
    obtain ⟨y, hy⟩ := Int.gcd_dvd_right n d
    have f : ∀ {m x : Int}, m = (Int.gcd n d : Int) * x → -m / (Int.gcd n d : Int) = m.fdiv k := by
      intro m x e
      have l : -m / (Int.gcd n d : Int) = -x := by
        rw [show -m = (Int.gcd n d : Int) * (-x) by rw [e]; grind]
        exact Int.mul_ediv_cancel_left _ (by omega)
      have r : m.fdiv k = -x := by
        rw [show m = k * (-x) by rw [e, hk]; grind]
        exact Int.mul_fdiv_cancel_left _ (by omega)
      rw [l, r]
    rw [f hx, f hy]
  · rw [if_neg c, eg] at hk
    rw [two_by (k := k) (by omega) hk, Int.fdiv_eq_ediv_of_nonneg _ (by omega), Int.fdiv_eq_ediv_of_nonneg _ (by omega)]
/-- the same with the bars by their places round the figure -/
theorem bars_at {G A C R p : Nat} (h : p ≤ 3) : ∃ u v w z : Nat, ([(G : Int), (A : Int), (C : Int), (R : Int)]).drop p ++ ([(G : Int), (A : Int), (C : Int), (R : Int)]).take p = [(u : Int), (v : Int), (z : Int), (w : Int)] ∧ Four.at_ ⟨G, A, C, R⟩ p = (u, v, w, z) ∧
    (Good G A C R → (1 ≤ u ∧ u ≤ 999) ∧ (1 ≤ v ∧ v ≤ 999) ∧ (1 ≤ w ∧ w ≤ 999) ∧ (1 ≤ z ∧ z ≤ 999)) := by
  match p, h with
  | 0, _ => exact ⟨G, A, R, C, rfl, rfl, fun ⟨a, b, c, d⟩ => ⟨a, b, d, c⟩⟩
  | 1, _ => exact ⟨A, C, G, R, rfl, rfl, fun ⟨a, b, c, d⟩ => ⟨b, c, a, d⟩⟩
  | 2, _ => exact ⟨C, R, A, G, rfl, rfl, fun ⟨a, b, c, d⟩ => ⟨c, d, b, a⟩⟩
  | 3, _ => exact ⟨R, G, C, A, rfl, rfl, fun ⟨a, b, c, d⟩ => ⟨d, a, c, b⟩⟩
  | p + 4, h => omega
/-- the cosine between two sides, told the third -/
def cosZ (x y z : Int) : Rat := Rat.divInt (x * x + y * y - z * z) (2 * x * y)
theorem cosZ_sum {u v : Nat} (hu : 1 ≤ u) (hv : 1 ≤ v) : cosZ u v ((u : Int) + v) = -1 := by
  have p : (2 : Int) * u * v ≠ 0 := by
    have := Int.mul_pos (show (0 : Int) < 2 * u by omega) (show (0 : Int) < v by omega)
    omega
  have e : (-1 : Rat) = Rat.divInt (-1) 1 := by decide +kernel
  unfold cosZ
  rw [e, Rat.divInt_eq_divInt_iff p (by decide)]
  grind
theorem cosZ_gap {u v : Nat} (hu : 1 ≤ u) (hv : 1 ≤ v) : cosZ u v ((((u : Int) - v).natAbs : Nat) : Int) = 1 := by
  have p : (2 : Int) * u * v ≠ 0 := by
    have := Int.mul_pos (show (0 : Int) < 2 * u by omega) (show (0 : Int) < v by omega)
    omega
  have e : (1 : Rat) = Rat.divInt 1 1 := by decide +kernel
  unfold cosZ
  rw [e, Rat.divInt_eq_divInt_iff p (by decide)]
  rcases Int.natAbs_eq ((u : Int) - v) with h | h <;> grind
theorem range_is {G A C R p u v w z : Nat} (e : Four.at_ ⟨G, A, C, R⟩ p = (u, v, w, z)) (hu : 1 ≤ u) (hv : 1 ≤ v) {near far : Int}
    (hn : (near = (((u : Int) - v).natAbs : Int) ∧ (((z : Int) - w).natAbs : Int) ≤ near) ∨ (near = (((z : Int) - w).natAbs : Int) ∧ (((u : Int) - v).natAbs : Int) ≤ near))
    (hf : (far = (u : Int) + v ∧ far ≤ (z : Int) + w) ∨ (far = (z : Int) + w ∧ far ≤ (u : Int) + v)) :
    Four.range ⟨G, A, C, R⟩ p = (cosZ u v far, cosZ u v near) := by
  rw [range_at e]
  have a := gap_is w z
  have b := gap_is u v
  have c1 := cosZ_sum hu hv
  have c2 := cosZ_gap hu hv
  refine Prod.ext ?_ ?_
  · show (if u + v ≤ w + z then (-1 : Rat) else _) = cosZ u v far
    split
    · rw [← c1]
      congr 1
      omega
    · unfold cosZ
      rw [show far = ((w + z : Nat) : Int) by omega]
      rfl
  · show (if gap w z ≤ gap u v then (1 : Rat) else _) = cosZ u v near
    split
    · rw [← c2]
      congr 1
      omega
    · unfold cosZ
      rw [show near = ((gap w z : Nat) : Int) by omega]
      rfl
/-- the pins from one on to another -/
theorem pins_step {p o : Nat} (hp : p ≤ 3) (ho : o ≤ 3) (hne : o ≠ p) : ∃ s : Int, ((o : Int) - p).fmod 4 = s ∧ (s = 1 ∧ o ≠ (p + 2) % 4 ∧ o ≠ (p + 3) % 4 ∨ s = 2 ∧ o = (p + 2) % 4 ∨ s = 3 ∧ o ≠ (p + 2) % 4 ∧ o = (p + 3) % 4) ∧ ((s = 2) ↔ (((o : Int) - p).natAbs : Int) = 2) := by
  refine ⟨_, rfl, ?_⟩
  rw [Int.fmod_eq_emod_of_nonneg _ (by decide)]
  omega
theorem line_is {f : Four} {pin : Nat} {fo : Bool} {o u v w z : Nat} {d : Int} (e : f.at_ pin = (u, v, w, z)) (ed : f.apart pin fo = d) {s : Int}
    (hs : s = 1 ∧ o ≠ (pin + 2) % 4 ∧ o ≠ (pin + 3) % 4 ∨ s = 2 ∧ o = (pin + 2) % 4 ∨ s = 3 ∧ o ≠ (pin + 2) % 4 ∧ o = (pin + 3) % 4) :
    f.lineCosine pin fo o = if d = 0 ∧ s ≠ 2 then none else some (if s = 1 then cosZ (if fo = true then -d else d) z w else if s = 2 then cosZ z w d else cosZ d w z) := by
  rcases hs with ⟨rfl, h2, h3⟩ | ⟨rfl, h2⟩ | ⟨rfl, h2, h3⟩
  · by_cases h0 : d = 0
    · rw [line_any e ed h2 h0, if_pos ⟨h0, by decide⟩]
    · rw [line_behind e ed h2 h0 h3, if_neg (fun q : d = 0 ∧ (1 : Int) ≠ 2 => h0 q.1), if_pos (show (1 : Int) = 1 from rfl)]
      unfold cosZ
      congr 2
      cases fo
      · rfl
      · show d * d + _ - _ = -d * -d + _ - _
        grind
  · rw [line_opp e ed h2, if_neg (fun q => q.2 rfl), if_neg (by decide), if_pos rfl]
    unfold cosZ
    congr 2
    · grind
    · grind
  · by_cases h0 : d = 0
    · rw [line_any e ed h2 h0, if_pos ⟨h0, by decide⟩]
    · rw [line_before e ed h2 h0 h3, if_neg (fun q : d = 0 ∧ (3 : Int) ≠ 2 => h0 q.1), if_neg (by decide), if_neg (by decide)]
      rfl
end My
namespace My
open PySem PySem.Spec PyProof.Rows L2
open PySem.W (Codec)
def top (i : Nat) : Stmt := PySem.Challenge.pw_fourbars_s04_line.main.body.getD i (.Pass ⟨0, 0, 0, 0⟩)
theorem Same.new {H : Hp} {p : Addr} {o : HO} (h : H p = none) : Same H (upd H p o) := fun b u e => by
  rw [upd_ne (ne_of_none e h)]
  exact e
theorem at_map {ns : List Int} {i : Nat} {x : V} (h : (ns.map V.int)[i]? = some x) : ∃ z, ns[i]? = some z ∧ x = V.int z := by
  rw [List.getElem?_map] at h
  cases e : ns[i]? with
  | none =>
    rw [e] at h
    cases h
  | some z =>
    rw [e] at h
    exact ⟨z, rfl, (Option.some.inj h).symm⟩
theorem take_more {α : Type} : ∀ {l : List α} {i : Nat} {x : α}, l[i]? = some x → l.take (i + 1) = l.take i ++ [x]
  | [], i, x, h => by simp at h
  | a :: l, 0, x, h => by
    have e : a = x := Option.some.inj h
    subst e
    rfl
  | a :: l, i + 1, x, h => by
    have ih := take_more (l := l) (i := i) (x := x) h
    show a :: l.take (i + 1) = a :: l.take i ++ [x]
    rw [ih]
    rfl
theorem idx_ne {a h : Int} {l : List Int} (e : ¬ a = h) : (a :: l).idxOf h = l.idxOf h + 1 := by
  rw [List.idxOf_cons, beq_eq_false_iff_ne.2 e]
  rfl
theorem index_at : ∀ {ns : List Int} {h : Int}, h ∈ ns → (ns.map V.int)[ns.idxOf h]? = some (V.int h)
  | [], h, m => by simp at m
  | a :: l, h, m => by
    by_cases e : a = h
    · subst e
      rw [List.idxOf_cons_self]
      rfl
    · have m' : h ∈ l := by
        rcases List.mem_cons.1 m with q | q
        · exact absurd q.symm e
        · exact q
      rw [idx_ne e]
      exact index_at m'
theorem index_ahead : ∀ {ns : List Int} {h : Int} {m : Nat} {z : V}, m < ns.idxOf h → (ns.map V.int)[m]? = some z → eqV z (V.int h) = false
  | [], h, m, z, l, e => by simp at e
  | a :: r, h, 0, z, l, e => by
    have ez : V.int a = z := Option.some.inj e
    subst ez
    show (a == h) = false
    rw [beq_eq_false_iff_ne]
    intro q
    subst q
    rw [List.idxOf_cons_self] at l
    exact absurd l (Nat.lt_irrefl 0)
  | a :: r, h, m + 1, z, l, e => by
    by_cases q : a = h
    · subst q
      rw [List.idxOf_cons_self] at l
      exact absurd l (Nat.not_lt_zero _)
    · rw [idx_ne q] at l
      exact index_ahead (ns := r) (Nat.lt_of_succ_lt_succ l) e
theorem flat_ints : ∀ ns : List Int, (ns.map V.int).all flatV = true
  | [] => rfl
  | _ :: r => by
    show (true && (r.map V.int).all flatV) = true
    rw [flat_ints r]
    rfl
theorem not_t {p : Prop} [Decidable p] (c : (!decide p) = true) : ¬ p := by
  intro h
  rw [decide_eq_true h] at c
  exact Bool.noConfusion c
theorem not_f {p : Prop} [Decidable p] (c : ¬ (!decide p) = true) : p := by
  by_cases h : p
  · exact h
  · refine absurd ?_ c
    rw [decide_eq_false h]
    rfl
def okLen (n : Int) : Bool := decide (1 ≤ n) && decide (n ≤ 999)
theorem okLen_iff (n : Int) : okLen n = true ↔ 1 ≤ n ∧ n ≤ 999 := by
  unfold okLen
  rw [Bool.and_eq_true, decide_eq_true_iff, decide_eq_true_iff]
/-- the bars from a pin on -/
def barsAt (l : List Int) (p : Nat) : List Int := l.drop p ++ l.take p
theorem abs_is (i : Int) : (if i < 0 then -i else i) = (i.natAbs : Int) := by
  split <;> omega
theorem cutV_tail (l : List V) (p : Nat) (h : p ≤ l.length) : cutV l (some (p : Int)) none = l.drop p := by
  unfold cutV
  rw [HT.sIx_nat, HT.sIx_none, Nat.min_eq_left h]
  exact List.take_of_length_le (by rw [List.length_drop]; omega)
theorem cutV_head (l : List V) (p : Nat) (h : p ≤ l.length) : cutV l none (some (p : Int)) = l.take p := by
  unfold cutV
  rw [HT.sIx_nat, HT.sIx_none, Nat.min_eq_left h]
  rfl
theorem all_good (G A C R : Nat) : ([(G : Int), (A : Int), (C : Int), (R : Int)]).all okLen = true ↔ Good G A C R := by
  show (okLen G && (okLen A && (okLen C && (okLen R && true)))) = true ↔ _
  unfold Good
  rw [Bool.and_eq_true, Bool.and_eq_true, Bool.and_eq_true, Bool.and_eq_true, okLen_iff, okLen_iff, okLen_iff, okLen_iff]
  refine ⟨fun ⟨h1, h2, h3, h4, _⟩ => ?_, fun h => ?_⟩
  · omega
  · exact ⟨by omega, by omega, by omega, by omega, rfl⟩
abbrev sLens : Stmt := top 2
theorem scLens : FnScope ["lengths", "length"] ["lengths"] (defScope sLens) := ⟨rfl, rfl, rfl, by decide +kernel, rfl, by decide +kernel, by decide +kernel⟩
def spLens (K : PySem.W.Frag) : Sp := fun vs H Q _ => ∃ (a : Addr) (ns : List Int), vs = [.ref a] ∧ SqL K H a (ns.map V.int) ∧ ns.length ≤ 1000 ∧ ∀ H' : Hp, Same H H' → Q (.bl (ns.all okLen)) H'
section
variable {P : Program} {w : World} {K : PySem.W.Frag} {mg : Str → Option Value} {base : Heap}
theorem ok_Lens {f : Addr} {fd : FuncData} (F : Fun K "are_lengths" "are_lengths" sLens f fd) (nAll : mg "all" = none) : FnOk P w K mg base CX0 1 f fd ["lengths"] (spLens K) := by
  refine F.ok scLens (fun vs H Q E h => ?_) (fun cdv A outer s H vs Q E hr h => ?_)
  · obtain ⟨a, ns, rfl, _⟩ := h
    rfl
  · obtain ⟨a, ns, rfl, hS, hlen, k⟩ := h
    refine ⟨_, pss_one (ps_ret (pe_callB (cr_all rfl) (by rfl) nAll (by decide +kernel) (pa_cons
      (pe_lc (own := [("length", 1)]) (g := gName 1) (tt := tYes) rfl scLens.nd (pi_list (pv 0)) (blkOk_by (N := ["lengths", "length"]) (sc := defScope sLens) (by decide +kernel))
        (fun _ _ _ _ _ => pg_name (i := 1) scLens.nd rfl (Or.inl rfl)) (fun _ _ _ _ _ => pts_nil) (fun _ _ _ _ _ => pe_chain op_le op_le pe_int (pv 1) pe_int)) pa_nil))), ?_⟩
    refine ⟨_, rfl, a, rfl, ⟨_, hS⟩, fun D hD => lc_list (K := K) (a := a) (xs := ns.map V.int) (fun i H' => Same H H' ∧ H' D = some (.lst (((ns.take i).map okLen).map V.bl)))
      ⟨Same.new hD, upd_same⟩ (fun i H' _ q => q.1.seq hS) ?_ ?_⟩
    · rintro i x H' hi ⟨sm, hd⟩
      obtain ⟨z, hz, rfl⟩ := at_map hi
      have il : i < ns.length := (List.getElem?_eq_some_iff.mp hz).1
      have fin : ∀ b : Bool, b = okLen z → ∃ acc, H' D = some (.lst acc) ∧ acc.length < sizeLine ∧ (Same H (upd H' D (.lst (acc ++ [V.bl b]))) ∧ (upd H' D (.lst (acc ++ [V.bl b]))) D = some (.lst (((ns.take (i + 1)).map okLen).map V.bl))) := fun b e => by
        refine ⟨_, hd, ?_, fun c o q => ?_, ?_⟩
        · rw [List.length_map, List.length_map, List.length_take]
          exact small1000 (Nat.le_trans (Nat.min_le_right _ _) hlen)
        · rw [upd_ne (ne_of_none q hD)]
          exact sm c o q
        · rw [upd_same, take_more hz, List.map_append, List.map_append, e]
          rfl
      refine ⟨rfl, _, rfl, _, _, rfl, rfl, _, rfl, ?_⟩
      by_cases c : 1 ≤ z
      · rw [decide_eq_true c]
        refine iteT ⟨_, _, rfl, rfl, fin _ ?_⟩
        unfold okLen
        rw [decide_eq_true c]
        rfl
      · rw [decide_eq_false c]
        refine iteF (fin _ ?_)
        unfold okLen
        rw [decide_eq_false c]
        rfl
    · rintro H' ⟨sm, hd⟩
      rw [List.length_map, List.take_length] at hd
      refine ⟨D, ns.map okLen, rfl, SqL.of hd, ?_⟩
      have e : (ns.map okLen).all id = ns.all okLen := by
        rw [List.all_map]
        rfl
      rw [e]
      exact k H' sm
end
abbrev sChoice : Stmt := top 4
theorem scChoice : FnScope ["number"] ["number"] (defScope sChoice) := ⟨rfl, rfl, rfl, by decide +kernel, rfl, by decide +kernel, by decide +kernel⟩
def spChoice : Sp := fun vs H Q _ => ∃ n : Int, vs = [.int n] ∧ Q (.bl (decide (0 ≤ n) && decide (n ≤ 1))) H
section
variable {P : Program} {w : World} {K : PySem.W.Frag} {mg : Str → Option Value} {base : Heap}
theorem ok_Choice {f : Addr} {fd : FuncData} (F : Fun K "is_choice" "is_choice" sChoice f fd) : FnOk P w K mg base CX0 1 f fd ["number"] spChoice := by
  refine F.ok scChoice (fun vs H Q E h => ?_) (fun cdv A outer s H vs Q E hr h => ?_)
  · obtain ⟨n, rfl, _⟩ := h
    rfl
  · obtain ⟨n, rfl, k⟩ := h
    refine ⟨_, pss_one (ps_ret (pe_chain op_le op_le pe_int (pv 0) pe_int)), ?_⟩
    refine ⟨_, rfl, _, _, rfl, rfl, _, rfl, ?_⟩
    by_cases c : 0 ≤ n
    · rw [decide_eq_true c] at k ⊢
      exact iteT ⟨_, _, rfl, rfl, k⟩
    · rw [decide_eq_false c] at k ⊢
      exact iteF k
end
abbrev sPin : Stmt := top 3
theorem scPin : FnScope ["pin"] ["pin"] (defScope sPin) := ⟨rfl, rfl, rfl, by decide +kernel, rfl, by decide +kernel, by decide +kernel⟩
def spPin : Sp := fun vs H Q _ => ∃ n : Int, vs = [.int n] ∧ Q (.bl (decide (0 ≤ n) && decide (n ≤ 3))) H
section
variable {P : Program} {w : World} {K : PySem.W.Frag} {mg : Str → Option Value} {base : Heap}
theorem ok_Pin {f : Addr} {fd : FuncData} (F : Fun K "is_pin" "is_pin" sPin f fd) : FnOk P w K mg base CX0 1 f fd ["pin"] spPin := by
  refine F.ok scPin (fun vs H Q E h => ?_) (fun cdv A outer s H vs Q E hr h => ?_)
  · obtain ⟨n, rfl, _⟩ := h
    rfl
  · obtain ⟨n, rfl, k⟩ := h
    refine ⟨_, pss_one (ps_ret (pe_chain op_le op_le pe_int (pv 0) pe_int)), ?_⟩
    refine ⟨_, rfl, _, _, rfl, rfl, _, rfl, ?_⟩
    by_cases c : 0 ≤ n
    · rw [decide_eq_true c] at k ⊢
      exact iteT ⟨_, _, rfl, rfl, k⟩
    · rw [decide_eq_false c] at k ⊢
      exact iteF k
end
abbrev sKindOf : Stmt := top 5
theorem scKindOf : FnScope ["lengths", "longest", "shortest", "others"] ["lengths"] (defScope sKindOf) := ⟨rfl, rfl, rfl, by decide +kernel, rfl, by decide +kernel, by decide +kernel⟩
def spKindOf (K : PySem.W.Frag) : Sp := fun vs H Q _ => ∃ (a : Addr) (G A C R : Nat), vs = [.ref a] ∧ SqL K H a (([(G : Int), (A : Int), (C : Int), (R : Int)]).map V.int) ∧ Q (.int ((LkFour.Four.kind ⟨G, A, C, R⟩ : Nat) : Int)) H
section
variable {P : Program} {w : World} {K : PySem.W.Frag} {mg : Str → Option Value} {base : Heap}
theorem ok_KindOf {f : Addr} {fd : FuncData} (F : Fun K "kind_of" "kind_of" sKindOf f fd) (nMax : mg "max" = none) (nMin : mg "min" = none) (nSum : mg "sum" = none) : FnOk P w K mg base CX0 1 f fd ["lengths"] (spKindOf K) := by
  refine F.ok scKindOf (fun vs H Q E h => ?_) (fun cdv A outer s H vs Q E hr h => ?_)
  · obtain ⟨a, G, A, C, R, rfl, _⟩ := h
    rfl
  · obtain ⟨a, G, A, C, R, rfl, hS, k⟩ := h
    refine ⟨_, pss_cons (ps_set (i := 1) scKindOf.nd rfl (Or.inl rfl) (pe_callB (cr_max rfl) (by rfl) nMax (by decide +kernel) (pa_cons (pv 0) pa_nil)))
      (pss_cons (ps_set (i := 2) scKindOf.nd rfl (Or.inl rfl) (pe_callB (cr_min rfl) (by rfl) nMin (by decide +kernel) (pa_cons (pv 0) pa_nil)))
      (pss_cons (ps_set (i := 3) scKindOf.nd rfl (Or.inl rfl) (pe_op op_sub (pe_op op_sub (pe_callB (cr_sum rfl) (by rfl) nSum (by decide +kernel) (pa_cons (pv 0) pa_nil)) (pv 1)) (pv 2)))
      (pss_cons (ps_if (pt_cmpR op_gt (pv 1) (pe_op op_add (pv 2) (pv 3)) (nomark _)) (pss_one (ps_ret pe_int)) pss_nil)
      (pss_cons (ps_if (pt_cmpR op_eq (pv 1) (pe_op op_add (pv 2) (pv 3)) (nomark _)) (pss_one (ps_ret pe_int)) pss_nil)
      (pss_cons (ps_if (pt_cmpR op_gt (pe_op op_add (pv 2) (pv 1)) (pv 3) (nomark _)) (pss_one (ps_ret pe_int)) pss_nil)
      (pss_cons (ps_if (pt_cmpR op_eq (pe_op op_add (pv 2) (pv 1)) (pv 3) (nomark _)) (pss_one (ps_ret pe_int)) pss_nil)
      (pss_one (ps_ret (pe_op op_add pe_int (pe_bm PySem.F.plainAttrs_list PySem.F.slot_list_index PySem.F.type_list_index mt_index (pv 0) (pa_cons (pv 2) pa_nil))))))))))), ?_⟩
    refine ⟨_, rfl, a, [(G : Int), (A : Int), (C : Int), (R : Int)], rfl, hS, (by show 0 < 4; decide), fun l ml hl => ?_⟩
    refine ⟨_, rfl, a, [(G : Int), (A : Int), (C : Int), (R : Int)], rfl, hS, (by show 0 < 4; decide), fun h mh hh => ?_⟩
    refine ⟨_, rfl, a, [(G : Int), (A : Int), (C : Int), (R : Int)], rfl, hS, ?_⟩
    refine ⟨_, rfl, _, _, rfl, rfl, _, rfl, _, _, rfl, rfl, ?_⟩
    have m1 : l = G ∨ l = A ∨ l = C ∨ l = R := by simpa using ml
    have m2 : (G : Int) ≤ l ∧ (A : Int) ≤ l ∧ (C : Int) ≤ l ∧ (R : Int) ≤ l := by simpa using hl
    have n1 : h = G ∨ h = A ∨ h = C ∨ h = R := by simpa using mh
    have n2 : h ≤ (G : Int) ∧ h ≤ (A : Int) ∧ h ≤ (C : Int) ∧ h ≤ (R : Int) := by simpa using hh
    have kb := kind_by m1 m2 n1 n2
    rw [kb] at k
    unfold kindBy at k
    have es : ([(G : Int), (A : Int), (C : Int), (R : Int)]).sum = (G : Int) + A + C + R := by
      simp only [List.sum_cons, List.sum_nil]
      omega
    rw [es]
    refine ⟨_, rfl, _, rfl, _, rfl, _, _, rfl, rfl, _, _, rfl, rfl, _, rfl, ite2 (fun c => ?_) fun c => ?_⟩
    · rw [if_pos (of_decide_eq_true c)] at k
      exact k
    rw [if_neg (fun q => c (decide_eq_true q))] at k
    refine ⟨_, rfl, _, rfl, _, rfl, _, _, rfl, rfl, rfl, _, rfl, ite2 (fun c => ?_) fun c => ?_⟩
    · rw [if_pos (V.int.inj (of_decide_eq_true c))] at k
      exact k
    rw [if_neg (fun q => c (decide_eq_true (congrArg V.int q)))] at k
    refine ⟨_, rfl, _, rfl, _, _, rfl, rfl, _, rfl, _, _, rfl, rfl, _, rfl, ite2 (fun c => ?_) fun c => ?_⟩
    · rw [if_pos (of_decide_eq_true c)] at k
      exact k
    rw [if_neg (fun q => c (decide_eq_true q))] at k
    refine ⟨_, rfl, _, rfl, _, _, rfl, rfl, _, rfl, rfl, _, rfl, ite2 (fun c => ?_) fun c => ?_⟩
    · rw [if_pos (V.int.inj (of_decide_eq_true c))] at k
      exact k
    rw [if_neg (fun q => c (decide_eq_true (congrArg V.int q)))] at k
    refine ⟨_, rfl, Or.inl ⟨rfl, _, hS⟩, _, rfl, a, _, _, _, _, rfl, rfl, hS, rfl, flat_ints _, index_at mh, ?_, fun m z lt e => index_ahead lt e, _, _, rfl, rfl, k⟩
    show (h == h) = true
    exact beq_self_eq_true h
end
abbrev sBarsFrom : Stmt := top 6
theorem scBarsFrom : FnScope ["lengths", "pin"] ["lengths", "pin"] (defScope sBarsFrom) := ⟨rfl, rfl, rfl, by decide +kernel, rfl, by decide +kernel, by decide +kernel⟩
def spBarsFrom : Sp := fun vs H Q _ => ∃ (a : Addr) (ns : List Int) (p : Nat), vs = [.ref a, .int (p : Int)] ∧ H a = some (.lst (ns.map V.int)) ∧ p ≤ ns.length ∧ ns.length ≤ 1000 ∧
  ∀ (H' : Hp) (q : Addr), Same H H' → H' q = some (.lst ((barsAt ns p).map V.int)) → Q (.ref q) H'
section
variable {P : Program} {w : World} {K : PySem.W.Frag} {mg : Str → Option Value} {base : Heap}
theorem ok_BarsFrom {f : Addr} {fd : FuncData} (F : Fun K "bars_from" "bars_from" sBarsFrom f fd) : FnOk P w K mg base CX0 1 f fd ["lengths", "pin"] spBarsFrom := by
  refine F.ok scBarsFrom (fun vs H Q E h => ?_) (fun cdv A outer s H vs Q E hr h => ?_)
  · obtain ⟨a, ns, p, rfl, _⟩ := h
    rfl
  · obtain ⟨a, ns, p, rfl, hL, hp, hn, k⟩ := h
    refine ⟨_, pss_one (ps_ret (pe_op op_cat (pe_slice sl_list (pv 0) (po_some (pv 1)) po_none) (pe_slice sl_list (pv 0) po_none (po_some (pv 1))))), ?_⟩
    refine ⟨_, rfl, _, rfl, _, rfl, a, _, rfl, SqL.of hL, fun q1 n1 => ?_⟩
    have s1 : Same H (upd H q1 (.lst (cutV (ns.map V.int) (some (p : Int)) none))) := Same.new n1
    have hL1 := s1 _ _ hL
    refine ⟨_, rfl, _, rfl, _, rfl, a, _, rfl, SqL.of hL1, fun q2 n2 => ?_⟩
    have hq1 := (Same.new (o := .lst (cutV (ns.map V.int) none (some (p : Int)))) n2) _ _ (upd_same : upd H q1 (.lst (cutV (ns.map V.int) (some (p : Int)) none)) q1 = _)
    have s2 := s1.trans (Same.new (o := .lst (cutV (ns.map V.int) none (some (p : Int)))) n2)
    have y : (ns.map V.int).length = ns.length := List.length_map ..
    refine ⟨q1, q2, _, _, rfl, rfl, hq1, upd_same, ?_, fun q3 n3 => ?_⟩
    · rw [cutV_tail _ _ (by rw [y]; exact hp), cutV_head _ _ (by rw [y]; exact hp), List.length_drop, List.length_take, y]
      have z : 1000 ≤ sizeLine := by decide
      omega
    refine k _ q3 (s2.trans (Same.new n3)) ?_
    rw [upd_same, cutV_tail _ _ (by rw [y]; exact hp), cutV_head _ _ (by rw [y]; exact hp), ← List.map_drop, ← List.map_take, ← List.map_append]
    rfl
end
abbrev sWayIn : Stmt := top 8
theorem scWayIn : FnScope ["bar", "another", "folded"] ["bar", "another", "folded"] (defScope sWayIn) := ⟨rfl, rfl, rfl, by decide +kernel, rfl, by decide +kernel, by decide +kernel⟩
def wayZ (x y f : Int) : Int := if f = 1 then x - y else x + y
def spWayIn : Sp := fun vs H Q _ => ∃ x y f : Int, vs = [.int x, .int y, .int f] ∧ Q (.int (wayZ x y f)) H
section
variable {P : Program} {w : World} {K : PySem.W.Frag} {mg : Str → Option Value} {base : Heap}
theorem ok_WayIn {f : Addr} {fd : FuncData} (F : Fun K "way_in_line" "way_in_line" sWayIn f fd) : FnOk P w K mg base CX0 1 f fd ["bar", "another", "folded"] spWayIn := by
  refine F.ok scWayIn (fun vs H Q E h => ?_) (fun cdv A outer s H vs Q E hr h => ?_)
  · obtain ⟨x, y, f, rfl, _⟩ := h
    rfl
  · obtain ⟨x, y, f, rfl, k⟩ := h
    refine ⟨_, pss_cons (ps_if (pt_cmpR op_eq (pv 2) pe_int (nomark _)) (pss_one (ps_ret (pe_op op_sub (pv 0) (pv 1)))) pss_nil)
      (pss_one (ps_ret (pe_op op_add (pv 0) (pv 1)))), ?_⟩
    unfold wayZ at k
    refine ⟨_, rfl, rfl, _, rfl, ite2 (fun c => ?_) fun c => ?_⟩
    · rw [if_pos (V.int.inj (of_decide_eq_true c))] at k
      exact ⟨_, rfl, _, rfl, _, _, rfl, rfl, k⟩
    · rw [if_neg (fun q => c (decide_eq_true (congrArg V.int q)))] at k
      exact ⟨_, rfl, _, rfl, _, _, rfl, rfl, k⟩
end
abbrev sSpans : Stmt := top 7
theorem scSpans : FnScope ["one", "another", "way"] ["one", "another", "way"] (defScope sSpans) := ⟨rfl, rfl, rfl, by decide +kernel, rfl, by decide +kernel, by decide +kernel⟩
def spansZ (x y w : Int) : Bool := decide (((x - y).natAbs : Int) ≤ w) && decide (w ≤ x + y)
def spSpans : Sp := fun vs H Q _ => ∃ x y w : Int, vs = [.int x, .int y, .int w] ∧ Q (.bl (spansZ x y w)) H
section
variable {P : Program} {w : World} {K : PySem.W.Frag} {mg : Str → Option Value} {base : Heap}
theorem ok_Spans {f : Addr} {fd : FuncData} (F : Fun K "spans" "spans" sSpans f fd) (nAbs : mg "abs" = none) : FnOk P w K mg base CX0 1 f fd ["one", "another", "way"] spSpans := by
  refine F.ok scSpans (fun vs H Q E h => ?_) (fun cdv A outer s H vs Q E hr h => ?_)
  · obtain ⟨x, y, w, rfl, _⟩ := h
    rfl
  · obtain ⟨x, y, w, rfl, k⟩ := h
    refine ⟨_, pss_one (ps_ret (pe_chain op_le op_le (pe_callB call_abs (by rfl) nAbs (by decide +kernel) (pa_cons (pe_op op_sub (pv 0) (pv 1)) pa_nil)) (pv 2) (pe_op op_add (pv 0) (pv 1)))), ?_⟩
    refine ⟨_, rfl, _, rfl, _, _, rfl, rfl, _, rfl, _, rfl, _, _, rfl, rfl, _, rfl, ?_⟩
    unfold spansZ at k
    rw [abs_is]
    by_cases c : ((x - y).natAbs : Int) ≤ w
    · rw [decide_eq_true c] at k ⊢
      exact iteT ⟨_, rfl, _, rfl, _, _, rfl, rfl, _, _, rfl, rfl, k⟩
    · rw [decide_eq_false c] at k ⊢
      exact iteF k
end
abbrev sCommon : Stmt := top 12
theorem scCommon : FnScope ["one", "another", "left", "right", "rest"] ["one", "another"] (defScope sCommon) := ⟨rfl, rfl, rfl, by decide +kernel, rfl, by decide +kernel, by decide +kernel⟩
def spCommon : Sp := fun vs H Q _ => ∃ m n : Nat, vs = [.int (m : Int), .int (n : Int)] ∧ Q (.int ((Nat.gcd m n : Nat) : Int)) H
section
variable {P : Program} {w : World} {K : PySem.W.Frag} {mg : Str → Option Value} {base : Heap}
theorem ok_Common {f : Addr} {fd : FuncData} (F : Fun K "common_part" "common_part" sCommon f fd) : FnOk P w K mg base CX0 1 f fd ["one", "another"] spCommon := by
  refine F.ok scCommon (fun vs H Q E h => ?_) (fun cdv A outer s H vs Q E hr h => ?_)
  · obtain ⟨m, n, rfl, _⟩ := h
    rfl
  · obtain ⟨m, n, rfl, k⟩ := h
    refine ⟨_, pss_cons (ps_set (i := 2) scCommon.nd rfl (Or.inl rfl) (pv 0)) (pss_cons (ps_set (i := 3) scCommon.nd rfl (Or.inl rfl) (pv 1))
      (pss_cons (ps_while PassesOwn.never (pt_cmpR op_ne (pv 3) pe_int (nomark _))
        (pss_cons (ps_set (i := 4) scCommon.nd rfl (Or.inl rfl) (pe_op op_modN (pv 2) (pv 3))) (pss_cons (ps_set (i := 2) scCommon.nd rfl (Or.inl rfl) (pv 3)) (pss_one (ps_set (i := 3) scCommon.nd rfl (Or.inl rfl) (pv 4))))))
      (pss_one (ps_ret (pv 2))))), ?_⟩
    refine ⟨_, rfl, _, rfl, while_by (fun σ H' => H' = H ∧ ∃ (x y : Nat) (r : Option V), σ = [some (.int (m : Int)), some (.int (n : Int)), some (.int (x : Int)), some (.int (y : Int)), r] ∧ Nat.gcd x y = Nat.gcd m n)
      (fun σ _ => match σ with | [_, _, _, some (.int y), _] => y.toNat | _ => 0) ⟨rfl, m, n, _, rfl, rfl⟩ ?_ ?_⟩
    · rintro σ H' ⟨rfl, x, y, r, rfl, g⟩
      refine ⟨_, rfl, rfl, _, rfl, ?_⟩
      refine ite2 (fun c => ?_) fun c => ?_
      · have hy : y ≠ 0 := fun e => not_t c (by rw [e]; rfl)
        refine ⟨_, rfl, _, rfl, _, _, rfl, rfl, (by omega), _, rfl, _, rfl, ⟨rfl, y, x % y, some (.int ((x % y : Nat) : Int)), ?_, ?_⟩, ?_⟩
        · show [some (V.int (m : Int)), some (V.int (n : Int)), some (V.int (y : Int)), some (V.int ((x : Int).fmod y)), some (V.int ((x : Int).fmod y))] = _
          rw [Int.fmod_eq_emod_of_nonneg _ (by omega)]
          rfl
        · rw [← g, Nat.gcd_comm x y, Nat.gcd_rec y x, Nat.gcd_comm]
        · show ((x : Int).fmod y).toNat < ((y : Nat) : Int).toNat
          rw [Int.fmod_eq_emod_of_nonneg _ (by omega)]
          have := Nat.mod_lt x (Nat.pos_of_ne_zero hy)
          omega
      · have hy : y = 0 := Int.ofNat.inj (V.int.inj (not_f c))
        subst hy
        refine ⟨_, rfl, ?_⟩
        rw [Nat.gcd_zero_right] at g
        rw [g]
        exact k
    · rintro σ H' Q Q' i ⟨v, e, e2, b, e3, q⟩
      exact ⟨v, e, e2, b, e3, i _ _ q⟩
end
abbrev sFraction : Stmt := top 11
theorem scFraction : FnScope ["above", "below", "common"] ["above", "below"] (defScope sFraction) := ⟨rfl, rfl, rfl, by decide +kernel, rfl, by decide +kernel, by decide +kernel⟩
def spFraction : Sp := fun vs H Q _ => ∃ n d : Int, vs = [.int n, .int d] ∧ d ≠ 0 ∧ d.natAbs < 1073741824 ∧
  ∀ (H' : Hp) (q : Addr), Same H H' → H' q = some (.lst ((LkDSpec.two (Rat.divInt n d)).map V.int)) → Q (.ref q) H'
section
variable {P : Program} {w : World} {K : PySem.W.Frag} {mg : Str → Option Value} {base : Heap}
theorem ok_Fraction {f fCommon : Addr} {fd fdCommon : FuncData} (F : Fun K "fraction" "fraction" sFraction f fd)
    (FCommon : Fun K "common_part" "common_part" sCommon fCommon fdCommon) (bCommon : Binds K fdCommon ["one", "another"] []) (gCommon : mg "common_part" = some (.ref fCommon)) (nAbs : mg "abs" = none) : FnOk P w K mg base CX0 2 f fd ["above", "below"] spFraction := by
  have OCommon : FnOk P w K mg base CX0 1 fCommon fdCommon ["one", "another"] spCommon := ok_Common FCommon
  refine F.ok scFraction (fun vs H Q E h => ?_) (fun cdv A outer s H vs Q E hr h => ?_)
  · obtain ⟨n, d, rfl, _⟩ := h
    rfl
  · obtain ⟨n, d, rfl, hd, hb, k⟩ := h
    refine ⟨_, pss_cons (ps_set (i := 2) scFraction.nd rfl (Or.inl rfl) (pe_call OCommon hr rfl gCommon FCommon.kp bCommon .nil pass0 (pa_cons (pe_callB call_abs (by rfl) nAbs (by decide +kernel) (pa_cons (pv 0) pa_nil)) (pa_cons (pe_callB call_abs (by rfl) nAbs (by decide +kernel) (pa_cons (pv 1) pa_nil)) pa_nil))))
      (pss_cons (ps_if (pt_cmpR op_lt (pv 1) pe_int (nomark _)) (pss_one (ps_set (i := 2) scFraction.nd rfl (Or.inl rfl) (pe_un un_neg (pv 2)))) pss_nil)
      (pss_one (ps_ret (pe_lst (pa_cons (pe_op op_fdivN (pv 0) (pv 2)) (pa_cons (pe_op op_fdivN (pv 1) (pv 2)) pa_nil)))))), ?_⟩
    have g0 : 0 < Nat.gcd n.natAbs d.natAbs := Nat.gcd_pos_of_pos_right _ (by omega)
    have g1 : Nat.gcd n.natAbs d.natAbs ≤ d.natAbs := Nat.gcd_le_right _ (by omega)
    have t := two_fdiv (n := n) hd rfl
    refine ⟨_, rfl, _, rfl, _, rfl, _, rfl, n.natAbs, d.natAbs, by rw [abs_is, abs_is]; rfl, ?_⟩
    refine ⟨_, rfl, _, _, rfl, rfl, _, rfl, ite2 (fun c => ?_) fun c => ?_⟩
    · rw [if_pos (of_decide_eq_true c)] at t
      refine ⟨_, rfl, _, rfl, _, rfl, _, rfl, _, _, rfl, rfl, ⟨by omega, by omega⟩, _, rfl, _, rfl, _, _, rfl, rfl, ⟨by omega, by omega⟩, (by show 2 ≤ sizeLine; decide), fun q hq => k _ q (Same.new hq) ?_⟩
      rw [upd_same, t]
      rfl
    · rw [if_neg (fun q => c (decide_eq_true q))] at t
      refine ⟨_, rfl, _, rfl, _, _, rfl, rfl, ⟨by omega, by omega⟩, _, rfl, _, rfl, _, _, rfl, rfl, ⟨by omega, by omega⟩, (by show 2 ≤ sizeLine; decide), fun q hq => k _ q (Same.new hq) ?_⟩
      rw [upd_same, t]
      rfl
end
abbrev sCosine : Stmt := top 10
theorem scCosine : FnScope ["one", "another", "across"] ["one", "another", "across"] (defScope sCosine) := ⟨rfl, rfl, rfl, by decide +kernel, rfl, by decide +kernel, by decide +kernel⟩
def spCosine : Sp := fun vs H Q _ => ∃ x y z : Int, vs = [.int x, .int y, .int z] ∧ x ≠ 0 ∧ y ≠ 0 ∧ x.natAbs ≤ 2000 ∧ y.natAbs ≤ 2000 ∧ z.natAbs ≤ 2000 ∧
  ∀ (H' : Hp) (q : Addr), Same H H' → H' q = some (.lst ((LkDSpec.two (cosZ x y z)).map V.int)) → Q (.ref q) H'
theorem prod_small {x y : Int} (hx : x.natAbs ≤ 2000) (hy : y.natAbs ≤ 2000) : (x * y).natAbs ≤ 4000000 := by
  rw [Int.natAbs_mul]
  exact Nat.mul_le_mul hx hy
section
variable {P : Program} {w : World} {K : PySem.W.Frag} {mg : Str → Option Value} {base : Heap}
theorem ok_Cosine {f fCommon fFraction : Addr} {fd fdCommon fdFraction : FuncData} (F : Fun K "cosine" "cosine" sCosine f fd)
    (FCommon : Fun K "common_part" "common_part" sCommon fCommon fdCommon) (bCommon : Binds K fdCommon ["one", "another"] []) (gCommon : mg "common_part" = some (.ref fCommon))
    (FFraction : Fun K "fraction" "fraction" sFraction fFraction fdFraction) (bFraction : Binds K fdFraction ["above", "below"] []) (gFraction : mg "fraction" = some (.ref fFraction)) (nAbs : mg "abs" = none) : FnOk P w K mg base CX0 3 f fd ["one", "another", "across"] spCosine := by
  have OFraction : FnOk P w K mg base CX0 2 fFraction fdFraction ["above", "below"] spFraction := ok_Fraction FFraction FCommon bCommon gCommon nAbs
  refine F.ok scCosine (fun vs H Q E h => ?_) (fun cdv A outer s H vs Q E hr h => ?_)
  · obtain ⟨x, y, z, rfl, _⟩ := h
    rfl
  · obtain ⟨x, y, z, rfl, hx, hy, bx, by_, bz, k⟩ := h
    refine ⟨_, pss_one (ps_ret (pe_call OFraction hr rfl gFraction FFraction.kp bFraction .nil pass0 (pa_cons (pe_op op_sub (pe_op op_add (pe_op op_mul (pv 0) (pv 0)) (pe_op op_mul (pv 1) (pv 1))) (pe_op op_mul (pv 2) (pv 2)))
      (pa_cons (pe_op op_mul (pe_op op_mul pe_int (pv 0)) (pv 1)) pa_nil)))), ?_⟩
    have e : 2 * x * y = 2 * (x * y) := Int.mul_assoc ..
    have p := prod_small bx by_
    have hxy : x * y ≠ 0 := Int.mul_ne_zero hx hy
    refine ⟨_, rfl, _, rfl, _, _, rfl, rfl, .inl (by omega), ?_⟩
    refine ⟨_, rfl, _, rfl, _, _, rfl, rfl, .inl (by omega), _, _, rfl, rfl, ?_⟩
    refine ⟨_, rfl, _, rfl, _, _, rfl, rfl, .inl (by omega), _, _, rfl, rfl, ?_⟩
    refine ⟨_, rfl, _, _, rfl, rfl, .inl (by decide), _, rfl, _, _, rfl, rfl, .inl (by omega), ?_⟩
    exact ⟨_, _, rfl, by omega, by omega, k⟩
end
abbrev sCosIn : Stmt := top 9
theorem scCosIn : FnScope ["bars", "folded", "step"] ["bars", "folded", "step"] (defScope sCosIn) := ⟨rfl, rfl, rfl, by decide +kernel, rfl, by decide +kernel, by decide +kernel⟩
def spCosIn : Sp := fun vs H Q _ => ∃ (b : Addr) (u v z w : Nat) (f s : Int), vs = [.ref b, .int f, .int s] ∧ H b = some (.lst (([(u : Int), (v : Int), (z : Int), (w : Int)]).map V.int)) ∧
  ((1 ≤ u ∧ u ≤ 999) ∧ (1 ≤ v ∧ v ≤ 999) ∧ (1 ≤ w ∧ w ≤ 999) ∧ (1 ≤ z ∧ z ≤ 999)) ∧ (s ≠ 2 → wayZ u v f ≠ 0) ∧
  ∀ (H' : Hp) (q : Addr), Same H H' → H' q = some (.lst ((LkDSpec.two (if s = 1 then cosZ (wayZ v u f) z w else if s = 2 then cosZ z w (wayZ u v f) else cosZ (wayZ u v f) w z)).map V.int)) → Q (.ref q) H'
section
variable {P : Program} {w : World} {K : PySem.W.Frag} {mg : Str → Option Value} {base : Heap}
theorem ok_CosIn {f fCommon fFraction fCosine fWayIn : Addr} {fd fdCommon fdFraction fdCosine fdWayIn : FuncData} (F : Fun K "cosine_in_line" "cosine_in_line" sCosIn f fd)
    (FCommon : Fun K "common_part" "common_part" sCommon fCommon fdCommon) (bCommon : Binds K fdCommon ["one", "another"] []) (gCommon : mg "common_part" = some (.ref fCommon))
    (FFraction : Fun K "fraction" "fraction" sFraction fFraction fdFraction) (bFraction : Binds K fdFraction ["above", "below"] []) (gFraction : mg "fraction" = some (.ref fFraction))
    (FCosine : Fun K "cosine" "cosine" sCosine fCosine fdCosine) (bCosine : Binds K fdCosine ["one", "another", "across"] []) (gCosine : mg "cosine" = some (.ref fCosine))
    (FWayIn : Fun K "way_in_line" "way_in_line" sWayIn fWayIn fdWayIn) (bWayIn : Binds K fdWayIn ["bar", "another", "folded"] []) (gWayIn : mg "way_in_line" = some (.ref fWayIn)) (nAbs : mg "abs" = none) : FnOk P w K mg base CX0 4 f fd ["bars", "folded", "step"] spCosIn := by
  have OCosine : FnOk P w K mg base CX0 3 fCosine fdCosine ["one", "another", "across"] spCosine := ok_Cosine FCosine FCommon bCommon gCommon FFraction bFraction gFraction nAbs
  have OWayIn : FnOk P w K mg base CX0 1 fWayIn fdWayIn ["bar", "another", "folded"] spWayIn := ok_WayIn FWayIn
  refine F.ok scCosIn (fun vs H Q E h => ?_) (fun cdv A outer s H vs Q E hr h => ?_)
  · obtain ⟨b, u, v, z, w, f, s, rfl, _⟩ := h
    rfl
  · obtain ⟨b, u, v, z, w', f, s, rfl, hB, hg, h0, k⟩ := h
    refine ⟨_, pss_cons (ps_if (pt_cmpR op_eq (pv 2) pe_int (nomark _)) (pss_one (ps_ret (pe_call OCosine hr rfl gCosine FCosine.kp bCosine .nil pass0 (pa_cons (pe_call OWayIn (hr.mono (by decide)) rfl gWayIn FWayIn.kp bWayIn .nil pass0 (pa_cons (pe_ix ix_list (pv 0) pe_int (fun _ _ => rfl)) (pa_cons (pe_ix ix_list (pv 0) pe_int (fun _ _ => rfl)) (pa_cons (pv 1) pa_nil)))) (pa_cons (pe_ix ix_list (pv 0) pe_int (fun _ _ => rfl)) (pa_cons (pe_ix ix_list (pv 0) pe_int (fun _ _ => rfl)) pa_nil)))))) pss_nil)
      (pss_cons (ps_if (pt_cmpR op_eq (pv 2) pe_int (nomark _)) (pss_one (ps_ret (pe_call OCosine hr rfl gCosine FCosine.kp bCosine .nil pass0 (pa_cons (pe_ix ix_list (pv 0) pe_int (fun _ _ => rfl)) (pa_cons (pe_ix ix_list (pv 0) pe_int (fun _ _ => rfl)) (pa_cons (pe_call OWayIn (hr.mono (by decide)) rfl gWayIn FWayIn.kp bWayIn .nil pass0 (pa_cons (pe_ix ix_list (pv 0) pe_int (fun _ _ => rfl)) (pa_cons (pe_ix ix_list (pv 0) pe_int (fun _ _ => rfl)) (pa_cons (pv 1) pa_nil)))) pa_nil)))))) pss_nil)
      (pss_one (ps_ret (pe_call OCosine hr rfl gCosine FCosine.kp bCosine .nil pass0 (pa_cons (pe_call OWayIn (hr.mono (by decide)) rfl gWayIn FWayIn.kp bWayIn .nil pass0 (pa_cons (pe_ix ix_list (pv 0) pe_int (fun _ _ => rfl)) (pa_cons (pe_ix ix_list (pv 0) pe_int (fun _ _ => rfl)) (pa_cons (pv 1) pa_nil)))) (pa_cons (pe_ix ix_list (pv 0) pe_int (fun _ _ => rfl)) (pa_cons (pe_ix ix_list (pv 0) pe_int (fun _ _ => rfl)) pa_nil))))))), ?_⟩
    have hb : SqL K H b (([(u : Int), (v : Int), (z : Int), (w' : Int)]).map V.int) := SqL.of hB
    have i0 : atI (([(u : Int), (v : Int), (z : Int), (w' : Int)]).map V.int) 0 = some (V.int u) := atI_nat (j := 0) rfl
    have i1 : atI (([(u : Int), (v : Int), (z : Int), (w' : Int)]).map V.int) 1 = some (V.int v) := atI_nat (j := 1) rfl
    have i2 : atI (([(u : Int), (v : Int), (z : Int), (w' : Int)]).map V.int) 2 = some (V.int z) := atI_nat (j := 2) rfl
    have i3 : atI (([(u : Int), (v : Int), (z : Int), (w' : Int)]).map V.int) 3 = some (V.int w') := atI_nat (j := 3) rfl
    have wb : ∀ x y : Nat, x ≤ 999 → y ≤ 999 → (wayZ x y f).natAbs ≤ 2000 := fun x y hx hy => by
      unfold wayZ
      split <;> omega
    have wc : wayZ u v f ≠ 0 → wayZ v u f ≠ 0 := by
      unfold wayZ
      split <;> omega
    generalize ([(u : Int), (v : Int), (z : Int), (w' : Int)]).map V.int = bs at hb i0 i1 i2 i3 ⊢
    refine ⟨_, rfl, rfl, _, rfl, ite2 (fun c => ?_) fun c => ?_⟩
    · have c' := V.int.inj (of_decide_eq_true c)
      rw [if_pos c'] at k
      have h1 := h0 (by omega)
      refine ⟨_, rfl, b, bs, 1, _, rfl, rfl, hb, i1, _, rfl, b, bs, 0, _, rfl, rfl, hb, i0, _, rfl, _, _, _, rfl, _, rfl, b, bs, 2, _, rfl, rfl, hb, i2, _, rfl, b, bs, 3, _, rfl, rfl, hb, i3, _, _, _, rfl, wc h1, (by omega), wb _ _ (by omega) (by omega), (by omega), (by omega), k⟩
    rw [if_neg (fun q => c (decide_eq_true (congrArg V.int q)))] at k
    refine ⟨_, rfl, rfl, _, rfl, ite2 (fun d => ?_) fun d => ?_⟩
    · rw [if_pos (V.int.inj (of_decide_eq_true d))] at k
      refine ⟨_, rfl, b, bs, 2, _, rfl, rfl, hb, i2, _, rfl, b, bs, 3, _, rfl, rfl, hb, i3, _, rfl, b, bs, 0, _, rfl, rfl, hb, i0, _, rfl, b, bs, 1, _, rfl, rfl, hb, i1, _, rfl, _, _, _, rfl, _, _, _, rfl, (by omega), (by omega), (by omega), (by omega), wb _ _ (by omega) (by omega), k⟩
    have d' : s ≠ 2 := fun q => d (decide_eq_true (congrArg V.int q))
    rw [if_neg d'] at k
    have h1 := h0 d'
    refine ⟨_, rfl, b, bs, 0, _, rfl, rfl, hb, i0, _, rfl, b, bs, 1, _, rfl, rfl, hb, i1, _, rfl, _, _, _, rfl, _, rfl, b, bs, 3, _, rfl, rfl, hb, i3, _, rfl, b, bs, 2, _, rfl, rfl, hb, i2, _, _, _, rfl, h1, (by omega), wb _ _ (by omega) (by omega), (by omega), (by omega), k⟩
end
abbrev sLine : Stmt := top 1
theorem scLine : FnScope ["g", "a", "c", "r", "pin", "folded", "other", "lengths", "bars", "way", "opposite"] ["g", "a", "c", "r", "pin", "folded", "other"] (defScope sLine) := ⟨rfl, rfl, rfl, by decide +kernel, rfl, by decide +kernel, by decide +kernel⟩
def spLine : Sp := fun vs H Q _ => ∃ (G A C R p f o : Nat), vs = [.int (G : Int), .int (A : Int), .int (C : Int), .int (R : Int), .int (p : Int), .int (f : Int), .int (o : Int)] ∧ ∀ (H' : Hp) (l : Addr), H' l = some (.lst ((PyWqapbt.line G A C R p f o).map V.int)) → Q (.ref l) H'
theorem in1 {n : Nat} : (decide (0 ≤ (n : Int)) && decide ((n : Int) ≤ 1)) = decide (n ≤ 1) := by
  rw [decide_eq_true (show (0 : Int) ≤ n by omega), Bool.true_and]
  by_cases c : n ≤ 1
  · rw [decide_eq_true c, decide_eq_true (by omega)]
  · rw [decide_eq_false c, decide_eq_false (by omega)]
theorem in3 {n : Nat} : (decide (0 ≤ (n : Int)) && decide ((n : Int) ≤ 3)) = decide (n ≤ 3) := by
  rw [decide_eq_true (show (0 : Int) ≤ n by omega), Bool.true_and]
  by_cases c : n ≤ 3
  · rw [decide_eq_true c, decide_eq_true (by omega)]
  · rw [decide_eq_false c, decide_eq_false (by omega)]
theorem inLine_is {f : LkFour.Four} {pin : Nat} {fo : Bool} {u v w z : Nat} {d : Int} (e : f.at_ pin = (u, v, w, z)) (ed : f.apart pin fo = d) : f.inLine pin fo = spansZ z w ((d.natAbs : Nat) : Int) := by
  rw [Bool.eq_iff_iff, inLine_at e ed]
  unfold spansZ
  rw [Bool.and_eq_true, decide_eq_true_iff, decide_eq_true_iff]
  omega
theorem one_iff {fo : Nat} : (fo == 1) = true ↔ (fo : Int) = 1 := by
  rw [beq_iff_eq]
  omega
theorem way_is {f : LkFour.Four} {pin u v w z fo : Nat} (e : f.at_ pin = (u, v, w, z)) : f.apart pin (fo == 1) = wayZ u v fo := by
  rw [apart_at e]
  unfold wayZ
  by_cases c : (fo : Int) = 1
  · rw [if_pos c, if_pos (one_iff.2 c)]
  · rw [if_neg c, if_neg (fun q => c (one_iff.1 q))]
theorem way_back {u v fo : Nat} : (if (fo == 1) = true then -(wayZ u v fo) else wayZ u v fo) = wayZ v u fo := by
  unfold wayZ
  by_cases c : (fo : Int) = 1
  · rw [if_pos c, if_pos (one_iff.2 c), if_pos c]
    omega
  · rw [if_neg c, if_neg (fun q => c (one_iff.1 q)), if_neg c]
    omega
section
variable {P : Program} {w : World} {K : PySem.W.Frag} {mg : Str → Option Value} {base : Heap}
theorem ok_Line {f fLens fChoice fPin fKindOf fBarsFrom fWayIn fSpans fCommon fFraction fCosine fCosIn : Addr} {fd fdLens fdChoice fdPin fdKindOf fdBarsFrom fdWayIn fdSpans fdCommon fdFraction fdCosine fdCosIn : FuncData} (F : Fun K "line" "line" sLine f fd)
    (FLens : Fun K "are_lengths" "are_lengths" sLens fLens fdLens) (bLens : Binds K fdLens ["lengths"] []) (gLens : mg "are_lengths" = some (.ref fLens))
    (FChoice : Fun K "is_choice" "is_choice" sChoice fChoice fdChoice) (bChoice : Binds K fdChoice ["number"] []) (gChoice : mg "is_choice" = some (.ref fChoice))
    (FPin : Fun K "is_pin" "is_pin" sPin fPin fdPin) (bPin : Binds K fdPin ["pin"] []) (gPin : mg "is_pin" = some (.ref fPin))
    (FKindOf : Fun K "kind_of" "kind_of" sKindOf fKindOf fdKindOf) (bKindOf : Binds K fdKindOf ["lengths"] []) (gKindOf : mg "kind_of" = some (.ref fKindOf))
    (FBarsFrom : Fun K "bars_from" "bars_from" sBarsFrom fBarsFrom fdBarsFrom) (bBarsFrom : Binds K fdBarsFrom ["lengths", "pin"] []) (gBarsFrom : mg "bars_from" = some (.ref fBarsFrom))
    (FWayIn : Fun K "way_in_line" "way_in_line" sWayIn fWayIn fdWayIn) (bWayIn : Binds K fdWayIn ["bar", "another", "folded"] []) (gWayIn : mg "way_in_line" = some (.ref fWayIn))
    (FSpans : Fun K "spans" "spans" sSpans fSpans fdSpans) (bSpans : Binds K fdSpans ["one", "another", "way"] []) (gSpans : mg "spans" = some (.ref fSpans))
    (FCommon : Fun K "common_part" "common_part" sCommon fCommon fdCommon) (bCommon : Binds K fdCommon ["one", "another"] []) (gCommon : mg "common_part" = some (.ref fCommon))
    (FFraction : Fun K "fraction" "fraction" sFraction fFraction fdFraction) (bFraction : Binds K fdFraction ["above", "below"] []) (gFraction : mg "fraction" = some (.ref fFraction))
    (FCosine : Fun K "cosine" "cosine" sCosine fCosine fdCosine) (bCosine : Binds K fdCosine ["one", "another", "across"] []) (gCosine : mg "cosine" = some (.ref fCosine))
    (FCosIn : Fun K "cosine_in_line" "cosine_in_line" sCosIn fCosIn fdCosIn) (bCosIn : Binds K fdCosIn ["bars", "folded", "step"] []) (gCosIn : mg "cosine_in_line" = some (.ref fCosIn)) (nAll : mg "all" = none) (nMax : mg "max" = none) (nMin : mg "min" = none) (nSum : mg "sum" = none) (nAbs : mg "abs" = none) : FnOk P w K mg base CX0 5 f fd ["g", "a", "c", "r", "pin", "folded", "other"] spLine := by
  have OLens : FnOk P w K mg base CX0 1 fLens fdLens ["lengths"] (spLens K) := ok_Lens FLens nAll
  have OChoice : FnOk P w K mg base CX0 1 fChoice fdChoice ["number"] spChoice := ok_Choice FChoice
  have OPin : FnOk P w K mg base CX0 1 fPin fdPin ["pin"] spPin := ok_Pin FPin
  have OKindOf : FnOk P w K mg base CX0 1 fKindOf fdKindOf ["lengths"] (spKindOf K) := ok_KindOf FKindOf nMax nMin nSum
  have OBarsFrom : FnOk P w K mg base CX0 1 fBarsFrom fdBarsFrom ["lengths", "pin"] spBarsFrom := ok_BarsFrom FBarsFrom
  have OWayIn : FnOk P w K mg base CX0 1 fWayIn fdWayIn ["bar", "another", "folded"] spWayIn := ok_WayIn FWayIn
  have OSpans : FnOk P w K mg base CX0 1 fSpans fdSpans ["one", "another", "way"] spSpans := ok_Spans FSpans nAbs
  have OCosIn : FnOk P w K mg base CX0 4 fCosIn fdCosIn ["bars", "folded", "step"] spCosIn := ok_CosIn FCosIn FCommon bCommon gCommon FFraction bFraction gFraction FCosine bCosine gCosine FWayIn bWayIn gWayIn nAbs
  refine F.ok scLine (fun vs H Q E h => ?_) (fun cdv A outer s H vs Q E hr h => ?_)
  · obtain ⟨G, A, C, R, p, f, o, rfl, _⟩ := h
    rfl
  · obtain ⟨G, A, C, R, p, f, o, rfl, k⟩ := h
    refine ⟨_, pss_cons (ps_set (i := 7) scLine.nd rfl (Or.inl rfl) (pe_lst (pa_cons (pv 0) (pa_cons (pv 1) (pa_cons (pv 2) (pa_cons (pv 3) pa_nil))))))
      (pss_cons (ps_if (PW.pt (pw_or (pt_not (pt_val (pe_call OLens (hr.mono (by decide)) rfl gLens FLens.kp bLens .nil pass0 (pa_cons (pv 7) pa_nil)))) (pw_or1 (pt_not (pt_val (pe_call OChoice (hr.mono (by decide)) rfl gChoice FChoice.kp bChoice .nil pass0 (pa_cons (pv 5) pa_nil)))))))
        (pss_one (ps_ret (pe_lst (pa_cons (pe_un un_neg pe_int) pa_nil)))) pss_nil)
      (pss_cons (ps_if (PW.pt (pw_or (pt_not (pt_val (pe_call OPin (hr.mono (by decide)) rfl gPin FPin.kp bPin .nil pass0 (pa_cons (pv 4) pa_nil)))) (pw_or (pt_not (pt_val (pe_call OPin (hr.mono (by decide)) rfl gPin FPin.kp bPin .nil pass0 (pa_cons (pv 6) pa_nil)))) (pw_or1 (pt_cmpR op_eq (pv 6) (pv 4) (nomark _))))))
        (pss_one (ps_ret (pe_lst (pa_cons (pe_un un_neg pe_int) pa_nil)))) pss_nil)
      (pss_cons (ps_if (pt_cmpR op_eq (pe_call OKindOf (hr.mono (by decide)) rfl gKindOf FKindOf.kp bKindOf .nil pass0 (pa_cons (pv 7) pa_nil)) pe_int (nomark _)) (pss_one (ps_ret (pe_lst (pa_cons (pe_un un_neg pe_int) pa_nil)))) pss_nil)
      (pss_cons (ps_set (i := 8) scLine.nd rfl (Or.inl rfl) (pe_call OBarsFrom (hr.mono (by decide)) rfl gBarsFrom FBarsFrom.kp bBarsFrom .nil pass0 (pa_cons (pv 7) (pa_cons (pv 4) pa_nil))))
      (pss_cons (ps_set (i := 9) scLine.nd rfl (Or.inl rfl) (pe_call OWayIn (hr.mono (by decide)) rfl gWayIn FWayIn.kp bWayIn .nil pass0 (pa_cons (pe_ix ix_list (pv 8) pe_int (fun _ _ => rfl)) (pa_cons (pe_ix ix_list (pv 8) pe_int (fun _ _ => rfl)) (pa_cons (pv 5) pa_nil)))))
      (pss_cons (ps_if (pt_not (pt_val (pe_call OSpans (hr.mono (by decide)) rfl gSpans FSpans.kp bSpans .nil pass0 (pa_cons (pe_ix ix_list (pv 8) pe_int (fun _ _ => rfl)) (pa_cons (pe_ix ix_list (pv 8) pe_int (fun _ _ => rfl)) (pa_cons (pe_callB call_abs (by rfl) nAbs (by decide +kernel) (pa_cons (pv 9) pa_nil)) pa_nil))))))
        (pss_one (ps_ret (pe_lst (pa_cons pe_int (pa_cons pe_int pa_nil))))) pss_nil)
      (pss_cons (ps_set (i := 10) scLine.nd rfl (Or.inl rfl) (pe_cmpR op_eq (pe_callB call_abs (by rfl) nAbs (by decide +kernel) (pa_cons (pe_op op_sub (pv 6) (pv 4)) pa_nil)) pe_int (nomark _)))
      (pss_cons (ps_if (PW.pt (pw_and (pt_cmpR op_eq (pv 9) pe_int (nomark _)) (pw_and1 (pt_not (pt_val (pv 10))))))
        (pss_one (ps_ret (pe_lst (pa_cons (pe_un un_neg pe_int) pa_nil)))) pss_nil)
      (pss_one (ps_ret (pe_op op_cat (pe_lst (pa_cons pe_int (pa_cons pe_int pa_nil))) (pe_call OCosIn hr rfl gCosIn FCosIn.kp bCosIn .nil pass0 (pa_cons (pv 8) (pa_cons (pv 5) (pa_cons (pe_op op_mod (pe_op op_sub (pv 6) (pv 4)) pe_int) pa_nil))))))))))))))), ?_⟩
    refine ⟨_, rfl, _, rfl, _, rfl, _, rfl, (by show 4 ≤ sizeLine; decide), fun l hl => ?_⟩
    have hL : (upd H l (.lst (([(G : Int), (A : Int), (C : Int), (R : Int)]).map V.int))) l = some (.lst (([(G : Int), (A : Int), (C : Int), (R : Int)]).map V.int)) := upd_same
    refine ⟨_, rfl, l, _, rfl, SqL.of hL, (by show 4 ≤ 1000; decide), fun H1 s1 => ⟨_, rfl, ?_⟩⟩
    have hL1 := s1 _ _ hL
    have bad : ¬ (Good G A C R ∧ p ≤ 3 ∧ o ≤ 3 ∧ f ≤ 1 ∧ o ≠ p) → ∀ (H' : Hp) (l : Addr), H' l = some (.lst [V.int (-1)]) → Q (.ref l) H' := fun h H' l e => k H' l (by rw [line_bad h]; exact e)
    by_cases g : Good G A C R
    · rw [(all_good ..).2 g]
      refine iteF ⟨_, rfl, _, rfl, _, rfl, ?_⟩
      rw [in1]
      refine ite2 (fun c => ?_) fun c => ?_
      · have hf : ¬ f ≤ 1 := not_t c
        exact ⟨_, rfl, (by show 1 ≤ sizeLine; decide), fun t ht => bad (fun z => hf z.2.2.2.1) _ t upd_same⟩
      have hf : f ≤ 1 := not_f c
      refine ⟨_, rfl, _, rfl, _, rfl, ?_⟩
      rw [in3]
      by_cases hp : p ≤ 3
      · rw [decide_eq_true hp]
        refine iteF ⟨_, rfl, _, rfl, _, rfl, ?_⟩
        rw [in3]
        by_cases ho : o ≤ 3
        · rw [decide_eq_true ho]
          refine iteF ⟨_, rfl, _, rfl, rfl, _, rfl, ite2 (fun d => ?_) fun d => ?_⟩
          · have he : o = p := Int.ofNat.inj (V.int.inj (of_decide_eq_true d))
            exact ⟨_, rfl, (by show 1 ≤ sizeLine; decide), fun t ht => bad (fun z => z.2.2.2.2 he) _ t upd_same⟩
          have hne : o ≠ p := fun e => d (decide_eq_true (congrArg (fun n : Nat => V.int (n : Int)) e))
          refine ⟨_, rfl, l, G, A, C, R, rfl, SqL.of hL1, rfl, _, rfl, ite2 (fun c => ?_) fun c => ?_⟩
          · refine ⟨_, rfl, (by show 1 ≤ sizeLine; decide), fun t ht => k _ t ?_⟩
            have c' : LkFour.Four.kind ⟨G, A, C, R⟩ = 0 := Int.ofNat.inj (V.int.inj (of_decide_eq_true c))
            rw [line_good g ⟨hp, ho, hf, hne⟩, if_pos c']
            exact upd_same
          have c' : ¬ LkFour.Four.kind ⟨G, A, C, R⟩ = 0 := fun z => c (decide_eq_true (congrArg (fun n : Nat => V.int (n : Int)) z))
          obtain ⟨u, v, w', z, eb, ea, eg⟩ := bars_at (G := G) (A := A) (C := C) (R := R) hp
          refine ⟨_, rfl, _, rfl, l, _, p, rfl, hL1, (by show p ≤ 4; omega), (by show 4 ≤ 1000; decide), fun H2 b s2 hq => ?_⟩
          unfold barsAt at hq
          rw [eb] at hq
          have hb : SqL K H2 b (([(u : Int), (v : Int), (z : Int), (w' : Int)]).map V.int) := SqL.of hq
          have i0 : atI (([(u : Int), (v : Int), (z : Int), (w' : Int)]).map V.int) 0 = some (V.int u) := atI_nat (j := 0) rfl
          have i1 : atI (([(u : Int), (v : Int), (z : Int), (w' : Int)]).map V.int) 1 = some (V.int v) := atI_nat (j := 1) rfl
          have i2 : atI (([(u : Int), (v : Int), (z : Int), (w' : Int)]).map V.int) 2 = some (V.int z) := atI_nat (j := 2) rfl
          have i3 : atI (([(u : Int), (v : Int), (z : Int), (w' : Int)]).map V.int) 3 = some (V.int w') := atI_nat (j := 3) rfl
          have hq' := hq
          generalize ([(u : Int), (v : Int), (z : Int), (w' : Int)]).map V.int = bs at hb hq i0 i1 i2 i3 ⊢
          obtain ⟨st, est, hst, h2⟩ := pins_step hp ho hne
          have el := line_is (fo := f == 1) ea (way_is ea) hst
          have ei := inLine_is (fo := f == 1) ea (way_is ea)
          rw [way_back] at el
          have k' : ∀ (H' : Hp) (l : Addr), H' l = some (.lst ((if spansZ z w' (((wayZ u v f).natAbs : Nat) : Int) = false then [0, 0] else if wayZ u v f = 0 ∧ st ≠ 2 then [-5] else 1 :: 2 :: LkDSpec.two (if st = 1 then cosZ (wayZ v u f) z w' else if st = 2 then cosZ z w' (wayZ u v f) else cosZ (wayZ u v f) w' z)).map V.int)) → Q (.ref l) H' := fun H' l e => k H' l (by
            rw [line_good g ⟨hp, ho, hf, hne⟩, if_neg c', el, ei]
            by_cases a : wayZ u v f = 0 ∧ st ≠ 2
            · rw [if_pos a] at e ⊢
              exact e
            · rw [if_neg a] at e ⊢
              exact e)
          clear el ei
          generalize hw : wayZ u v (f : Int) = way at k' ⊢
          refine ⟨_, rfl, b, bs, 0, _, rfl, rfl, hb, i0, _, rfl, b, bs, 1, _, rfl, rfl, hb, i1, _, rfl, _, _, _, rfl, ?_⟩
          rw [hw]
          refine ⟨_, rfl, b, bs, 2, _, rfl, rfl, hb, i2, _, rfl, b, bs, 3, _, rfl, rfl, hb, i3, _, rfl, _, rfl, _, _, _, rfl, _, rfl, ?_⟩
          rw [abs_is]
          cases hs : spansZ z w' ((way.natAbs : Nat) : Int)
          · rw [hs] at k'
            exact iteT ⟨(by show 2 ≤ sizeLine; decide), fun t ht => k' _ t upd_same⟩
          rw [hs] at k'
          refine iteF ⟨_, rfl, _, rfl, _, _, rfl, rfl, _, rfl, rfl, ?_⟩
          rw [abs_is]
          have est' : ((o : Int) - p) % 4 = st := by
            rw [← est, Int.fmod_eq_emod_of_nonneg _ (by decide)]
          refine ⟨_, rfl, rfl, _, rfl, ite2 (fun d => ?_) fun d => ?_⟩
          · have d0 : way = 0 := V.int.inj (of_decide_eq_true d)
            refine ⟨_, rfl, _, rfl, ite2 (fun e2 => ?_) fun e2 => ?_⟩
            · have o2 : st ≠ 2 := fun q => not_t e2 (congrArg V.int (h2.1 q))
              refine ⟨_, rfl, (by show 1 ≤ sizeLine; decide), fun t ht => k' _ t ?_⟩
              rw [upd_same, if_neg (show ¬ true = false by decide), if_pos (show way = 0 ∧ st ≠ 2 from ⟨d0, o2⟩)]
              rfl
            · have o2 : st = 2 := h2.2 (V.int.inj (not_f e2))
              have nz : st ≠ 2 → way ≠ 0 := fun q => absurd o2 q
              refine ⟨(by show 2 ≤ sizeLine; decide), fun t ht => ?_⟩
              have hq5 := (Same.new (o := .lst [V.int 1, V.int 2]) ht) _ _ hq'
              refine ⟨_, rfl, _, rfl, _, rfl, _, rfl, _, _, rfl, rfl, _, _, rfl, rfl, (by show (0 : Int) < 4; decide), b, u, v, z, w', f, _, rfl, hq5, eg g, (by rw [est', hw]; exact nz), fun H5 x s5 hx => ?_⟩
              rw [est', hw] at hx
              have ht5 := s5 _ _ (upd_same : (upd H2 t (.lst [V.int 1, V.int 2])) t = _)
              refine ⟨t, x, _, _, rfl, rfl, ht5, hx, (by show 4 ≤ sizeLine; decide), fun t1 ht1 => k' _ t1 ?_⟩
              rw [upd_same, if_neg (show ¬ true = false by decide), if_neg (show ¬ (way = 0 ∧ st ≠ 2) from fun q => nz q.2 q.1)]
              rfl
          · have d0 : way ≠ 0 := fun q => d (decide_eq_true (congrArg V.int q))
            have nz : st ≠ 2 → way ≠ 0 := fun _ => d0
            refine ⟨(by show 2 ≤ sizeLine; decide), fun t ht => ?_⟩
            have hq5 := (Same.new (o := .lst [V.int 1, V.int 2]) ht) _ _ hq'
            refine ⟨_, rfl, _, rfl, _, rfl, _, rfl, _, _, rfl, rfl, _, _, rfl, rfl, (by show (0 : Int) < 4; decide), b, u, v, z, w', f, _, rfl, hq5, eg g, (by rw [est', hw]; exact nz), fun H5 x s5 hx => ?_⟩
            rw [est', hw] at hx
            have ht5 := s5 _ _ (upd_same : (upd H2 t (.lst [V.int 1, V.int 2])) t = _)
            refine ⟨t, x, _, _, rfl, rfl, ht5, hx, (by show 4 ≤ sizeLine; decide), fun t1 ht1 => k' _ t1 ?_⟩
            rw [upd_same, if_neg (show ¬ true = false by decide), if_neg (show ¬ (way = 0 ∧ st ≠ 2) from fun q => nz q.2 q.1)]
            rfl
        · rw [decide_eq_false ho]
          exact iteT ⟨_, rfl, (by show 1 ≤ sizeLine; decide), fun t ht => bad (fun z => ho z.2.2.1) _ t upd_same⟩
      · rw [decide_eq_false hp]
        exact iteT ⟨_, rfl, (by show 1 ≤ sizeLine; decide), fun t ht => bad (fun z => hp z.2.1) _ t upd_same⟩
    · have e : ([(G : Int), (A : Int), (C : Int), (R : Int)]).all okLen = false := by
        rw [Bool.eq_false_iff]
        exact fun q => g ((all_good ..).1 q)
      rw [e]
      exact iteT (iteT ⟨_, rfl, (by show 1 ≤ sizeLine; decide), fun q hq => bad (fun z => g z.1) _ q upd_same⟩)
end
section
variable {P : Program} {w : World} {K : PySem.W.Frag} {mg : Str → Option Value}
theorem all_mk {h : Heap} {fa f0 fLens fPin fChoice fKindOf fBarsFrom fSpans fWayIn fCosIn fCosine fFraction fCommon : Addr} (X : K.In h) (Gm : h.Ns mainGlobals mg) (hfa : mg "line" = some (.ref fa))
    {od1 an1 od2 an2 od3 an3 od4 an4 od5 an5 od6 an6 od7 an7 od8 an8 od9 an9 od10 an10 od11 an11 od12 an12 : Option Addr} {sl1 sl2 sl3 sl4 sl5 sl6 sl7 sl8 sl9 sl10 sl11 sl12 : Array (Option Value)} {oc1 kV1 dc1 pm1 cd1 ct1 oc2 kV2 dc2 pm2 cd2 ct2 oc3 kV3 dc3 pm3 cd3 ct3 oc4 kV4 dc4 pm4 cd4 ct4 oc5 kV5 dc5 pm5 cd5 ct5 oc6 kV6 dc6 pm6 cd6 ct6 oc7 kV7 dc7 pm7 cd7 ct7 oc8 kV8 dc8 pm8 cd8 ct8 oc9 kV9 dc9 pm9 cd9 ct9 oc10 kV10 dc10 pm10 cd10 ct10 oc11 kV11 dc11 pm11 cd11 ct11 oc12 kV12 dc12 pm12 cd12 ct12 : Value}
    (a1 : PySem.W.nsIn K mainGlobals "line" = some (some (.ref f0))) (l1 : K.lookup f0 = some ⟨oc1, od1, .func (PySem.W.fnOf "line" "line" (defArgs sLine) (defBody sLine) (defScope sLine) .none kV1 dc1 pm1 an1 cd1 ct1), sl1⟩) (c1 : PySem.W.codeIn K cd1 "line" = true) (k1 : PySem.W.keepIn K (.ref f0) = true)
    (a2 : PySem.W.nsIn K mainGlobals "are_lengths" = some (some (.ref fLens))) (l2 : K.lookup fLens = some ⟨oc2, od2, .func (PySem.W.fnOf "are_lengths" "are_lengths" (defArgs sLens) (defBody sLens) (defScope sLens) .none kV2 dc2 pm2 an2 cd2 ct2), sl2⟩) (c2 : PySem.W.codeIn K cd2 "are_lengths" = true) (k2 : PySem.W.keepIn K (.ref fLens) = true)
    (a3 : PySem.W.nsIn K mainGlobals "is_pin" = some (some (.ref fPin))) (l3 : K.lookup fPin = some ⟨oc3, od3, .func (PySem.W.fnOf "is_pin" "is_pin" (defArgs sPin) (defBody sPin) (defScope sPin) .none kV3 dc3 pm3 an3 cd3 ct3), sl3⟩) (c3 : PySem.W.codeIn K cd3 "is_pin" = true) (k3 : PySem.W.keepIn K (.ref fPin) = true)
    (a4 : PySem.W.nsIn K mainGlobals "is_choice" = some (some (.ref fChoice))) (l4 : K.lookup fChoice = some ⟨oc4, od4, .func (PySem.W.fnOf "is_choice" "is_choice" (defArgs sChoice) (defBody sChoice) (defScope sChoice) .none kV4 dc4 pm4 an4 cd4 ct4), sl4⟩) (c4 : PySem.W.codeIn K cd4 "is_choice" = true) (k4 : PySem.W.keepIn K (.ref fChoice) = true)
    (a5 : PySem.W.nsIn K mainGlobals "kind_of" = some (some (.ref fKindOf))) (l5 : K.lookup fKindOf = some ⟨oc5, od5, .func (PySem.W.fnOf "kind_of" "kind_of" (defArgs sKindOf) (defBody sKindOf) (defScope sKindOf) .none kV5 dc5 pm5 an5 cd5 ct5), sl5⟩) (c5 : PySem.W.codeIn K cd5 "kind_of" = true) (k5 : PySem.W.keepIn K (.ref fKindOf) = true)
    (a6 : PySem.W.nsIn K mainGlobals "bars_from" = some (some (.ref fBarsFrom))) (l6 : K.lookup fBarsFrom = some ⟨oc6, od6, .func (PySem.W.fnOf "bars_from" "bars_from" (defArgs sBarsFrom) (defBody sBarsFrom) (defScope sBarsFrom) .none kV6 dc6 pm6 an6 cd6 ct6), sl6⟩) (c6 : PySem.W.codeIn K cd6 "bars_from" = true) (k6 : PySem.W.keepIn K (.ref fBarsFrom) = true)
    (a7 : PySem.W.nsIn K mainGlobals "spans" = some (some (.ref fSpans))) (l7 : K.lookup fSpans = some ⟨oc7, od7, .func (PySem.W.fnOf "spans" "spans" (defArgs sSpans) (defBody sSpans) (defScope sSpans) .none kV7 dc7 pm7 an7 cd7 ct7), sl7⟩) (c7 : PySem.W.codeIn K cd7 "spans" = true) (k7 : PySem.W.keepIn K (.ref fSpans) = true)
    (a8 : PySem.W.nsIn K mainGlobals "way_in_line" = some (some (.ref fWayIn))) (l8 : K.lookup fWayIn = some ⟨oc8, od8, .func (PySem.W.fnOf "way_in_line" "way_in_line" (defArgs sWayIn) (defBody sWayIn) (defScope sWayIn) .none kV8 dc8 pm8 an8 cd8 ct8), sl8⟩) (c8 : PySem.W.codeIn K cd8 "way_in_line" = true) (k8 : PySem.W.keepIn K (.ref fWayIn) = true)
    (a9 : PySem.W.nsIn K mainGlobals "cosine_in_line" = some (some (.ref fCosIn))) (l9 : K.lookup fCosIn = some ⟨oc9, od9, .func (PySem.W.fnOf "cosine_in_line" "cosine_in_line" (defArgs sCosIn) (defBody sCosIn) (defScope sCosIn) .none kV9 dc9 pm9 an9 cd9 ct9), sl9⟩) (c9 : PySem.W.codeIn K cd9 "cosine_in_line" = true) (k9 : PySem.W.keepIn K (.ref fCosIn) = true)
    (a10 : PySem.W.nsIn K mainGlobals "cosine" = some (some (.ref fCosine))) (l10 : K.lookup fCosine = some ⟨oc10, od10, .func (PySem.W.fnOf "cosine" "cosine" (defArgs sCosine) (defBody sCosine) (defScope sCosine) .none kV10 dc10 pm10 an10 cd10 ct10), sl10⟩) (c10 : PySem.W.codeIn K cd10 "cosine" = true) (k10 : PySem.W.keepIn K (.ref fCosine) = true)
    (a11 : PySem.W.nsIn K mainGlobals "fraction" = some (some (.ref fFraction))) (l11 : K.lookup fFraction = some ⟨oc11, od11, .func (PySem.W.fnOf "fraction" "fraction" (defArgs sFraction) (defBody sFraction) (defScope sFraction) .none kV11 dc11 pm11 an11 cd11 ct11), sl11⟩) (c11 : PySem.W.codeIn K cd11 "fraction" = true) (k11 : PySem.W.keepIn K (.ref fFraction) = true)
    (a12 : PySem.W.nsIn K mainGlobals "common_part" = some (some (.ref fCommon))) (l12 : K.lookup fCommon = some ⟨oc12, od12, .func (PySem.W.fnOf "common_part" "common_part" (defArgs sCommon) (defBody sCommon) (defScope sCommon) .none kV12 dc12 pm12 an12 cd12 ct12), sl12⟩) (c12 : PySem.W.codeIn K cd12 "common_part" = true) (k12 : PySem.W.keepIn K (.ref fCommon) = true)
    (nAll : PySem.W.nsIn K mainGlobals "all" = some none) (nMax : PySem.W.nsIn K mainGlobals "max" = some none) (nMin : PySem.W.nsIn K mainGlobals "min" = some none) (nSum : PySem.W.nsIn K mainGlobals "sum" = some none) (nAbs : PySem.W.nsIn K mainGlobals "abs" = some none) :
    ∃ fd : FuncData, (∀ (s : Shared) (us : List Value), us.length = (["g", "a", "c", "r", "pin", "folded", "other"] : List Str).length → BindsTo s fd ⟨us, []⟩ ((["g", "a", "c", "r", "pin", "folded", "other"] : List Str).zip us)) ∧ ∀ base : Heap, K.In base → base.Ns mainGlobals mg → FnOk P w K mg base CX0 5 fa fd ["g", "a", "c", "r", "pin", "folded", "other"] spLine := by
  have e := hfa.symm.trans (PySem.W.mg_of X Gm a1)
  cases e
  have F := fun_mk (st := sLine) l1 c1 k1
  have FLens := fun_mk (st := sLens) l2 c2 k2
  have bLens := FLens.binds (ps := ["lengths"]) fun _ _ _ _ _ _ us hl => match us, hl with | [_], _ => rfl
  have gLens := PySem.W.mg_of X Gm a2
  have FPin := fun_mk (st := sPin) l3 c3 k3
  have bPin := FPin.binds (ps := ["pin"]) fun _ _ _ _ _ _ us hl => match us, hl with | [_], _ => rfl
  have gPin := PySem.W.mg_of X Gm a3
  have FChoice := fun_mk (st := sChoice) l4 c4 k4
  have bChoice := FChoice.binds (ps := ["number"]) fun _ _ _ _ _ _ us hl => match us, hl with | [_], _ => rfl
  have gChoice := PySem.W.mg_of X Gm a4
  have FKindOf := fun_mk (st := sKindOf) l5 c5 k5
  have bKindOf := FKindOf.binds (ps := ["lengths"]) fun _ _ _ _ _ _ us hl => match us, hl with | [_], _ => rfl
  have gKindOf := PySem.W.mg_of X Gm a5
  have FBarsFrom := fun_mk (st := sBarsFrom) l6 c6 k6
  have bBarsFrom := FBarsFrom.binds (ps := ["lengths", "pin"]) fun _ _ _ _ _ _ us hl => match us, hl with | [_, _], _ => rfl
  have gBarsFrom := PySem.W.mg_of X Gm a6
  have FSpans := fun_mk (st := sSpans) l7 c7 k7
  have bSpans := FSpans.binds (ps := ["one", "another", "way"]) fun _ _ _ _ _ _ us hl => match us, hl with | [_, _, _], _ => rfl
  have gSpans := PySem.W.mg_of X Gm a7
  have FWayIn := fun_mk (st := sWayIn) l8 c8 k8
  have bWayIn := FWayIn.binds (ps := ["bar", "another", "folded"]) fun _ _ _ _ _ _ us hl => match us, hl with | [_, _, _], _ => rfl
  have gWayIn := PySem.W.mg_of X Gm a8
  have FCosIn := fun_mk (st := sCosIn) l9 c9 k9
  have bCosIn := FCosIn.binds (ps := ["bars", "folded", "step"]) fun _ _ _ _ _ _ us hl => match us, hl with | [_, _, _], _ => rfl
  have gCosIn := PySem.W.mg_of X Gm a9
  have FCosine := fun_mk (st := sCosine) l10 c10 k10
  have bCosine := FCosine.binds (ps := ["one", "another", "across"]) fun _ _ _ _ _ _ us hl => match us, hl with | [_, _, _], _ => rfl
  have gCosine := PySem.W.mg_of X Gm a10
  have FFraction := fun_mk (st := sFraction) l11 c11 k11
  have bFraction := FFraction.binds (ps := ["above", "below"]) fun _ _ _ _ _ _ us hl => match us, hl with | [_, _], _ => rfl
  have gFraction := PySem.W.mg_of X Gm a11
  have FCommon := fun_mk (st := sCommon) l12 c12 k12
  have bCommon := FCommon.binds (ps := ["one", "another"]) fun _ _ _ _ _ _ us hl => match us, hl with | [_, _], _ => rfl
  have gCommon := PySem.W.mg_of X Gm a12
  have nAll := PySem.W.mg_none_of X Gm nAll
  have nMax := PySem.W.mg_none_of X Gm nMax
  have nMin := PySem.W.mg_none_of X Gm nMin
  have nSum := PySem.W.mg_none_of X Gm nSum
  have nAbs := PySem.W.mg_none_of X Gm nAbs
  exact ⟨PySem.W.fnOf "line" "line" (defArgs sLine) (defBody sLine) (defScope sLine) .none kV1 dc1 pm1 an1 cd1 ct1, fun s us hu => match us, hu with | [_, _, _, _, _, _, _], _ => .of_eq rfl,
    fun base _ _ => ok_Line F FLens bLens gLens FChoice bChoice gChoice FPin bPin gPin FKindOf bKindOf gKindOf FBarsFrom bBarsFrom gBarsFrom FWayIn bWayIn gWayIn FSpans bSpans gSpans FCommon bCommon gCommon FFraction bFraction gFraction FCosine bCosine gCosine FCosIn bCosIn gCosIn nAll nMax nMin nSum nAbs⟩
end
end My
open PySem PySem.W PyProof.Rows
set_option maxRecDepth 100000 in
set_option maxHeartbeats 0 in
theorem PySem.Challenge.cw_fourbars_s04_line_holds : PySem.Challenge.rw_fourbars_s04_line.Holds := by
  w_on; k_headS; (case hw => exact ⟨[.int 0, .int 0, .int 0, .int 0, .int 0, .int 0, .int 0], by decide +kernel, by decide +kernel⟩)
  k_fillS
  refine L2.walk_specK (r := PySem.Challenge.rw_fourbars_s04_line) (k := 5) (CX := L2.CX0) (ps := ["g", "a", "c", "r", "pin", "folded", "other"]) (sp := fun _ => My.spLine) (by decide +kernel) rfl rfl ⟨rfl, by decide, by decide⟩ (fun w h Y => PySem.W.kIn_of Y) ?F ?S (fun _ _ _ _ z => z)
  case F =>
    intro w mg fa h Y KX G hmg
    refine' My.all_mk KX G hmg ?a1 ?l1 ?c1 ?k1 ?a2 ?l2 ?c2 ?k2 ?a3 ?l3 ?c3 ?k3 ?a4 ?l4 ?c4 ?k4 ?a5 ?l5 ?c5 ?k5 ?a6 ?l6 ?c6 ?k6 ?a7 ?l7 ?c7 ?k7 ?a8 ?l8 ?c8 ?k8 ?a9 ?l9 ?c9 ?k9 ?a10 ?l10 ?c10 ?k10 ?a11 ?l11 ?c11 ?k11 ?a12 ?l12 ?c12 ?k12 ?nAll ?nMax ?nMin ?nSum ?nAbs
    (case a1 => k_is); (case l1 => k_is); (case c1 => k_is); (case k1 => k_is)
    (case a2 => k_is); (case l2 => k_is); (case c2 => k_is); (case k2 => k_is)
    (case a3 => k_is); (case l3 => k_is); (case c3 => k_is); (case k3 => k_is)
    (case a4 => k_is); (case l4 => k_is); (case c4 => k_is); (case k4 => k_is)
    (case a5 => k_is); (case l5 => k_is); (case c5 => k_is); (case k5 => k_is)
    (case a6 => k_is); (case l6 => k_is); (case c6 => k_is); (case k6 => k_is)
    (case a7 => k_is); (case l7 => k_is); (case c7 => k_is); (case k7 => k_is)
    (case a8 => k_is); (case l8 => k_is); (case c8 => k_is); (case k8 => k_is)
    (case a9 => k_is); (case l9 => k_is); (case c9 => k_is); (case k9 => k_is)
    (case a10 => k_is); (case l10 => k_is); (case c10 => k_is); (case k10 => k_is)
    (case a11 => k_is); (case l11 => k_is); (case c11 => k_is); (case k11 => k_is)
    (case a12 => k_is); (case l12 => k_is); (case c12 => k_is); (case k12 => k_is)
    (case nAll => k_is); (case nMax => k_is); (case nMin => k_is); (case nSum => k_is); (case nAbs => k_is)
  case S =>
    intro K H xs a hO hwi hask hx
    obtain ⟨v0, v1, v2, v3, v4, v5, v6, u⟩ := a
    cases hx with
    | cons h0 hx =>
      cases hx with
      | cons h1 hx =>
        cases hx with
        | cons h2 hx =>
          cases hx with
          | cons h3 hx =>
            cases hx with
            | cons h4 hx =>
              cases hx with
              | cons h5 hx =>
                cases hx with
                | cons h6 hx =>
                  cases hx
                  cases h0
                  cases h1
                  cases h2
                  cases h3
                  cases h4
                  cases h5
                  cases h6
                  have q : (Codec.inInt 0 9223372036854775807 v0 && (Codec.inInt 0 9223372036854775807 v1 && (Codec.inInt 0 9223372036854775807 v2 && (Codec.inInt 0 9223372036854775807 v3 && (Codec.inInt 0 9223372036854775807 v4 && (Codec.inInt 0 9223372036854775807 v5 && (Codec.inInt 0 9223372036854775807 v6 && true))))))) = true := hwi
                  simp only [Codec.inInt, Bool.and_eq_true, decide_eq_true_eq] at q
                  obtain ⟨⟨q0, _⟩, ⟨q1, _⟩, ⟨q2, _⟩, ⟨q3, _⟩, ⟨q4, _⟩, ⟨q5, _⟩, ⟨q6, _⟩, _⟩ := q
                  obtain ⟨V0, rfl⟩ := Int.eq_ofNat_of_zero_le q0
                  obtain ⟨V1, rfl⟩ := Int.eq_ofNat_of_zero_le q1
                  obtain ⟨V2, rfl⟩ := Int.eq_ofNat_of_zero_le q2
                  obtain ⟨V3, rfl⟩ := Int.eq_ofNat_of_zero_le q3
                  obtain ⟨V4, rfl⟩ := Int.eq_ofNat_of_zero_le q4
                  obtain ⟨V5, rfl⟩ := Int.eq_ofNat_of_zero_le q5
                  obtain ⟨V6, rfl⟩ := Int.eq_ofNat_of_zero_le q6
                  exact ⟨V0, V1, V2, V3, V4, V5, V6, rfl, fun H' l hp => .lst (L2.SqL.of hp) (L2.dw_ints _)⟩
#print axioms PySem.Challenge.cw_fourbars_s04_line_holds
