import PyProof.Rows.All
import Wide.All
import OpenK.AllK
import Wide.FinOn
import Open.SpecLaws
import KE.OsHead
import KE.OsGo
import HandS.ForSpec
import HandS.Comp
import HandS.Wide
import PySem.Challenge.RW_fourbars_s05_circuits
set_option Elab.async false
set_option maxRecDepth 100000
set_option maxHeartbeats 2000000
namespace My
open LkFour LkDSpec
def Good (G A C R : Nat) : Prop := (1 ≤ G ∧ G ≤ 999) ∧ (1 ≤ A ∧ A ≤ 999) ∧ (1 ≤ C ∧ C ≤ 999) ∧ (1 ≤ R ∧ R ≤ 999)
theorem isLength_iff (n : Nat) : LkDSpec.isLength n = true ↔ 1 ≤ n ∧ n ≤ 999 := by
  unfold LkDSpec.isLength
  rw [Bool.and_eq_true, decide_eq_true_iff, decide_eq_true_iff]
  exact Iff.rfl
theorem lengths_iff (G A C R : Nat) : LkDSpec.lengths ⟨G, A, C, R⟩ = true ↔ Good G A C R := by
  unfold LkDSpec.lengths Good
  rw [Bool.and_eq_true, Bool.and_eq_true, Bool.and_eq_true, isLength_iff, isLength_iff, isLength_iff, isLength_iff]
theorem lengths_good {G A C R : Nat} (h : Good G A C R) : LkDSpec.lengths ⟨G, A, C, R⟩ = true := (lengths_iff ..).2 h
theorem lengths_bad {G A C R : Nat} (h : ¬ Good G A C R) : LkDSpec.lengths ⟨G, A, C, R⟩ = false := by
  rw [Bool.eq_false_iff]
  exact fun e => h ((lengths_iff ..).1 e)
theorem kind_step (G A C R : Nat) : PyWqapbt.kind G A C R = Neutral.shown (LkDSpec.answer ⟨⟨G, A, C, R⟩, .kind⟩) := by
  have e : Neutral.callOf [[0, (G : Int), (A : Int), (C : Int), (R : Int)]] = some ⟨⟨G, A, C, R⟩, .kind⟩ := by
    show (if Neutral.whole [(G : Int), (A : Int), (C : Int), (R : Int)] = true then some _ else none) = _
    rw [if_pos (by simp [Neutral.whole])]
    rfl
  show (Neutral.step Neutral.start [[0, (G : Int), (A : Int), (C : Int), (R : Int)]]).2 = _
  unfold Neutral.step
  rw [e]
  rfl
theorem kind_bad {G A C R : Nat} (h : ¬ Good G A C R) : PyWqapbt.kind G A C R = [-1] := by
  rw [kind_step, LkDSpec.answer, if_pos (Or.inl (lengths_bad h))]
  rfl
theorem kind_good {G A C R : Nat} (h : Good G A C R) : PyWqapbt.kind G A C R = [((Four.kind ⟨G, A, C, R⟩ : Nat) : Int)] := by
  rw [kind_step, LkDSpec.answer, if_neg (by rw [lengths_good h]; simp [LkDSpec.fine])]
  rfl
theorem longest_is {G A C R : Nat} {l : Int} (m1 : l = G ∨ l = A ∨ l = C ∨ l = R) (m2 : (G : Int) ≤ l ∧ (A : Int) ≤ l ∧ (C : Int) ≤ l ∧ (R : Int) ≤ l) : ((Four.longest ⟨G, A, C, R⟩ : Nat) : Int) = l := by
  simp only [Four.longest]
  omega
theorem shortest_is {G A C R : Nat} {h : Int} (n1 : h = G ∨ h = A ∨ h = C ∨ h = R) (n2 : h ≤ (G : Int) ∧ h ≤ (A : Int) ∧ h ≤ (C : Int) ∧ h ≤ (R : Int)) : ((Four.shortest ⟨G, A, C, R⟩ : Nat) : Int) = h := by
  simp only [Four.shortest]
  omega
theorem place_is (G A C R h : Int) (n1 : h = G ∨ h = A ∨ h = C ∨ h = R) : ((List.idxOf h [G, A, C, R] : Nat) : Int) = if G = h then 0 else if A = h then 1 else if C = h then 2 else 3 := by
  simp only [List.idxOf_cons, List.idxOf_nil, beq_iff_eq, cond_eq_ite]
  by_cases a : G = h
  · simp [a]
  · by_cases b : A = h
    · simp [a, b]
    · by_cases c : C = h
      · simp [a, b, c]
      · have d : R = h := by omega
        simp [a, b, c, d]
/-- the kind, as the program works it out -/
def kindBy (l h s : Int) (i : Int) : Int := if l > h + (s - l - h) then 0 else if l = h + (s - l - h) then 1 else if h + l > s - l - h then 7 else if h + l = s - l - h then 6 else 2 + i
theorem kind_by {G A C R : Nat} {l h : Int} (m1 : l = G ∨ l = A ∨ l = C ∨ l = R) (m2 : (G : Int) ≤ l ∧ (A : Int) ≤ l ∧ (C : Int) ≤ l ∧ (R : Int) ≤ l)
    (n1 : h = G ∨ h = A ∨ h = C ∨ h = R) (n2 : h ≤ (G : Int) ∧ h ≤ (A : Int) ∧ h ≤ (C : Int) ∧ h ≤ (R : Int)) :
    ((Four.kind ⟨G, A, C, R⟩ : Nat) : Int) = kindBy l h (G + A + C + R) ((List.idxOf h [(G : Int), A, C, R] : Nat) : Int) := by
  have hl := longest_is m1 m2
  have hh := shortest_is n1 n2
  rw [place_is _ _ _ _ _ n1, kindBy]
  simp only [Four.kind, Four.sum]
  generalize Four.longest ⟨G, A, C, R⟩ = l' at *
  generalize Four.shortest ⟨G, A, C, R⟩ = h' at *
  subst hl hh
  have b1 : l' + h' ≤ G + A + C + R := by omega
  have q1 : ((l' : Int) > h' + ((G : Int) + A + C + R - l' - h')) ↔ h' + (G + A + C + R - l' - h') < l' := by omega
  have q2 : ((l' : Int) = h' + ((G : Int) + A + C + R - l' - h')) ↔ h' + (G + A + C + R - l' - h') = l' := by omega
  have q3 : ((h' : Int) + l' > (G : Int) + A + C + R - l' - h') ↔ ¬ (h' + l' < G + A + C + R - l' - h' ∨ h' + l' = G + A + C + R - l' - h') := by omega
  have q4 : ((h' : Int) + l' = (G : Int) + A + C + R - l' - h') ↔ h' + l' = G + A + C + R - l' - h' := by omega
  have p1 : ((G : Int) = h') ↔ G = h' := by omega
  have p2 : ((A : Int) = h') ↔ A = h' := by omega
  have p3 : ((C : Int) = h') ↔ C = h' := by omega
  simp only [q1, q2, q3, q4, p1, p2, p3]
  by_cases c1 : h' + (G + A + C + R - l' - h') < l'
  · simp [c1]
  · by_cases c2 : h' + (G + A + C + R - l' - h') = l'
    · simp [c1, c2]
    · by_cases c3 : h' + l' < G + A + C + R - l' - h'
      · have c4 : ¬ (h' + l' = G + A + C + R - l' - h') := by omega
        simp only [c1, c2, c3, c4, if_true, if_false, true_or, not_true_eq_false]
        by_cases d1 : G = h'
        · simp [d1]
        · by_cases d2 : A = h'
          · simp [d1, d2]
          · by_cases d3 : C = h' <;> simp [d1, d2, d3]
      · by_cases c4 : h' + l' = G + A + C + R - l' - h' <;> simp [c1, c2, c3, c4]
end My
namespace My
open LkFour LkDSpec
theorem full_step (G A C R p : Nat) : PyWqapbt.full G A C R p = Neutral.shown (LkDSpec.answer ⟨⟨G, A, C, R⟩, .full p⟩) := by
  have e : Neutral.callOf [[1, (G : Int), (A : Int), (C : Int), (R : Int), (p : Int)]] = some ⟨⟨G, A, C, R⟩, .full p⟩ := by
    show (if Neutral.whole [(G : Int), (A : Int), (C : Int), (R : Int), (p : Int)] = true then some _ else none) = _
    rw [if_pos (by simp [Neutral.whole])]
    rfl
  show (Neutral.step Neutral.start [[1, (G : Int), (A : Int), (C : Int), (R : Int), (p : Int)]]).2 = _
  unfold Neutral.step
  rw [e]
  rfl
theorem full_bad {G A C R p : Nat} (h : ¬ (Good G A C R ∧ p ≤ 3)) : PyWqapbt.full G A C R p = [-1] := by
  rw [full_step, LkDSpec.answer, if_pos]
  · rfl
  · by_cases g : Good G A C R
    · refine Or.inr ?_
      show decide (p ≤ 3) = false
      exact decide_eq_false (fun q => h ⟨g, q⟩)
    · exact Or.inl (lengths_bad g)
theorem full_good {G A C R p : Nat} (h : Good G A C R) (q : p ≤ 3) : PyWqapbt.full G A C R p = [if Four.kind ⟨G, A, C, R⟩ = 0 then -2 else if Four.full ⟨G, A, C, R⟩ p = true then 1 else 0] := by
  rw [full_step, LkDSpec.answer, if_neg (by rw [lengths_good h]; simp [LkDSpec.fine, q])]
  show Neutral.shown (if Four.kind ⟨G, A, C, R⟩ = 0 then LkDSpec.says (-2) else LkDSpec.says (if Four.full ⟨G, A, C, R⟩ p = true then 1 else 0)) = _
  split <;> rfl
/-- the distance of two numbers, as abs gives it -/
theorem gap_is (x y : Nat) : ((gap x y : Nat) : Int) = (((x : Int) - y).natAbs : Int) := by
  unfold gap
  omega
theorem full_at {G A C R p u v w z : Nat} (e : Four.at_ ⟨G, A, C, R⟩ p = (u, v, w, z)) : Four.full ⟨G, A, C, R⟩ p = true ↔ ((((w : Int) - z).natAbs : Int) ≤ (((u : Int) - v).natAbs : Int) ∧ (u : Int) + v ≤ (w : Int) + z) := by
  unfold Four.full
  rw [e]
  show (decide (u + v ≤ w + z) && decide (gap w z ≤ gap u v)) = true ↔ _
  rw [Bool.and_eq_true, decide_eq_true_iff, decide_eq_true_iff]
  have a := gap_is w z
  have b := gap_is u v
  omega
end My
namespace My
open LkFour LkDSpec
theorem cosine_div (u v : Nat) (sq : Int) : cosine u v sq = Rat.divInt ((u : Int) * u + (v : Int) * v - sq) (2 * u * v) := by
  rw [Rat.divInt_eq_div]
  unfold cosine
  simp only [Rat.intCast_sub, Rat.intCast_add, Rat.intCast_mul, Rat.intCast_natCast, Rat.natCast_add, Rat.natCast_mul]
  rfl
theorem two_div {n d : Int} (hd : 0 < d) : two (Rat.divInt n d) = [n / (Int.gcd d n : Int), d / (Int.gcd d n : Int)] := by
  unfold two
  have e : ((d.natAbs / d.gcd n : Nat) : Int) = d / (Int.gcd d n : Int) := by
    rw [Int.natCast_ediv, Int.natAbs_of_nonneg (Int.le_of_lt hd)]
  rw [Rat.num_divInt, Rat.den_divInt, if_neg (show ¬ d = 0 by omega), Int.sign_eq_one_of_pos hd, Int.one_mul, e]
/-- a fraction in lowest terms is told as it stands -/
theorem two_low {n d a b : Int} (hb : 0 < b) (hd : d ≠ 0) (e : a * d = n * b) (g : Int.gcd a b = 1) : two (Rat.divInt n d) = [a, b] := by
  have h : Rat.divInt n d = Rat.divInt a b := (Rat.divInt_eq_divInt_iff hd (by omega)).2 e.symm
  rw [h, two_div hb, Int.gcd_comm, g]
  simp
/-- divided by any common measure that is the greatest -/
theorem two_by {n d k : Int} (hd : 0 < d) (hk : k = (Int.gcd n d : Int)) : two (Rat.divInt n d) = [n / k, d / k] := by
  rw [two_div hd, hk, Int.gcd_comm]
end My
namespace My
open LkFour LkDSpec
theorem frac_div (x y z e k : Int) : ((x * x + y - z : Rat) / (2 * e * k : Rat)) = Rat.divInt (x * x + y - z) (2 * e * k) := by
  rw [Rat.divInt_eq_div]
  simp only [Rat.intCast_sub, Rat.intCast_add, Rat.intCast_mul]
  rfl
theorem line_opp {f : Four} {pin : Nat} {fo : Bool} {o u v w z : Nat} {d : Int} (e : f.at_ pin = (u, v, w, z)) (ed : f.apart pin fo = d) (h : o = (pin + 2) % 4) :
    f.lineCosine pin fo o = some (Rat.divInt ((w : Int) * w + (z : Int) * z - d * d) (2 * w * z)) := by
  unfold Four.lineCosine
  rw [e, ed]
  simp only [if_pos h]
  rw [cosine_div]
theorem line_any {f : Four} {pin : Nat} {fo : Bool} {o u v w z : Nat} {d : Int} (e : f.at_ pin = (u, v, w, z)) (ed : f.apart pin fo = d) (h : o ≠ (pin + 2) % 4) (h0 : d = 0) :
    f.lineCosine pin fo o = none := by
  unfold Four.lineCosine
  rw [e, ed]
  simp only [if_neg h, if_pos h0]
theorem line_before {f : Four} {pin : Nat} {fo : Bool} {o u v w z : Nat} {d : Int} (e : f.at_ pin = (u, v, w, z)) (ed : f.apart pin fo = d) (h : o ≠ (pin + 2) % 4) (h0 : d ≠ 0) (h1 : o = (pin + 3) % 4) :
    f.lineCosine pin fo o = some (Rat.divInt (d * d + (w : Int) * w - (z : Int) * z) (2 * d * w)) := by
  unfold Four.lineCosine
  rw [e, ed]
  simp only [if_neg h, if_neg h0, if_pos h1]
  rw [← frac_div]
  simp only [Rat.intCast_mul, Rat.intCast_natCast, Rat.natCast_mul]
theorem line_behind {f : Four} {pin : Nat} {fo : Bool} {o u v w z : Nat} {d : Int} (e : f.at_ pin = (u, v, w, z)) (ed : f.apart pin fo = d) (h : o ≠ (pin + 2) % 4) (h0 : d ≠ 0) (h1 : o ≠ (pin + 3) % 4) :
    f.lineCosine pin fo o = some (Rat.divInt (d * d + (z : Int) * z - (w : Int) * w) (2 * (if fo = true then -d else d) * z)) := by
  unfold Four.lineCosine
  rw [e, ed]
  simp only [if_neg h, if_neg h0, if_neg h1]
  rw [← frac_div]
  simp only [Rat.intCast_mul, Rat.intCast_natCast, Rat.natCast_mul]
theorem range_step (G A C R p : Nat) : PyWqapbt.range_of G A C R p = Neutral.shown (LkDSpec.answer ⟨⟨G, A, C, R⟩, .range p⟩) := by
  have e : Neutral.callOf [[2, (G : Int), (A : Int), (C : Int), (R : Int), (p : Int)]] = some ⟨⟨G, A, C, R⟩, .range p⟩ := by
    show (if Neutral.whole [(G : Int), (A : Int), (C : Int), (R : Int), (p : Int)] = true then some _ else none) = _
    rw [if_pos (by simp [Neutral.whole])]
    rfl
  show (Neutral.step Neutral.start [[2, (G : Int), (A : Int), (C : Int), (R : Int), (p : Int)]]).2 = _
  unfold Neutral.step
  rw [e]
  rfl
theorem range_bad {G A C R p : Nat} (h : ¬ (Good G A C R ∧ p ≤ 3)) : PyWqapbt.range_of G A C R p = [-1] := by
  rw [range_step, LkDSpec.answer, if_pos]
  · rfl
  · by_cases g : Good G A C R
    · refine Or.inr ?_
      show decide (p ≤ 3) = false
      exact decide_eq_false (fun q => h ⟨g, q⟩)
    · exact Or.inl (lengths_bad g)
theorem range_good {G A C R p : Nat} (h : Good G A C R) (q : p ≤ 3) : PyWqapbt.range_of G A C R p =
    if Four.kind ⟨G, A, C, R⟩ = 0 then [-2] else 0 :: 4 :: (two (Four.range ⟨G, A, C, R⟩ p).1 ++ two (Four.range ⟨G, A, C, R⟩ p).2) := by
  rw [range_step, LkDSpec.answer, if_neg (by rw [lengths_good h]; simp [LkDSpec.fine, q])]
  show Neutral.shown (if Four.kind ⟨G, A, C, R⟩ = 0 then LkDSpec.says (-2) else ⟨0, [two (Four.range ⟨G, A, C, R⟩ p).1 ++ two (Four.range ⟨G, A, C, R⟩ p).2]⟩) = _
  split
  · rfl
  · simp [Neutral.shown, two]
theorem two_neg_one : two (-1) = [-1, 1] := by decide +kernel
theorem two_one : two 1 = [1, 1] := by decide +kernel
theorem range_at {G A C R p u v w z : Nat} (e : Four.at_ ⟨G, A, C, R⟩ p = (u, v, w, z)) : Four.range ⟨G, A, C, R⟩ p =
    (if u + v ≤ w + z then -1 else Rat.divInt ((u : Int) * u + (v : Int) * v - (((w + z) * (w + z) : Nat) : Int)) (2 * u * v), if gap w z ≤ gap u v then 1 else Rat.divInt ((u : Int) * u + (v : Int) * v - ((gap w z * gap w z : Nat) : Int)) (2 * u * v)) := by
  unfold Four.range
  rw [e]
  simp only [cosine_div]
theorem line_step (G A C R x y z : Nat) : PyWqapbt.line G A C R x y z = Neutral.shown (LkDSpec.answer ⟨⟨G, A, C, R⟩, .line x y z⟩) := by
  have e : Neutral.callOf [[3, (G : Int), (A : Int), (C : Int), (R : Int), (x : Int), (y : Int), (z : Int)]] = some ⟨⟨G, A, C, R⟩, .line x y z⟩ := by
    show (if Neutral.whole [(G : Int), (A : Int), (C : Int), (R : Int), (x : Int), (y : Int), (z : Int)] = true then some _ else none) = _
    rw [if_pos (by simp [Neutral.whole])]
    rfl
  show (Neutral.step Neutral.start [[3, (G : Int), (A : Int), (C : Int), (R : Int), (x : Int), (y : Int), (z : Int)]]).2 = _
  unfold Neutral.step
  rw [e]
  rfl
end My
namespace My
open LkFour LkDSpec
theorem fine_line (x y z : Nat) : LkDSpec.fine (.line x y z) = true ↔ x ≤ 3 ∧ z ≤ 3 ∧ y ≤ 1 ∧ z ≠ x := by
  show (decide (x ≤ 3) && (decide (z ≤ 3) && (decide (y ≤ 1) && z != x))) = true ↔ _
  rw [Bool.and_eq_true, Bool.and_eq_true, Bool.and_eq_true, decide_eq_true_iff, decide_eq_true_iff, decide_eq_true_iff, bne_iff_ne]
theorem line_bad {G A C R x y z : Nat} (h : ¬ (Good G A C R ∧ x ≤ 3 ∧ z ≤ 3 ∧ y ≤ 1 ∧ z ≠ x)) : PyWqapbt.line G A C R x y z = [-1] := by
  rw [line_step, LkDSpec.answer, if_pos]
  · rfl
  · by_cases g : Good G A C R
    · refine Or.inr ?_
      rw [Bool.eq_false_iff]
      exact fun e => h ⟨g, (fine_line ..).1 e⟩
    · exact Or.inl (lengths_bad g)
theorem line_good {G A C R x y z : Nat} (h : Good G A C R) (q : x ≤ 3 ∧ z ≤ 3 ∧ y ≤ 1 ∧ z ≠ x) : PyWqapbt.line G A C R x y z =
    if Four.kind ⟨G, A, C, R⟩ = 0 then [-2] else if Four.inLine ⟨G, A, C, R⟩ x (y == 1) = false then [0, 0] else
      match Four.lineCosine ⟨G, A, C, R⟩ x (y == 1) z with
      | some t => 1 :: 2 :: two t
      | none => [-5] := by
  rw [line_step, LkDSpec.answer, if_neg (by rw [lengths_good h, (fine_line ..).2 q]; simp)]
  show Neutral.shown (if Four.kind ⟨G, A, C, R⟩ = 0 then LkDSpec.says (-2) else if Four.inLine ⟨G, A, C, R⟩ x (y == 1) = false then ⟨0, [[]]⟩ else (match Four.lineCosine ⟨G, A, C, R⟩ x (y == 1) z with | some t => ⟨1, [two t]⟩ | none => LkDSpec.says (-5))) = _
  split
  · rfl
  · split
    · rfl
    · cases Four.lineCosine ⟨G, A, C, R⟩ x (y == 1) z with
      | none => rfl
      | some t => simp [Neutral.shown, two]
theorem inLine_at {f : Four} {pin : Nat} {fo : Bool} {u v w z : Nat} {d : Int} (e : f.at_ pin = (u, v, w, z)) (ed : f.apart pin fo = d) : f.inLine pin fo = true ↔ (((w : Int) - z).natAbs : Int) ≤ (d.natAbs : Int) ∧ (d.natAbs : Int) ≤ (w : Int) + z := by
  unfold Four.inLine
  rw [e, ed]
  show (decide (gap w z ≤ d.natAbs) && decide (d.natAbs ≤ w + z)) = true ↔ _
  rw [Bool.and_eq_true, decide_eq_true_iff, decide_eq_true_iff]
  have a := gap_is w z
  omega
theorem apart_at {f : Four} {pin : Nat} {fo : Bool} {u v w z : Nat} (e : f.at_ pin = (u, v, w, z)) : f.apart pin fo = if fo = true then (u : Int) - v else (u : Int) + v := by
  unfold Four.apart
  rw [e]
theorem circuits_step (G A C R : Nat) : PyWqapbt.circuits G A C R = Neutral.shown (LkDSpec.answer ⟨⟨G, A, C, R⟩, .circuits⟩) := by
  have e : Neutral.callOf [[4, (G : Int), (A : Int), (C : Int), (R : Int)]] = some ⟨⟨G, A, C, R⟩, .circuits⟩ := by
    show (if Neutral.whole [(G : Int), (A : Int), (C : Int), (R : Int)] = true then some _ else none) = _
    rw [if_pos (by simp [Neutral.whole])]
    rfl
  show (Neutral.step Neutral.start [[4, (G : Int), (A : Int), (C : Int), (R : Int)]]).2 = _
  unfold Neutral.step
  rw [e]
  rfl
theorem circuits_bad {G A C R : Nat} (h : ¬ Good G A C R) : PyWqapbt.circuits G A C R = [-1] := by
  rw [circuits_step, LkDSpec.answer, if_pos (Or.inl (lengths_bad h))]
  rfl
theorem circuits_good {G A C R : Nat} (h : Good G A C R) : PyWqapbt.circuits G A C R = [if Four.kind ⟨G, A, C, R⟩ = 0 then 0 else if 2 ≤ Four.kind ⟨G, A, C, R⟩ ∧ Four.kind ⟨G, A, C, R⟩ ≤ 5 then 2 else 1] := by
  rw [circuits_step, LkDSpec.answer, if_neg (by rw [lengths_good h]; simp [LkDSpec.fine])]
  show [((Four.circuits ⟨G, A, C, R⟩ : Nat) : Int)] = _
  unfold Four.circuits
  by_cases a : Four.kind ⟨G, A, C, R⟩ = 0
  · rw [if_pos a, if_pos a]
    rfl
  · rw [if_neg a, if_neg a]
    by_cases b : 2 ≤ Four.kind ⟨G, A, C, R⟩ ∧ Four.kind ⟨G, A, C, R⟩ ≤ 5
    · rw [if_pos b, if_pos b]
      rfl
    · rw [if_neg b, if_neg b]
      rfl
end My
namespace My
open PySem PySem.Spec PyProof.Rows L2
open PySem.W (Codec)
def top (i : Nat) : Stmt := PySem.Challenge.pw_fourbars_s05_circuits.main.body.getD i (.Pass ⟨0, 0, 0, 0⟩)
theorem Same.new {H : Hp} {p : Addr} {o : HO} (h : H p = none) : Same H (upd H p o) := fun b u e => by
  rw [upd_ne (ne_of_none e h)]
  exact e
theorem at_map {ns : List Int} {i : Nat} {x : V} (h : (ns.map V.int)[i]? = some x) : ∃ z, ns[i]? = some z ∧ x = V.int z := by
  rw [List.getElem?_map] at h
  cases e : ns[i]? with
  | none =>
    rw [e] at h
    cases h
  | some z =>
    rw [e] at h
    exact ⟨z, rfl, (Option.some.inj h).symm⟩
theorem take_more {α : Type} : ∀ {l : List α} {i : Nat} {x : α}, l[i]? = some x → l.take (i + 1) = l.take i ++ [x]
  | [], i, x, h => by simp at h
  | a :: l, 0, x, h => by
    have e : a = x := Option.some.inj h
    subst e
    rfl
  | a :: l, i + 1, x, h => by
    have ih := take_more (l := l) (i := i) (x := x) h
    show a :: l.take (i + 1) = a :: l.take i ++ [x]
    rw [ih]
    rfl
theorem idx_ne {a h : Int} {l : List Int} (e : ¬ a = h) : (a :: l).idxOf h = l.idxOf h + 1 := by
  rw [List.idxOf_cons, beq_eq_false_iff_ne.2 e]
  rfl
theorem index_at : ∀ {ns : List Int} {h : Int}, h ∈ ns → (ns.map V.int)[ns.idxOf h]? = some (V.int h)
  | [], h, m => by simp at m
  | a :: l, h, m => by
    by_cases e : a = h
    · subst e
      rw [List.idxOf_cons_self]
      rfl
    · have m' : h ∈ l := by
        rcases List.mem_cons.1 m with q | q
        · exact absurd q.symm e
        · exact q
      rw [idx_ne e]
      exact index_at m'
theorem index_ahead : ∀ {ns : List Int} {h : Int} {m : Nat} {z : V}, m < ns.idxOf h → (ns.map V.int)[m]? = some z → eqV z (V.int h) = false
  | [], h, m, z, l, e => by simp at e
  | a :: r, h, 0, z, l, e => by
    have ez : V.int a = z := Option.some.inj e
    subst ez
    show (a == h) = false
    rw [beq_eq_false_iff_ne]
    intro q
    subst q
    rw [List.idxOf_cons_self] at l
    exact absurd l (Nat.lt_irrefl 0)
  | a :: r, h, m + 1, z, l, e => by
    by_cases q : a = h
    · subst q
      rw [List.idxOf_cons_self] at l
      exact absurd l (Nat.not_lt_zero _)
    · rw [idx_ne q] at l
      exact index_ahead (ns := r) (Nat.lt_of_succ_lt_succ l) e
theorem flat_ints : ∀ ns : List Int, (ns.map V.int).all flatV = true
  | [] => rfl
  | _ :: r => by
    show (true && (r.map V.int).all flatV) = true
    rw [flat_ints r]
    rfl
theorem not_t {p : Prop} [Decidable p] (c : (!decide p) = true) : ¬ p := by
  intro h
  rw [decide_eq_true h] at c
  exact Bool.noConfusion c
theorem not_f {p : Prop} [Decidable p] (c : ¬ (!decide p) = true) : p := by
  by_cases h : p
  · exact h
  · refine absurd ?_ c
    rw [decide_eq_false h]
    rfl
def okLen (n : Int) : Bool := decide (1 ≤ n) && decide (n ≤ 999)
theorem okLen_iff (n : Int) : okLen n = true ↔ 1 ≤ n ∧ n ≤ 999 := by
  unfold okLen
  rw [Bool.and_eq_true, decide_eq_true_iff, decide_eq_true_iff]
theorem all_good (G A C R : Nat) : ([(G : Int), (A : Int), (C : Int), (R : Int)]).all okLen = true ↔ Good G A C R := by
  show (okLen G && (okLen A && (okLen C && (okLen R && true)))) = true ↔ _
  unfold Good
  rw [Bool.and_eq_true, Bool.and_eq_true, Bool.and_eq_true, Bool.and_eq_true, okLen_iff, okLen_iff, okLen_iff, okLen_iff]
  refine ⟨fun ⟨h1, h2, h3, h4, _⟩ => ?_, fun h => ?_⟩
  · omega
  · exact ⟨by omega, by omega, by omega, by omega, rfl⟩
abbrev sLens : Stmt := top 2
theorem scLens : FnScope ["lengths", "length"] ["lengths"] (defScope sLens) := ⟨rfl, rfl, rfl, by decide +kernel, rfl, by decide +kernel, by decide +kernel⟩
def spLens (K : PySem.W.Frag) : Sp := fun vs H Q _ => ∃ (a : Addr) (ns : List Int), vs = [.ref a] ∧ SqL K H a (ns.map V.int) ∧ ns.length ≤ 1000 ∧ ∀ H' : Hp, Same H H' → Q (.bl (ns.all okLen)) H'
section
variable {P : Program} {w : World} {K : PySem.W.Frag} {mg : Str → Option Value} {base : Heap}
theorem ok_Lens {f : Addr} {fd : FuncData} (F : Fun K "are_lengths" "are_lengths" sLens f fd) (nAll : mg "all" = none) : FnOk P w K mg base CX0 1 f fd ["lengths"] (spLens K) := by
  refine F.ok scLens (fun vs H Q E h => ?_) (fun cdv A outer s H vs Q E hr h => ?_)
  · obtain ⟨a, ns, rfl, _⟩ := h
    rfl
  · obtain ⟨a, ns, rfl, hS, hlen, k⟩ := h
    refine ⟨_, pss_one (ps_ret (pe_callB (cr_all rfl) (by rfl) nAll (by decide +kernel) (pa_cons
      (pe_lc (own := [("length", 1)]) (g := gName 1) (tt := tYes) rfl scLens.nd (pi_list (pv 0)) (blkOk_by (N := ["lengths", "length"]) (sc := defScope sLens) (by decide +kernel))
        (fun _ _ _ _ _ => pg_name (i := 1) scLens.nd rfl (Or.inl rfl)) (fun _ _ _ _ _ => pts_nil) (fun _ _ _ _ _ => pe_chain op_le op_le pe_int (pv 1) pe_int)) pa_nil))), ?_⟩
    refine ⟨_, rfl, a, rfl, ⟨_, hS⟩, fun D hD => lc_list (K := K) (a := a) (xs := ns.map V.int) (fun i H' => Same H H' ∧ H' D = some (.lst (((ns.take i).map okLen).map V.bl)))
      ⟨Same.new hD, upd_same⟩ (fun i H' _ q => q.1.seq hS) ?_ ?_⟩
    · rintro i x H' hi ⟨sm, hd⟩
      obtain ⟨z, hz, rfl⟩ := at_map hi
      have il : i < ns.length := (List.getElem?_eq_some_iff.mp hz).1
      have fin : ∀ b : Bool, b = okLen z → ∃ acc, H' D = some (.lst acc) ∧ acc.length < sizeLine ∧ (Same H (upd H' D (.lst (acc ++ [V.bl b]))) ∧ (upd H' D (.lst (acc ++ [V.bl b]))) D = some (.lst (((ns.take (i + 1)).map okLen).map V.bl))) := fun b e => by
        refine ⟨_, hd, ?_, fun c o q => ?_, ?_⟩
        · rw [List.length_map, List.length_map, List.length_take]
          exact small1000 (Nat.le_trans (Nat.min_le_right _ _) hlen)
        · rw [upd_ne (ne_of_none q hD)]
          exact sm c o q
        · rw [upd_same, take_more hz, List.map_append, List.map_append, e]
          rfl
      refine ⟨rfl, _, rfl, _, _, rfl, rfl, _, rfl, ?_⟩
      by_cases c : 1 ≤ z
      · rw [decide_eq_true c]
        refine iteT ⟨_, _, rfl, rfl, fin _ ?_⟩
        unfold okLen
        rw [decide_eq_true c]
        rfl
      · rw [decide_eq_false c]
        refine iteF (fin _ ?_)
        unfold okLen
        rw [decide_eq_false c]
        rfl
    · rintro H' ⟨sm, hd⟩
      rw [List.length_map, List.take_length] at hd
      refine ⟨D, ns.map okLen, rfl, SqL.of hd, ?_⟩
      have e : (ns.map okLen).all id = ns.all okLen := by
        rw [List.all_map]
        rfl
      rw [e]
      exact k H' sm
end
abbrev sKindOf : Stmt := top 3
theorem scKindOf : FnScope ["lengths", "longest", "shortest", "others"] ["lengths"] (defScope sKindOf) := ⟨rfl, rfl, rfl, by decide +kernel, rfl, by decide +kernel, by decide +kernel⟩
def spKindOf (K : PySem.W.Frag) : Sp := fun vs H Q _ => ∃ (a : Addr) (G A C R : Nat), vs = [.ref a] ∧ SqL K H a (([(G : Int), (A : Int), (C : Int), (R : Int)]).map V.int) ∧ Q (.int ((LkFour.Four.kind ⟨G, A, C, R⟩ : Nat) : Int)) H
section
variable {P : Program} {w : World} {K : PySem.W.Frag} {mg : Str → Option Value} {base : Heap}
theorem ok_KindOf {f : Addr} {fd : FuncData} (F : Fun K "kind_of" "kind_of" sKindOf f fd) (nMax : mg "max" = none) (nMin : mg "min" = none) (nSum : mg "sum" = none) : FnOk P w K mg base CX0 1 f fd ["lengths"] (spKindOf K) := by
  refine F.ok scKindOf (fun vs H Q E h => ?_) (fun cdv A outer s H vs Q E hr h => ?_)
  · obtain ⟨a, G, A, C, R, rfl, _⟩ := h
    rfl
  · obtain ⟨a, G, A, C, R, rfl, hS, k⟩ := h
    refine ⟨_, pss_cons (ps_set (i := 1) scKindOf.nd rfl (Or.inl rfl) (pe_callB (cr_max rfl) (by rfl) nMax (by decide +kernel) (pa_cons (pv 0) pa_nil)))
      (pss_cons (ps_set (i := 2) scKindOf.nd rfl (Or.inl rfl) (pe_callB (cr_min rfl) (by rfl) nMin (by decide +kernel) (pa_cons (pv 0) pa_nil)))
      (pss_cons (ps_set (i := 3) scKindOf.nd rfl (Or.inl rfl) (pe_op op_sub (pe_op op_sub (pe_callB (cr_sum rfl) (by rfl) nSum (by decide +kernel) (pa_cons (pv 0) pa_nil)) (pv 1)) (pv 2)))
      (pss_cons (ps_if (pt_cmpR op_gt (pv 1) (pe_op op_add (pv 2) (pv 3)) (nomark _)) (pss_one (ps_ret pe_int)) pss_nil)
      (pss_cons (ps_if (pt_cmpR op_eq (pv 1) (pe_op op_add (pv 2) (pv 3)) (nomark _)) (pss_one (ps_ret pe_int)) pss_nil)
      (pss_cons (ps_if (pt_cmpR op_gt (pe_op op_add (pv 2) (pv 1)) (pv 3) (nomark _)) (pss_one (ps_ret pe_int)) pss_nil)
      (pss_cons (ps_if (pt_cmpR op_eq (pe_op op_add (pv 2) (pv 1)) (pv 3) (nomark _)) (pss_one (ps_ret pe_int)) pss_nil)
      (pss_one (ps_ret (pe_op op_add pe_int (pe_bm PySem.F.plainAttrs_list PySem.F.slot_list_index PySem.F.type_list_index mt_index (pv 0) (pa_cons (pv 2) pa_nil))))))))))), ?_⟩
    refine ⟨_, rfl, a, [(G : Int), (A : Int), (C : Int), (R : Int)], rfl, hS, (by show 0 < 4; decide), fun l ml hl => ?_⟩
    refine ⟨_, rfl, a, [(G : Int), (A : Int), (C : Int), (R : Int)], rfl, hS, (by show 0 < 4; decide), fun h mh hh => ?_⟩
    refine ⟨_, rfl, a, [(G : Int), (A : Int), (C : Int), (R : Int)], rfl, hS, ?_⟩
    refine ⟨_, rfl, _, _, rfl, rfl, _, rfl, _, _, rfl, rfl, ?_⟩
    have m1 : l = G ∨ l = A ∨ l = C ∨ l = R := by simpa using ml
    have m2 : (G : Int) ≤ l ∧ (A : Int) ≤ l ∧ (C : Int) ≤ l ∧ (R : Int) ≤ l := by simpa using hl
    have n1 : h = G ∨ h = A ∨ h = C ∨ h = R := by simpa using mh
    have n2 : h ≤ (G : Int) ∧ h ≤ (A : Int) ∧ h ≤ (C : Int) ∧ h ≤ (R : Int) := by simpa using hh
    have kb := kind_by m1 m2 n1 n2
    rw [kb] at k
    unfold kindBy at k
    have es : ([(G : Int), (A : Int), (C : Int), (R : Int)]).sum = (G : Int) + A + C + R := by
      simp only [List.sum_cons, List.sum_nil]
      omega
    rw [es]
    refine ⟨_, rfl, _, rfl, _, rfl, _, _, rfl, rfl, _, _, rfl, rfl, _, rfl, ite2 (fun c => ?_) fun c => ?_⟩
    · rw [if_pos (of_decide_eq_true c)] at k
      exact k
    rw [if_neg (fun q => c (decide_eq_true q))] at k
    refine ⟨_, rfl, _, rfl, _, rfl, _, _, rfl, rfl, rfl, _, rfl, ite2 (fun c => ?_) fun c => ?_⟩
    · rw [if_pos (V.int.inj (of_decide_eq_true c))] at k
      exact k
    rw [if_neg (fun q => c (decide_eq_true (congrArg V.int q)))] at k
    refine ⟨_, rfl, _, rfl, _, _, rfl, rfl, _, rfl, _, _, rfl, rfl, _, rfl, ite2 (fun c => ?_) fun c => ?_⟩
    · rw [if_pos (of_decide_eq_true c)] at k
      exact k
    rw [if_neg (fun q => c (decide_eq_true q))] at k
    refine ⟨_, rfl, _, rfl, _, _, rfl, rfl, _, rfl, rfl, _, rfl, ite2 (fun c => ?_) fun c => ?_⟩
    · rw [if_pos (V.int.inj (of_decide_eq_true c))] at k
      exact k
    rw [if_neg (fun q => c (decide_eq_true (congrArg V.int q)))] at k
    refine ⟨_, rfl, Or.inl ⟨rfl, _, hS⟩, _, rfl, a, _, _, _, _, rfl, rfl, hS, rfl, flat_ints _, index_at mh, ?_, fun m z lt e => index_ahead lt e, _, _, rfl, rfl, k⟩
    show (h == h) = true
    exact beq_self_eq_true h
end
abbrev sCircuits : Stmt := top 1
theorem scCircuits : FnScope ["g", "a", "c", "r", "lengths", "number"] ["g", "a", "c", "r"] (defScope sCircuits) := ⟨rfl, rfl, rfl, by decide +kernel, rfl, by decide +kernel, by decide +kernel⟩
def spCircuits : Sp := fun vs H Q _ => ∃ (G A C R : Nat), vs = [.int (G : Int), .int (A : Int), .int (C : Int), .int (R : Int)] ∧ ∀ (H' : Hp) (p : Addr), H' p = some (.lst ((PyWqapbt.circuits G A C R).map V.int)) → Q (.ref p) H'
theorem in_2345 (n : Nat) : inV (.int (n : Int)) [.int 2, .int 3, .int 4, .int 5] = decide (2 ≤ n ∧ n ≤ 5) := by
  show (((2 : Int) == (n : Int)) || (((3 : Int) == (n : Int)) || (((4 : Int) == (n : Int)) || (((5 : Int) == (n : Int)) || false)))) = _
  rw [Bool.eq_iff_iff, Bool.or_eq_true, Bool.or_eq_true, Bool.or_eq_true, Bool.or_eq_true, beq_iff_eq, beq_iff_eq, beq_iff_eq, beq_iff_eq, decide_eq_true_iff]
  simp only [Bool.false_eq_true, or_false]
  omega
section
variable {P : Program} {w : World} {K : PySem.W.Frag} {mg : Str → Option Value} {base : Heap}
theorem ok_Circuits {f fLens fKindOf : Addr} {fd fdLens fdKindOf : FuncData} (F : Fun K "circuits" "circuits" sCircuits f fd)
    (FLens : Fun K "are_lengths" "are_lengths" sLens fLens fdLens) (bLens : Binds K fdLens ["lengths"] []) (gLens : mg "are_lengths" = some (.ref fLens))
    (FKindOf : Fun K "kind_of" "kind_of" sKindOf fKindOf fdKindOf) (bKindOf : Binds K fdKindOf ["lengths"] []) (gKindOf : mg "kind_of" = some (.ref fKindOf)) (nAll : mg "all" = none) (nMax : mg "max" = none) (nMin : mg "min" = none) (nSum : mg "sum" = none) : FnOk P w K mg base CX0 2 f fd ["g", "a", "c", "r"] spCircuits := by
  have OLens : FnOk P w K mg base CX0 1 fLens fdLens ["lengths"] (spLens K) := ok_Lens FLens nAll
  have OKindOf : FnOk P w K mg base CX0 1 fKindOf fdKindOf ["lengths"] (spKindOf K) := ok_KindOf FKindOf nMax nMin nSum
  refine F.ok scCircuits (fun vs H Q E h => ?_) (fun cdv A outer s H vs Q E hr h => ?_)
  · obtain ⟨G, A, C, R, rfl, _⟩ := h
    rfl
  · obtain ⟨G, A, C, R, rfl, k⟩ := h
    refine ⟨_, pss_cons (ps_set (i := 4) scCircuits.nd rfl (Or.inl rfl) (pe_lst (pa_cons (pv 0) (pa_cons (pv 1) (pa_cons (pv 2) (pa_cons (pv 3) pa_nil))))))
      (pss_cons (ps_if (pt_not (pt_val (pe_call OLens hr rfl gLens FLens.kp bLens .nil pass0 (pa_cons (pv 4) pa_nil)))) (pss_one (ps_ret (pe_lst (pa_cons (pe_un un_neg pe_int) pa_nil)))) pss_nil)
      (pss_cons (ps_set (i := 5) scCircuits.nd rfl (Or.inl rfl) (pe_call OKindOf hr rfl gKindOf FKindOf.kp bKindOf .nil pass0 (pa_cons (pv 4) pa_nil)))
      (pss_cons (ps_if (pt_cmpR op_eq (pv 5) pe_int (nomark _)) (pss_one (ps_ret (pe_lst (pa_cons pe_int pa_nil)))) pss_nil)
      (pss_cons (ps_if (pt_cmpR op_in_seq (pv 5) (pe_tup (pa_cons pe_int (pa_cons pe_int (pa_cons pe_int (pa_cons pe_int pa_nil))))) (by rfl)) (pss_one (ps_ret (pe_lst (pa_cons pe_int pa_nil)))) pss_nil)
      (pss_one (ps_ret (pe_lst (pa_cons pe_int pa_nil)))))))), ?_⟩
    refine ⟨_, rfl, _, rfl, _, rfl, _, rfl, (by show 4 ≤ sizeLine; decide), fun p hp => ?_⟩
    have hS : SqL K (upd H p (.lst (([(G : Int), (A : Int), (C : Int), (R : Int)]).map V.int))) p (([(G : Int), (A : Int), (C : Int), (R : Int)]).map V.int) := SqL.of upd_same
    refine ⟨_, rfl, p, _, rfl, hS, (by show 4 ≤ 1000; decide), fun H1 s1 => ⟨_, rfl, ?_⟩⟩
    by_cases g : Good G A C R
    · rw [(all_good ..).2 g]
      rw [circuits_good g] at k
      refine iteF ⟨_, rfl, p, G, A, C, R, rfl, s1.seq hS, ?_⟩
      refine ⟨_, rfl, rfl, _, rfl, ite2 (fun c => ?_) fun c => ?_⟩
      · have c' : LkFour.Four.kind ⟨G, A, C, R⟩ = 0 := Int.ofNat.inj (V.int.inj (of_decide_eq_true c))
        refine ⟨(by show 1 ≤ sizeLine; decide), fun t ht => k _ t ?_⟩
        rw [if_pos c']
        exact upd_same
      have c' : ¬ LkFour.Four.kind ⟨G, A, C, R⟩ = 0 := fun z => c (decide_eq_true (congrArg (fun n : Nat => V.int (n : Int)) z))
      rw [if_neg c'] at k
      refine ⟨_, rfl, (by show 4 ≤ sizeLine; decide), fun t ht => ?_⟩
      refine ⟨t, _, rfl, Or.inr (SqT.of upd_same), rfl, rfl, _, rfl, ?_⟩
      show if (inV (.int ((LkFour.Four.kind ⟨G, A, C, R⟩ : Nat) : Int)) [.int 2, .int 3, .int 4, .int 5]) = true then _ else _
      rw [in_2345]
      refine ite2 (fun d => ?_) fun d => ?_
      · refine ⟨(by show 1 ≤ sizeLine; decide), fun t ht => k _ t ?_⟩
        rw [if_pos (of_decide_eq_true d)]
        exact upd_same
      · refine ⟨(by show 1 ≤ sizeLine; decide), fun t ht => k _ t ?_⟩
        rw [if_neg (fun z => d (decide_eq_true z))]
        exact upd_same
    · have e : ([(G : Int), (A : Int), (C : Int), (R : Int)]).all okLen = false := by
        rw [Bool.eq_false_iff]
        exact fun q => g ((all_good ..).1 q)
      rw [e]
      refine iteT ⟨_, rfl, (by show 1 ≤ sizeLine; decide), fun q hq => k _ q ?_⟩
      rw [circuits_bad g]
      exact upd_same
end
section
variable {P : Program} {w : World} {K : PySem.W.Frag} {mg : Str → Option Value}
theorem all_mk {h : Heap} {fa f0 fLens fKindOf : Addr} (X : K.In h) (Gm : h.Ns mainGlobals mg) (hfa : mg "circuits" = some (.ref fa))
    {od1 an1 od2 an2 od3 an3 : Option Addr} {sl1 sl2 sl3 : Array (Option Value)} {oc1 kV1 dc1 pm1 cd1 ct1 oc2 kV2 dc2 pm2 cd2 ct2 oc3 kV3 dc3 pm3 cd3 ct3 : Value}
    (a1 : PySem.W.nsIn K mainGlobals "circuits" = some (some (.ref f0))) (l1 : K.lookup f0 = some ⟨oc1, od1, .func (PySem.W.fnOf "circuits" "circuits" (defArgs sCircuits) (defBody sCircuits) (defScope sCircuits) .none kV1 dc1 pm1 an1 cd1 ct1), sl1⟩) (c1 : PySem.W.codeIn K cd1 "circuits" = true) (k1 : PySem.W.keepIn K (.ref f0) = true)
    (a2 : PySem.W.nsIn K mainGlobals "are_lengths" = some (some (.ref fLens))) (l2 : K.lookup fLens = some ⟨oc2, od2, .func (PySem.W.fnOf "are_lengths" "are_lengths" (defArgs sLens) (defBody sLens) (defScope sLens) .none kV2 dc2 pm2 an2 cd2 ct2), sl2⟩) (c2 : PySem.W.codeIn K cd2 "are_lengths" = true) (k2 : PySem.W.keepIn K (.ref fLens) = true)
    (a3 : PySem.W.nsIn K mainGlobals "kind_of" = some (some (.ref fKindOf))) (l3 : K.lookup fKindOf = some ⟨oc3, od3, .func (PySem.W.fnOf "kind_of" "kind_of" (defArgs sKindOf) (defBody sKindOf) (defScope sKindOf) .none kV3 dc3 pm3 an3 cd3 ct3), sl3⟩) (c3 : PySem.W.codeIn K cd3 "kind_of" = true) (k3 : PySem.W.keepIn K (.ref fKindOf) = true)
    (nAll : PySem.W.nsIn K mainGlobals "all" = some none) (nMax : PySem.W.nsIn K mainGlobals "max" = some none) (nMin : PySem.W.nsIn K mainGlobals "min" = some none) (nSum : PySem.W.nsIn K mainGlobals "sum" = some none) :
    ∃ fd : FuncData, (∀ (s : Shared) (us : List Value), us.length = (["g", "a", "c", "r"] : List Str).length → BindsTo s fd ⟨us, []⟩ ((["g", "a", "c", "r"] : List Str).zip us)) ∧ ∀ base : Heap, K.In base → base.Ns mainGlobals mg → FnOk P w K mg base CX0 2 fa fd ["g", "a", "c", "r"] spCircuits := by
  have e := hfa.symm.trans (PySem.W.mg_of X Gm a1)
  cases e
  have F := fun_mk (st := sCircuits) l1 c1 k1
  have FLens := fun_mk (st := sLens) l2 c2 k2
  have bLens := FLens.binds (ps := ["lengths"]) fun _ _ _ _ _ _ us hl => match us, hl with | [_], _ => rfl
  have gLens := PySem.W.mg_of X Gm a2
  have FKindOf := fun_mk (st := sKindOf) l3 c3 k3
  have bKindOf := FKindOf.binds (ps := ["lengths"]) fun _ _ _ _ _ _ us hl => match us, hl with | [_], _ => rfl
  have gKindOf := PySem.W.mg_of X Gm a3
  have nAll := PySem.W.mg_none_of X Gm nAll
  have nMax := PySem.W.mg_none_of X Gm nMax
  have nMin := PySem.W.mg_none_of X Gm nMin
  have nSum := PySem.W.mg_none_of X Gm nSum
  exact ⟨PySem.W.fnOf "circuits" "circuits" (defArgs sCircuits) (defBody sCircuits) (defScope sCircuits) .none kV1 dc1 pm1 an1 cd1 ct1, fun s us hu => match us, hu with | [_, _, _, _], _ => .of_eq rfl,
    fun base _ _ => ok_Circuits F FLens bLens gLens FKindOf bKindOf gKindOf nAll nMax nMin nSum⟩
end
end My
open PySem PySem.W PyProof.Rows
set_option maxRecDepth 100000 in
set_option maxHeartbeats 0 in
theorem PySem.Challenge.cw_fourbars_s05_circuits_holds : PySem.Challenge.rw_fourbars_s05_circuits.Holds := by
  w_on; k_headS; (case hw => exact ⟨[.int 0, .int 0, .int 0, .int 0], by decide +kernel, by decide +kernel⟩)
  k_fillS
  refine L2.walk_specK (r := PySem.Challenge.rw_fourbars_s05_circuits) (k := 2) (CX := L2.CX0) (ps := ["g", "a", "c", "r"]) (sp := fun _ => My.spCircuits) (by decide +kernel) rfl rfl ⟨rfl, by decide, by decide⟩ (fun w h Y => PySem.W.kIn_of Y) ?F ?S (fun _ _ _ _ z => z)
  case F =>
    intro w mg fa h Y KX G hmg
    refine' My.all_mk KX G hmg ?a1 ?l1 ?c1 ?k1 ?a2 ?l2 ?c2 ?k2 ?a3 ?l3 ?c3 ?k3 ?nAll ?nMax ?nMin ?nSum
    (case a1 => k_is); (case l1 => k_is); (case c1 => k_is); (case k1 => k_is)
    (case a2 => k_is); (case l2 => k_is); (case c2 => k_is); (case k2 => k_is)
    (case a3 => k_is); (case l3 => k_is); (case c3 => k_is); (case k3 => k_is)
    (case nAll => k_is); (case nMax => k_is); (case nMin => k_is); (case nSum => k_is)
  case S =>
    intro K H xs a hO hwi hask hx
    obtain ⟨v0, v1, v2, v3, u⟩ := a
    cases hx with
    | cons h0 hx =>
      cases hx with
      | cons h1 hx =>
        cases hx with
        | cons h2 hx =>
          cases hx with
          | cons h3 hx =>
            cases hx
            cases h0
            cases h1
            cases h2
            cases h3
            have q : (Codec.inInt 0 9223372036854775807 v0 && (Codec.inInt 0 9223372036854775807 v1 && (Codec.inInt 0 9223372036854775807 v2 && (Codec.inInt 0 9223372036854775807 v3 && true)))) = true := hwi
            simp only [Codec.inInt, Bool.and_eq_true, decide_eq_true_eq] at q
            obtain ⟨⟨q0, _⟩, ⟨q1, _⟩, ⟨q2, _⟩, ⟨q3, _⟩, _⟩ := q
            obtain ⟨V0, rfl⟩ := Int.eq_ofNat_of_zero_le q0
            obtain ⟨V1, rfl⟩ := Int.eq_ofNat_of_zero_le q1
            obtain ⟨V2, rfl⟩ := Int.eq_ofNat_of_zero_le q2
            obtain ⟨V3, rfl⟩ := Int.eq_ofNat_of_zero_le q3
            exact ⟨V0, V1, V2, V3, rfl, fun H' l hp => .lst (L2.SqL.of hp) (L2.dw_ints _)⟩
#print axioms PySem.Challenge.cw_fourbars_s05_circuits_holds
