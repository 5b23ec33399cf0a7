import PyProof.Rows.All
import Wide.All
import OpenK.AllK
import Wide.FinOn
import Open.SpecLaws
import KE.OsHead
import KE.OsGo
import HandS.ForSpec
import HandS.Comp
import HandS.Wide
import PySem.Challenge.RW_fourbars_s08_swing
set_option Elab.async false
set_option maxRecDepth 100000
set_option maxHeartbeats 2000000
namespace My
open LkFour LkDSpec
def Good (G A C R : Nat) : Prop := (1 ≤ G ∧ G ≤ 999) ∧ (1 ≤ A ∧ A ≤ 999) ∧ (1 ≤ C ∧ C ≤ 999) ∧ (1 ≤ R ∧ R ≤ 999)
theorem isLength_iff (n : Nat) : LkDSpec.isLength n = true ↔ 1 ≤ n ∧ n ≤ 999 := by
  unfold LkDSpec.isLength
  rw [Bool.and_eq_true, decide_eq_true_iff, decide_eq_true_iff]
  exact Iff.rfl
theorem lengths_iff (G A C R : Nat) : LkDSpec.lengths ⟨G, A, C, R⟩ = true ↔ Good G A C R := by
  unfold LkDSpec.lengths Good
  rw [Bool.and_eq_true, Bool.and_eq_true, Bool.and_eq_true, isLength_iff, isLength_iff, isLength_iff, isLength_iff]
theorem lengths_good {G A C R : Nat} (h : Good G A C R) : LkDSpec.lengths ⟨G, A, C, R⟩ = true := (lengths_iff ..).2 h
theorem lengths_bad {G A C R : Nat} (h : ¬ Good G A C R) : LkDSpec.lengths ⟨G, A, C, R⟩ = false := by
  rw [Bool.eq_false_iff]
  exact fun e => h ((lengths_iff ..).1 e)
theorem kind_step (G A C R : Nat) : PyWqapbt.kind G A C R = Neutral.shown (LkDSpec.answer ⟨⟨G, A, C, R⟩, .kind⟩) := by
  have e : Neutral.callOf [[0, (G : Int), (A : Int), (C : Int), (R : Int)]] = some ⟨⟨G, A, C, R⟩, .kind⟩ := by
    show (if Neutral.whole [(G : Int), (A : Int), (C : Int), (R : Int)] = true then some _ else none) = _
    rw [if_pos (by simp [Neutral.whole])]
    rfl
  show (Neutral.step Neutral.start [[0, (G : Int), (A : Int), (C : Int), (R : Int)]]).2 = _
  unfold Neutral.step
  rw [e]
  rfl
theorem kind_bad {G A C R : Nat} (h : ¬ Good G A C R) : PyWqapbt.kind G A C R = [-1] := by
  rw [kind_step, LkDSpec.answer, if_pos (Or.inl (lengths_bad h))]
  rfl
theorem kind_good {G A C R : Nat} (h : Good G A C R) : PyWqapbt.kind G A C R = [((Four.kind ⟨G, A, C, R⟩ : Nat) : Int)] := by
  rw [kind_step, LkDSpec.answer, if_neg (by rw [lengths_good h]; simp [LkDSpec.fine])]
  rfl
theorem longest_is {G A C R : Nat} {l : Int} (m1 : l = G ∨ l = A ∨ l = C ∨ l = R) (m2 : (G : Int) ≤ l ∧ (A : Int) ≤ l ∧ (C : Int) ≤ l ∧ (R : Int) ≤ l) : ((Four.longest ⟨G, A, C, R⟩ : Nat) : Int) = l := by
  simp only [Four.longest]
  omega
theorem shortest_is {G A C R : Nat} {h : Int} (n1 : h = G ∨ h = A ∨ h = C ∨ h = R) (n2 : h ≤ (G : Int) ∧ h ≤ (A : Int) ∧ h ≤ (C : Int) ∧ h ≤ (R : Int)) : ((Four.shortest ⟨G, A, C, R⟩ : Nat) : Int) = h := by
  simp only [Four.shortest]
  omega
theorem place_is (G A C R h : Int) (n1 : h = G ∨ h = A ∨ h = C ∨ h = R) : ((List.idxOf h [G, A, C, R] : Nat) : Int) = if G = h then 0 else if A = h then 1 else if C = h then 2 else 3 := by
  simp only [List.idxOf_cons, List.idxOf_nil, beq_iff_eq, cond_eq_ite]
  by_cases a : G = h
  · simp [a]
  · by_cases b : A = h
    · simp [a, b]
    · by_cases c : C = h
      · simp [a, b, c]
      · have d : R = h := by omega
        simp [a, b, c, d]
/-- the kind, as the program works it out -/
def kindBy (l h s : Int) (i : Int) : Int := if l > h + (s - l - h) then 0 else if l = h + (s - l - h) then 1 else if h + l > s - l - h then 7 else if h + l = s - l - h then 6 else 2 + i
theorem kind_by {G A C R : Nat} {l h : Int} (m1 : l = G ∨ l = A ∨ l = C ∨ l = R) (m2 : (G : Int) ≤ l ∧ (A : Int) ≤ l ∧ (C : Int) ≤ l ∧ (R : Int) ≤ l)
    (n1 : h = G ∨ h = A ∨ h = C ∨ h = R) (n2 : h ≤ (G : Int) ∧ h ≤ (A : Int) ∧ h ≤ (C : Int) ∧ h ≤ (R : Int)) :
    ((Four.kind ⟨G, A, C, R⟩ : Nat) : Int) = kindBy l h (G + A + C + R) ((List.idxOf h [(G : Int), A, C, R] : Nat) : Int) := by
  have hl := longest_is m1 m2
  have hh := shortest_is n1 n2
  rw [place_is _ _ _ _ _ n1, kindBy]
  simp only [Four.kind, Four.sum]
  generalize Four.longest ⟨G, A, C, R⟩ = l' at *
  generalize Four.shortest ⟨G, A, C, R⟩ = h' at *
  subst hl hh
  have b1 : l' + h' ≤ G + A + C + R := by omega
  have q1 : ((l' : Int) > h' + ((G : Int) + A + C + R - l' - h')) ↔ h' + (G + A + C + R - l' - h') < l' := by omega
  have q2 : ((l' : Int) = h' + ((G : Int) + A + C + R - l' - h')) ↔ h' + (G + A + C + R - l' - h') = l' := by omega
  have q3 : ((h' : Int) + l' > (G : Int) + A + C + R - l' - h') ↔ ¬ (h' + l' < G + A + C + R - l' - h' ∨ h' + l' = G + A + C + R - l' - h') := by omega
  have q4 : ((h' : Int) + l' = (G : Int) + A + C + R - l' - h') ↔ h' + l' = G + A + C + R - l' - h' := by omega
  have p1 : ((G : Int) = h') ↔ G = h' := by omega
  have p2 : ((A : Int) = h') ↔ A = h' := by omega
  have p3 : ((C : Int) = h') ↔ C = h' := by omega
  simp only [q1, q2, q3, q4, p1, p2, p3]
  by_cases c1 : h' + (G + A + C + R - l' - h') < l'
  · simp [c1]
  · by_cases c2 : h' + (G + A + C + R - l' - h') = l'
    · simp [c1, c2]
    · by_cases c3 : h' + l' < G + A + C + R - l' - h'
      · have c4 : ¬ (h' + l' = G + A + C + R - l' - h') := by omega
        simp only [c1, c2, c3, c4, if_true, if_false, true_or, not_true_eq_false]
        by_cases d1 : G = h'
        · simp [d1]
        · by_cases d2 : A = h'
          · simp [d1, d2]
          · by_cases d3 : C = h' <;> simp [d1, d2, d3]
      · by_cases c4 : h' + l' = G + A + C + R - l' - h' <;> simp [c1, c2, c3, c4]
end My
namespace My
open LkFour LkDSpec
theorem full_step (G A C R p : Nat) : PyWqapbt.full G A C R p = Neutral.shown (LkDSpec.answer ⟨⟨G, A, C, R⟩, .full p⟩) := by
  have e : Neutral.callOf [[1, (G : Int), (A : Int), (C : Int), (R : Int), (p : Int)]] = some ⟨⟨G, A, C, R⟩, .full p⟩ := by
    show (if Neutral.whole [(G : Int), (A : Int), (C : Int), (R : Int), (p : Int)] = true then some _ else none) = _
    rw [if_pos (by simp [Neutral.whole])]
    rfl
  show (Neutral.step Neutral.start [[1, (G : Int), (A : Int), (C : Int), (R : Int), (p : Int)]]).2 = _
  unfold Neutral.step
  rw [e]
  rfl
theorem full_bad {G A C R p : Nat} (h : ¬ (Good G A C R ∧ p ≤ 3)) : PyWqapbt.full G A C R p = [-1] := by
  rw [full_step, LkDSpec.answer, if_pos]
  · rfl
  · by_cases g : Good G A C R
    · refine Or.inr ?_
      show decide (p ≤ 3) = false
      exact decide_eq_false (fun q => h ⟨g, q⟩)
    · exact Or.inl (lengths_bad g)
theorem full_good {G A C R p : Nat} (h : Good G A C R) (q : p ≤ 3) : PyWqapbt.full G A C R p = [if Four.kind ⟨G, A, C, R⟩ = 0 then -2 else if Four.full ⟨G, A, C, R⟩ p = true then 1 else 0] := by
  rw [full_step, LkDSpec.answer, if_neg (by rw [lengths_good h]; simp [LkDSpec.fine, q])]
  show Neutral.shown (if Four.kind ⟨G, A, C, R⟩ = 0 then LkDSpec.says (-2) else LkDSpec.says (if Four.full ⟨G, A, C, R⟩ p = true then 1 else 0)) = _
  split <;> rfl
/-- the distance of two numbers, as abs gives it -/
theorem gap_is (x y : Nat) : ((gap x y : Nat) : Int) = (((x : Int) - y).natAbs : Int) := by
  unfold gap
  omega
theorem full_at {G A C R p u v w z : Nat} (e : Four.at_ ⟨G, A, C, R⟩ p = (u, v, w, z)) : Four.full ⟨G, A, C, R⟩ p = true ↔ ((((w : Int) - z).natAbs : Int) ≤ (((u : Int) - v).natAbs : Int) ∧ (u : Int) + v ≤ (w : Int) + z) := by
  unfold Four.full
  rw [e]
  show (decide (u + v ≤ w + z) && decide (gap w z ≤ gap u v)) = true ↔ _
  rw [Bool.and_eq_true, decide_eq_true_iff, decide_eq_true_iff]
  have a := gap_is w z
  have b := gap_is u v
  omega
end My
namespace My
open LkFour LkDSpec
theorem cosine_div (u v : Nat) (sq : Int) : cosine u v sq = Rat.divInt ((u : Int) * u + (v : Int) * v - sq) (2 * u * v) := by
  rw [Rat.divInt_eq_div]
  unfold cosine
  simp only [Rat.intCast_sub, Rat.intCast_add, Rat.intCast_mul, Rat.intCast_natCast, Rat.natCast_add, Rat.natCast_mul]
  rfl
theorem two_div {n d : Int} (hd : 0 < d) : two (Rat.divInt n d) = [n / (Int.gcd d n : Int), d / (Int.gcd d n : Int)] := by
  unfold two
  have e : ((d.natAbs / d.gcd n : Nat) : Int) = d / (Int.gcd d n : Int) := by
    rw [Int.natCast_ediv, Int.natAbs_of_nonneg (Int.le_of_lt hd)]
  rw [Rat.num_divInt, Rat.den_divInt, if_neg (show ¬ d = 0 by omega), Int.sign_eq_one_of_pos hd, Int.one_mul, e]
/-- a fraction in lowest terms is told as it stands -/
theorem two_low {n d a b : Int} (hb : 0 < b) (hd : d ≠ 0) (e : a * d = n * b) (g : Int.gcd a b = 1) : two (Rat.divInt n d) = [a, b] := by
  have h : Rat.divInt n d = Rat.divInt a b := (Rat.divInt_eq_divInt_iff hd (by omega)).2 e.symm
  rw [h, two_div hb, Int.gcd_comm, g]
  simp
/-- divided by any common measure that is the greatest -/
theorem two_by {n d k : Int} (hd : 0 < d) (hk : k = (Int.gcd n d : Int)) : two (Rat.divInt n d) = [n / k, d / k] := by
  rw [two_div hd, hk, Int.gcd_comm]
end My
namespace My
open LkFour LkDSpec
theorem frac_div (x y z e k : Int) : ((x * x + y - z : Rat) / (2 * e * k : Rat)) = Rat.divInt (x * x + y - z) (2 * e * k) := by
  rw [Rat.divInt_eq_div]
  simp only [Rat.intCast_sub, Rat.intCast_add, Rat.intCast_mul]
  rfl
theorem line_opp {f : Four} {pin : Nat} {fo : Bool} {o u v w z : Nat} {d : Int} (e : f.at_ pin = (u, v, w, z)) (ed : f.apart pin fo = d) (h : o = (pin + 2) % 4) :
    f.lineCosine pin fo o = some (Rat.divInt ((w : Int) * w + (z : Int) * z - d * d) (2 * w * z)) := by
  unfold Four.lineCosine
  rw [e, ed]
  simp only [if_pos h]
  rw [cosine_div]
theorem line_any {f : Four} {pin : Nat} {fo : Bool} {o u v w z : Nat} {d : Int} (e : f.at_ pin = (u, v, w, z)) (ed : f.apart pin fo = d) (h : o ≠ (pin + 2) % 4) (h0 : d = 0) :
    f.lineCosine pin fo o = none := by
  unfold Four.lineCosine
  rw [e, ed]
  simp only [if_neg h, if_pos h0]
theorem line_before {f : Four} {pin : Nat} {fo : Bool} {o u v w z : Nat} {d : Int} (e : f.at_ pin = (u, v, w, z)) (ed : f.apart pin fo = d) (h : o ≠ (pin + 2) % 4) (h0 : d ≠ 0) (h1 : o = (pin + 3) % 4) :
    f.lineCosine pin fo o = some (Rat.divInt (d * d + (w : Int) * w - (z : Int) * z) (2 * d * w)) := by
  unfold Four.lineCosine
  rw [e, ed]
  simp only [if_neg h, if_neg h0, if_pos h1]
  rw [← frac_div]
  simp only [Rat.intCast_mul, Rat.intCast_natCast, Rat.natCast_mul]
theorem line_behind {f : Four} {pin : Nat} {fo : Bool} {o u v w z : Nat} {d : Int} (e : f.at_ pin = (u, v, w, z)) (ed : f.apart pin fo = d) (h : o ≠ (pin + 2) % 4) (h0 : d ≠ 0) (h1 : o ≠ (pin + 3) % 4) :
    f.lineCosine pin fo o = some (Rat.divInt (d * d + (z : Int) * z - (w : Int) * w) (2 * (if fo = true then -d else d) * z)) := by
  unfold Four.lineCosine
  rw [e, ed]
  simp only [if_neg h, if_neg h0, if_neg h1]
  rw [← frac_div]
  simp only [Rat.intCast_mul, Rat.intCast_natCast, Rat.natCast_mul]
theorem range_step (G A C R p : Nat) : PyWqapbt.range_of G A C R p = Neutral.shown (LkDSpec.answer ⟨⟨G, A, C, R⟩, .range p⟩) := by
  have e : Neutral.callOf [[2, (G : Int), (A : Int), (C : Int), (R : Int), (p : Int)]] = some ⟨⟨G, A, C, R⟩, .range p⟩ := by
    show (if Neutral.whole [(G : Int), (A : Int), (C : Int), (R : Int), (p : Int)] = true then some _ else none) = _
    rw [if_pos (by simp [Neutral.whole])]
    rfl
  show (Neutral.step Neutral.start [[2, (G : Int), (A : Int), (C : Int), (R : Int), (p : Int)]]).2 = _
  unfold Neutral.step
  rw [e]
  rfl
theorem range_bad {G A C R p : Nat} (h : ¬ (Good G A C R ∧ p ≤ 3)) : PyWqapbt.range_of G A C R p = [-1] := by
  rw [range_step, LkDSpec.answer, if_pos]
  · rfl
  · by_cases g : Good G A C R
    · refine Or.inr ?_
      show decide (p ≤ 3) = false
      exact decide_eq_false (fun q => h ⟨g, q⟩)
    · exact Or.inl (lengths_bad g)
theorem range_good {G A C R p : Nat} (h : Good G A C R) (q : p ≤ 3) : PyWqapbt.range_of G A C R p =
    if Four.kind ⟨G, A, C, R⟩ = 0 then [-2] else 0 :: 4 :: (two (Four.range ⟨G, A, C, R⟩ p).1 ++ two (Four.range ⟨G, A, C, R⟩ p).2) := by
  rw [range_step, LkDSpec.answer, if_neg (by rw [lengths_good h]; simp [LkDSpec.fine, q])]
  show Neutral.shown (if Four.kind ⟨G, A, C, R⟩ = 0 then LkDSpec.says (-2) else ⟨0, [two (Four.range ⟨G, A, C, R⟩ p).1 ++ two (Four.range ⟨G, A, C, R⟩ p).2]⟩) = _
  split
  · rfl
  · simp [Neutral.shown, two]
theorem two_neg_one : two (-1) = [-1, 1] := by decide +kernel
theorem two_one : two 1 = [1, 1] := by decide +kernel
theorem range_at {G A C R p u v w z : Nat} (e : Four.at_ ⟨G, A, C, R⟩ p = (u, v, w, z)) : Four.range ⟨G, A, C, R⟩ p =
    (if u + v ≤ w + z then -1 else Rat.divInt ((u : Int) * u + (v : Int) * v - (((w + z) * (w + z) : Nat) : Int)) (2 * u * v), if gap w z ≤ gap u v then 1 else Rat.divInt ((u : Int) * u + (v : Int) * v - ((gap w z * gap w z : Nat) : Int)) (2 * u * v)) := by
  unfold Four.range
  rw [e]
  simp only [cosine_div]
theorem line_step (G A C R x y z : Nat) : PyWqapbt.line G A C R x y z = Neutral.shown (LkDSpec.answer ⟨⟨G, A, C, R⟩, .line x y z⟩) := by
  have e : Neutral.callOf [[3, (G : Int), (A : Int), (C : Int), (R : Int), (x : Int), (y : Int), (z : Int)]] = some ⟨⟨G, A, C, R⟩, .line x y z⟩ := by
    show (if Neutral.whole [(G : Int), (A : Int), (C : Int), (R : Int), (x : Int), (y : Int), (z : Int)] = true then some _ else none) = _
    rw [if_pos (by simp [Neutral.whole])]
    rfl
  show (Neutral.step Neutral.start [[3, (G : Int), (A : Int), (C : Int), (R : Int), (x : Int), (y : Int), (z : Int)]]).2 = _
  unfold Neutral.step
  rw [e]
  rfl
end My
namespace My
open LkFour LkDSpec
theorem fine_line (x y z : Nat) : LkDSpec.fine (.line x y z) = true ↔ x ≤ 3 ∧ z ≤ 3 ∧ y ≤ 1 ∧ z ≠ x := by
  show (decide (x ≤ 3) && (decide (z ≤ 3) && (decide (y ≤ 1) && z != x))) = true ↔ _
  rw [Bool.and_eq_true, Bool.and_eq_true, Bool.and_eq_true, decide_eq_true_iff, decide_eq_true_iff, decide_eq_true_iff, bne_iff_ne]
theorem line_bad {G A C R x y z : Nat} (h : ¬ (Good G A C R ∧ x ≤ 3 ∧ z ≤ 3 ∧ y ≤ 1 ∧ z ≠ x)) : PyWqapbt.line G A C R x y z = [-1] := by
  rw [line_step, LkDSpec.answer, if_pos]
  · rfl
  · by_cases g : Good G A C R
    · refine Or.inr ?_
      rw [Bool.eq_false_iff]
      exact fun e => h ⟨g, (fine_line ..).1 e⟩
    · exact Or.inl (lengths_bad g)
theorem line_good {G A C R x y z : Nat} (h : Good G A C R) (q : x ≤ 3 ∧ z ≤ 3 ∧ y ≤ 1 ∧ z ≠ x) : PyWqapbt.line G A C R x y z =
    if Four.kind ⟨G, A, C, R⟩ = 0 then [-2] else if Four.inLine ⟨G, A, C, R⟩ x (y == 1) = false then [0, 0] else
      match Four.lineCosine ⟨G, A, C, R⟩ x (y == 1) z with
      | some t => 1 :: 2 :: two t
      | none => [-5] := by
  rw [line_step, LkDSpec.answer, if_neg (by rw [lengths_good h, (fine_line ..).2 q]; simp)]
  show Neutral.shown (if Four.kind ⟨G, A, C, R⟩ = 0 then LkDSpec.says (-2) else if Four.inLine ⟨G, A, C, R⟩ x (y == 1) = false then ⟨0, [[]]⟩ else (match Four.lineCosine ⟨G, A, C, R⟩ x (y == 1) z with | some t => ⟨1, [two t]⟩ | none => LkDSpec.says (-5))) = _
  split
  · rfl
  · split
    · rfl
    · cases Four.lineCosine ⟨G, A, C, R⟩ x (y == 1) z with
      | none => rfl
      | some t => simp [Neutral.shown, two]
theorem inLine_at {f : Four} {pin : Nat} {fo : Bool} {u v w z : Nat} {d : Int} (e : f.at_ pin = (u, v, w, z)) (ed : f.apart pin fo = d) : f.inLine pin fo = true ↔ (((w : Int) - z).natAbs : Int) ≤ (d.natAbs : Int) ∧ (d.natAbs : Int) ≤ (w : Int) + z := by
  unfold Four.inLine
  rw [e, ed]
  show (decide (gap w z ≤ d.natAbs) && decide (d.natAbs ≤ w + z)) = true ↔ _
  rw [Bool.and_eq_true, decide_eq_true_iff, decide_eq_true_iff]
  have a := gap_is w z
  omega
theorem apart_at {f : Four} {pin : Nat} {fo : Bool} {u v w z : Nat} (e : f.at_ pin = (u, v, w, z)) : f.apart pin fo = if fo = true then (u : Int) - v else (u : Int) + v := by
  unfold Four.apart
  rw [e]
theorem circuits_step (G A C R : Nat) : PyWqapbt.circuits G A C R = Neutral.shown (LkDSpec.answer ⟨⟨G, A, C, R⟩, .circuits⟩) := by
  have e : Neutral.callOf [[4, (G : Int), (A : Int), (C : Int), (R : Int)]] = some ⟨⟨G, A, C, R⟩, .circuits⟩ := by
    show (if Neutral.whole [(G : Int), (A : Int), (C : Int), (R : Int)] = true then some _ else none) = _
    rw [if_pos (by simp [Neutral.whole])]
    rfl
  show (Neutral.step Neutral.start [[4, (G : Int), (A : Int), (C : Int), (R : Int)]]).2 = _
  unfold Neutral.step
  rw [e]
  rfl
theorem circuits_bad {G A C R : Nat} (h : ¬ Good G A C R) : PyWqapbt.circuits G A C R = [-1] := by
  rw [circuits_step, LkDSpec.answer, if_pos (Or.inl (lengths_bad h))]
  rfl
theorem circuits_good {G A C R : Nat} (h : Good G A C R) : PyWqapbt.circuits G A C R = [if Four.kind ⟨G, A, C, R⟩ = 0 then 0 else if 2 ≤ Four.kind ⟨G, A, C, R⟩ ∧ Four.kind ⟨G, A, C, R⟩ ≤ 5 then 2 else 1] := by
  rw [circuits_step, LkDSpec.answer, if_neg (by rw [lengths_good h]; simp [LkDSpec.fine])]
  show [((Four.circuits ⟨G, A, C, R⟩ : Nat) : Int)] = _
  unfold Four.circuits
  by_cases a : Four.kind ⟨G, A, C, R⟩ = 0
  · rw [if_pos a, if_pos a]
    rfl
  · rw [if_neg a, if_neg a]
    by_cases b : 2 ≤ Four.kind ⟨G, A, C, R⟩ ∧ Four.kind ⟨G, A, C, R⟩ ≤ 5
    · rw [if_pos b, if_pos b]
      rfl
    · rw [if_neg b, if_neg b]
      rfl
end My
namespace My
open LkFour LkDSpec
/-- the fraction's two numbers, divided by the greatest common measure with the sign of the lower one -/
theorem two_fdiv {n d k : Int} (hd : d ≠ 0) (hk : k = if d < 0 then -((Nat.gcd n.natAbs d.natAbs : Nat) : Int) else ((Nat.gcd n.natAbs d.natAbs : Nat) : Int)) : two (Rat.divInt n d) = [n.fdiv k, d.fdiv k] := by
  have g0 : (0 : Int) < (Int.gcd n d : Int) := by
    have : 0 < Int.gcd n d := Int.gcd_pos_of_ne_zero_right n hd
    omega
  have eg : ((Nat.gcd n.natAbs d.natAbs : Nat) : Int) = (Int.gcd n d : Int) := rfl
  by_cases c : d < 0
  · rw [if_pos c, eg] at hk
    have e1 : Rat.divInt n d = Rat.divInt (-n) (-d) := by
      rw [Rat.divInt_eq_divInt_iff hd (by omega)]
      grind
    have e2 : (Int.gcd (-n) (-d) : Int) = (Int.gcd n d : Int) := by
      rw [Int.gcd_neg, Int.neg_gcd]
    rw [e1, two_by (k := (Int.gcd n d : Int)) (by omega) e2.symm]
    obtain ⟨x, hx⟩ := Int.gcd_dvd_left n d
    obtain ⟨y, hy⟩ := Int.gcd_dvd_right n d
    have f : ∀ {m x : Int}, m = (Int.gcd n d : Int) * x → -m / (Int.gcd n d : Int) = m.fdiv k := by
      intro m x e
      have l : -m / (Int.gcd n d : Int) = -x := by
        rw [show -m = (Int.gcd n d : Int) * (-x) by rw [e]; grind]
        exact Int.mul_ediv_cancel_left _ (by omega)
      have r : m.fdiv k = -x := by
        rw [show m = k * (-x) by rw [e, hk]; grind]
        exact Int.mul_fdiv_cancel_left _ (by omega)
      rw [l, r]
    rw [f hx, f hy]
  · rw [if_neg c, eg] at hk
    rw [two_by (k := k) (by omega) hk, Int.fdiv_eq_ediv_of_nonneg _ (by omega), Int.fdiv_eq_ediv_of_nonneg _ (by omega)]
/-- the same with the bars by their places round the figure -/
theorem bars_at {G A C R p : Nat} (h : p ≤ 3) : ∃ u v w z : Nat, ([(G : Int), (A : Int), (C : Int), (R : Int)]).drop p ++ ([(G : Int), (A : Int), (C : Int), (R : Int)]).take p = [(u : Int), (v : Int), (z : Int), (w : Int)] ∧ Four.at_ ⟨G, A, C, R⟩ p = (u, v, w, z) ∧
    (Good G A C R → (1 ≤ u ∧ u ≤ 999) ∧ (1 ≤ v ∧ v ≤ 999) ∧ (1 ≤ w ∧ w ≤ 999) ∧ (1 ≤ z ∧ z ≤ 999)) := by
  match p, h with
  | 0, _ => exact ⟨G, A, R, C, rfl, rfl, fun ⟨a, b, c, d⟩ => ⟨a, b, d, c⟩⟩
  | 1, _ => exact ⟨A, C, G, R, rfl, rfl, fun ⟨a, b, c, d⟩ => ⟨b, c, a, d⟩⟩
  | 2, _ => exact ⟨C, R, A, G, rfl, rfl, fun ⟨a, b, c, d⟩ => ⟨c, d, b, a⟩⟩
  | 3, _ => exact ⟨R, G, C, A, rfl, rfl, fun ⟨a, b, c, d⟩ => ⟨d, a, c, b⟩⟩
  | p + 4, h => omega
/-- the cosine between two sides, told the third -/
def cosZ (x y z : Int) : Rat := Rat.divInt (x * x + y * y - z * z) (2 * x * y)
theorem cosZ_sum {u v : Nat} (hu : 1 ≤ u) (hv : 1 ≤ v) : cosZ u v ((u : Int) + v) = -1 := by
  have p : (2 : Int) * u * v ≠ 0 := by
    have := Int.mul_pos (show (0 : Int) < 2 * u by omega) (show (0 : Int) < v by omega)
    omega
  have e : (-1 : Rat) = Rat.divInt (-1) 1 := by decide +kernel
  unfold cosZ
  rw [e, Rat.divInt_eq_divInt_iff p (by decide)]
  grind
theorem cosZ_gap {u v : Nat} (hu : 1 ≤ u) (hv : 1 ≤ v) : cosZ u v ((((u : Int) - v).natAbs : Nat) : Int) = 1 := by
  have p : (2 : Int) * u * v ≠ 0 := by
    have := Int.mul_pos (show (0 : Int) < 2 * u by omega) (show (0 : Int) < v by omega)
    omega
  have e : (1 : Rat) = Rat.divInt 1 1 := by decide +kernel
  unfold cosZ
  rw [e, Rat.divInt_eq_divInt_iff p (by decide)]
  rcases Int.natAbs_eq ((u : Int) - v) with h | h <;> grind
theorem range_is {G A C R p u v w z : Nat} (e : Four.at_ ⟨G, A, C, R⟩ p = (u, v, w, z)) (hu : 1 ≤ u) (hv : 1 ≤ v) {near far : Int}
    (hn : (near = (((u : Int) - v).natAbs : Int) ∧ (((z : Int) - w).natAbs : Int) ≤ near) ∨ (near = (((z : Int) - w).natAbs : Int) ∧ (((u : Int) - v).natAbs : Int) ≤ near))
    (hf : (far = (u : Int) + v ∧ far ≤ (z : Int) + w) ∨ (far = (z : Int) + w ∧ far ≤ (u : Int) + v)) :
    Four.range ⟨G, A, C, R⟩ p = (cosZ u v far, cosZ u v near) := by
  rw [range_at e]
  have a := gap_is w z
  have b := gap_is u v
  have c1 := cosZ_sum hu hv
  have c2 := cosZ_gap hu hv
  refine Prod.ext ?_ ?_
  · show (if u + v ≤ w + z then (-1 : Rat) else _) = cosZ u v far
    split
    · rw [← c1]
      congr 1
      omega
    · unfold cosZ
      rw [show far = ((w + z : Nat) : Int) by omega]
      rfl
  · show (if gap w z ≤ gap u v then (1 : Rat) else _) = cosZ u v near
    split
    · rw [← c2]
      congr 1
      omega
    · unfold cosZ
      rw [show near = ((gap w z : Nat) : Int) by omega]
      rfl
/-- the pins from one on to another -/
theorem pins_step {p o : Nat} (hp : p ≤ 3) (ho : o ≤ 3) (hne : o ≠ p) : ∃ s : Int, ((o : Int) - p).fmod 4 = s ∧ (s = 1 ∧ o ≠ (p + 2) % 4 ∧ o ≠ (p + 3) % 4 ∨ s = 2 ∧ o = (p + 2) % 4 ∨ s = 3 ∧ o ≠ (p + 2) % 4 ∧ o = (p + 3) % 4) ∧ ((s = 2) ↔ (((o : Int) - p).natAbs : Int) = 2) := by
  refine ⟨_, rfl, ?_⟩
  rw [Int.fmod_eq_emod_of_nonneg _ (by decide)]
  omega
theorem line_is {f : Four} {pin : Nat} {fo : Bool} {o u v w z : Nat} {d : Int} (e : f.at_ pin = (u, v, w, z)) (ed : f.apart pin fo = d) {s : Int}
    (hs : s = 1 ∧ o ≠ (pin + 2) % 4 ∧ o ≠ (pin + 3) % 4 ∨ s = 2 ∧ o = (pin + 2) % 4 ∨ s = 3 ∧ o ≠ (pin + 2) % 4 ∧ o = (pin + 3) % 4) :
    f.lineCosine pin fo o = if d = 0 ∧ s ≠ 2 then none else some (if s = 1 then cosZ (if fo = true then -d else d) z w else if s = 2 then cosZ z w d else cosZ d w z) := by
  rcases hs with ⟨rfl, h2, h3⟩ | ⟨rfl, h2⟩ | ⟨rfl, h2, h3⟩
  · by_cases h0 : d = 0
    · rw [line_any e ed h2 h0, if_pos ⟨h0, by decide⟩]
    · rw [line_behind e ed h2 h0 h3, if_neg (fun q : d = 0 ∧ (1 : Int) ≠ 2 => h0 q.1), if_pos (show (1 : Int) = 1 from rfl)]
      unfold cosZ
      congr 2
      cases fo
      · rfl
      · show d * d + _ - _ = -d * -d + _ - _
        grind
  · rw [line_opp e ed h2, if_neg (fun q => q.2 rfl), if_neg (by decide), if_pos rfl]
    unfold cosZ
    congr 2
    · grind
    · grind
  · by_cases h0 : d = 0
    · rw [line_any e ed h2 h0, if_pos ⟨h0, by decide⟩]
    · rw [line_before e ed h2 h0 h3, if_neg (fun q : d = 0 ∧ (3 : Int) ≠ 2 => h0 q.1), if_neg (by decide), if_neg (by decide)]
      rfl
end My
namespace My
open LkFour LkDSpec
theorem div_lt_div {a b c d : Int} (hb : 0 < b) (hd : 0 < d) : Rat.divInt a b < Rat.divInt c d ↔ a * d < c * b := by
  rw [Rat.divInt_eq_div, Rat.divInt_eq_div]
  have hb' : (0 : Rat) < (b : Rat) := Rat.intCast_pos.2 hb
  have hd' : (0 : Rat) < (d : Rat) := Rat.intCast_pos.2 hd
  rw [Rat.div_lt_iff hb', Rat.div_def, Rat.mul_assoc, Rat.mul_comm _ (b : Rat), ← Rat.mul_assoc, ← Rat.div_def, Rat.lt_div_iff hd', ← Rat.intCast_mul, ← Rat.intCast_mul, Rat.intCast_lt_intCast]
theorem div_le_div {a b c d : Int} (hb : 0 < b) (hd : 0 < d) : Rat.divInt a b ≤ Rat.divInt c d ↔ a * d ≤ c * b := by
  rw [← Rat.not_lt, div_lt_div hd hb]
  omega
theorem div_eq_div {a b c d : Int} (hb : 0 < b) (hd : 0 < d) : Rat.divInt a b = Rat.divInt c d ↔ a * d = c * b := Rat.divInt_eq_divInt_iff (by omega) (by omega)
theorem one_div' : (1 : Rat) = Rat.divInt 1 1 := by decide +kernel
theorem neg_one_div' : (-1 : Rat) = Rat.divInt (-1) 1 := by decide +kernel
theorem zero_div' : (0 : Rat) = Rat.divInt 0 1 := by decide +kernel
theorem place_x (p q : Int) : (place p q).1 = Rat.divInt (q * q - p * p) (q * q + p * p) := by
  rw [Rat.divInt_eq_div]
  rfl
theorem place_y (p q : Int) : (place p q).2 = Rat.divInt (2 * p * q) (q * q + p * p) := by
  rw [Rat.divInt_eq_div]
  rfl
theorem square_nonneg (p : Int) : 0 ≤ p * p := by
  rw [← Int.natAbs_mul_self]
  exact Int.natCast_nonneg _
theorem square_pos {p : Int} (h : p ≠ 0) : 0 < p * p := by
  rcases Int.lt_or_gt_of_ne h with a | a
  · exact Int.mul_pos_of_neg_of_neg a a
  · exact Int.mul_pos a a
theorem square_zero {p : Int} (h : p * p = 0) : p = 0 := by
  by_cases a : p = 0
  · exact a
  · have := square_pos a
    omega
theorem square_sum_pos {p q : Int} (h : ¬ (p = 0 ∧ q = 0)) : 0 < q * q + p * p := by
  have a := square_nonneg p
  have b := square_nonneg q
  by_cases c : p = 0
  · have d := square_pos (p := q) (fun e => h ⟨c, e⟩)
    omega
  · have d := square_pos c
    omega
theorem atB_iff {G A C R : Nat} {p q : Int} (h : ¬ (p = 0 ∧ q = 0)) : Four.atB ⟨G, A, C, R⟩ (place p q).1 = true ↔ A = G ∧ p = 0 := by
  unfold Four.atB
  rw [Bool.and_eq_true, beq_iff_eq, beq_iff_eq, place_x, one_div', div_eq_div (square_sum_pos h) (by decide)]
  have k : ((q * q - p * p) * 1 = 1 * (q * q + p * p)) ↔ p = 0 := by
    constructor
    · intro e
      exact square_zero (by omega)
    · intro e
      subst e
      omega
  rw [k]
theorem limits_one (G A C R : Nat) : (Four.limits ⟨G, A, C, R⟩).1 = Rat.divInt ((G : Int) * G + (A : Int) * A - ((C : Int) + R) * ((C : Int) + R)) (2 * G * A) := by
  show cosine G A (((C + R) * (C + R) : Nat) : Int) = _
  rw [cosine_div, Int.natCast_mul, Int.natCast_add]
theorem limits_two (G A C R : Nat) : (Four.limits ⟨G, A, C, R⟩).2 = Rat.divInt ((G : Int) * G + (A : Int) * A - ((C : Int) - R) * ((C : Int) - R)) (2 * G * A) := by
  show cosine G A ((gap C R * gap C R : Nat) : Int) = _
  rw [cosine_div, Int.natCast_mul, gap_is, ← Int.natCast_mul, Int.natAbs_mul_self']
theorem closes_iff {G A C R : Nat} {p q : Int} (hG : 1 ≤ G) (hA : 1 ≤ A) (h : ¬ (p = 0 ∧ q = 0)) : Four.closes ⟨G, A, C, R⟩ (place p q).1 = true ↔
    ¬ (A = G ∧ p = 0) ∧ ((G : Int) * G + (A : Int) * A - ((C : Int) + R) * ((C : Int) + R)) * (q * q + p * p) ≤ (q * q - p * p) * (2 * G * A) ∧
      (q * q - p * p) * (2 * G * A) ≤ ((G : Int) * G + (A : Int) * A - ((C : Int) - R) * ((C : Int) - R)) * (q * q + p * p) := by
  have hd : (0 : Int) < 2 * G * A := Int.mul_pos (by omega) (by omega)
  unfold Four.closes
  rw [Bool.and_eq_true, Bool.and_eq_true, decide_eq_true_iff, decide_eq_true_iff, Bool.not_eq_true', limits_one, limits_two, place_x, div_le_div hd (square_sum_pos h), div_le_div (square_sum_pos h) hd, ← place_x, ← atB_iff (C := C) (R := R) h, Bool.not_eq_true]
theorem y_pos {p q : Int} (h : ¬ (p = 0 ∧ q = 0)) : (0 : Rat) < (place p q).2 ↔ 0 < p * q := by
  rw [place_y, zero_div', div_lt_div (by decide) (square_sum_pos h)]
  have e : 2 * p * q = 2 * (p * q) := Int.mul_assoc ..
  omega
theorem isPlace_iff (p q : Int) : LkDSpec.isPlace p q = true ↔ p.natAbs ≤ 99 ∧ q.natAbs ≤ 99 ∧ ¬ (p = 0 ∧ q = 0) := by
  unfold LkDSpec.isPlace
  rw [Bool.and_eq_true, Bool.and_eq_true, decide_eq_true_iff, decide_eq_true_iff, Bool.not_eq_true', Bool.and_eq_false_iff, beq_eq_false_iff_ne, beq_eq_false_iff_ne, Classical.not_and_iff_not_or_not]
  exact Iff.rfl
theorem circuit_step (G A C R s : Nat) (p q : Int) : PyWqapbt.circuit G A C R p q s = Neutral.shown (LkDSpec.answer ⟨⟨G, A, C, R⟩, .circuit p q s⟩) := by
  have e : Neutral.callOf [[5, (G : Int), (A : Int), (C : Int), (R : Int), p, q, (s : Int)]] = some ⟨⟨G, A, C, R⟩, .circuit p q s⟩ := by
    show (if Neutral.whole [(G : Int), (A : Int), (C : Int), (R : Int), (s : Int)] = true then some _ else none) = _
    rw [if_pos (by simp [Neutral.whole])]
    rfl
  show (Neutral.step Neutral.start [[5, (G : Int), (A : Int), (C : Int), (R : Int), p, q, (s : Int)]]).2 = _
  unfold Neutral.step
  rw [e]
  rfl
theorem circuit_bad {G A C R s : Nat} {p q : Int} (h : ¬ (Good G A C R ∧ LkDSpec.isPlace p q = true ∧ s ≤ 1)) : PyWqapbt.circuit G A C R p q s = [-1] := by
  rw [circuit_step, LkDSpec.answer, if_pos]
  · rfl
  · by_cases g : Good G A C R
    · refine Or.inr ?_
      show (LkDSpec.isPlace p q && decide (s ≤ 1)) = false
      rw [Bool.eq_false_iff, ne_eq, Bool.and_eq_true, decide_eq_true_iff]
      exact fun e => h ⟨g, e⟩
    · exact Or.inl (lengths_bad g)
theorem circuit_good {G A C R s : Nat} {p q : Int} (h : Good G A C R) (k : LkDSpec.isPlace p q = true) (l : s ≤ 1) : PyWqapbt.circuit G A C R p q s =
    [if Four.closes ⟨G, A, C, R⟩ (place p q).1 = false then -3 else ((Four.circuit ⟨G, A, C, R⟩ (place p q).2 s : Nat) : Int)] := by
  rw [circuit_step, LkDSpec.answer, if_neg]
  · show Neutral.shown (if Four.closes ⟨G, A, C, R⟩ (place p q).1 = false then LkDSpec.says (-3) else LkDSpec.says ((Four.circuit ⟨G, A, C, R⟩ (place p q).2 s : Nat) : Int)) = _
    split <;> rfl
  · have e : LkDSpec.fine (.circuit p q s) = true := by
      show (LkDSpec.isPlace p q && decide (s ≤ 1)) = true
      rw [k, decide_eq_true l]
      rfl
    rw [lengths_good h, e]
    simp
end My
namespace My
open LkFour LkDSpec
theorem drive_step (G A C R s l : Nat) (p q u v : Int) : PyWqapbt.drive G A C R p q s l u v = Neutral.shown (LkDSpec.answer ⟨⟨G, A, C, R⟩, .drive p q s l u v⟩) := by
  have e : Neutral.callOf [[6, (G : Int), (A : Int), (C : Int), (R : Int), p, q, (s : Int), (l : Int), u, v]] = some ⟨⟨G, A, C, R⟩, .drive p q s l u v⟩ := by
    show (if Neutral.whole [(G : Int), (A : Int), (C : Int), (R : Int), (s : Int), (l : Int)] = true then some _ else none) = _
    rw [if_pos (by simp [Neutral.whole])]
    rfl
  show (Neutral.step Neutral.start [[6, (G : Int), (A : Int), (C : Int), (R : Int), p, q, (s : Int), (l : Int), u, v]]).2 = _
  unfold Neutral.step
  rw [e]
  rfl
theorem fine_drive (p q u v : Int) (s l : Nat) : LkDSpec.fine (.drive p q s l u v) = true ↔ LkDSpec.isPlace p q = true ∧ LkDSpec.isPlace u v = true ∧ s ≤ 1 ∧ l ≤ 1 := by
  show (LkDSpec.isPlace p q && (LkDSpec.isPlace u v && (decide (s ≤ 1) && decide (l ≤ 1)))) = true ↔ _
  rw [Bool.and_eq_true, Bool.and_eq_true, Bool.and_eq_true, decide_eq_true_iff, decide_eq_true_iff]
theorem drive_bad {G A C R s l : Nat} {p q u v : Int} (h : ¬ (Good G A C R ∧ LkDSpec.isPlace p q = true ∧ LkDSpec.isPlace u v = true ∧ s ≤ 1 ∧ l ≤ 1)) : PyWqapbt.drive G A C R p q s l u v = [-1] := by
  rw [drive_step, LkDSpec.answer, if_pos]
  · rfl
  · by_cases g : Good G A C R
    · refine Or.inr ?_
      rw [Bool.eq_false_iff, ne_eq, fine_drive]
      exact fun e => h ⟨g, e⟩
    · exact Or.inl (lengths_bad g)
theorem drive_good {G A C R s l : Nat} {p q u v : Int} (h : Good G A C R) (k : LkDSpec.isPlace p q = true ∧ LkDSpec.isPlace u v = true ∧ s ≤ 1 ∧ l ≤ 1) : PyWqapbt.drive G A C R p q s l u v =
    [Four.drive ⟨G, A, C, R⟩ (place p q) s (l == 1) (place u v)] := by
  rw [drive_step, LkDSpec.answer, if_neg]
  · rfl
  · rw [lengths_good h, (fine_drive ..).2 k]
    simp
theorem swing_step (G A C R w m : Nat) : PyWqapbt.swing G A C R w m = Neutral.shown (LkDSpec.answer ⟨⟨G, A, C, R⟩, .swing w m⟩) := by
  have e : Neutral.callOf [[7, (G : Int), (A : Int), (C : Int), (R : Int), (w : Int), (m : Int)]] = some ⟨⟨G, A, C, R⟩, .swing w m⟩ := by
    show (if Neutral.whole [(G : Int), (A : Int), (C : Int), (R : Int), (w : Int), (m : Int)] = true then some _ else none) = _
    rw [if_pos (by simp [Neutral.whole])]
    rfl
  show (Neutral.step Neutral.start [[7, (G : Int), (A : Int), (C : Int), (R : Int), (w : Int), (m : Int)]]).2 = _
  unfold Neutral.step
  rw [e]
  rfl
theorem fine_swing (w m : Nat) : LkDSpec.fine (.swing w m) = true ↔ w ≤ 1 ∧ 1 ≤ m ∧ m ≤ 8 := by
  show (decide (w ≤ 1) && (decide (1 ≤ m) && decide (m ≤ 8))) = true ↔ _
  rw [Bool.and_eq_true, Bool.and_eq_true, decide_eq_true_iff, decide_eq_true_iff, decide_eq_true_iff]
theorem swing_bad {G A C R w m : Nat} (h : ¬ (Good G A C R ∧ w ≤ 1 ∧ 1 ≤ m ∧ m ≤ 8)) : PyWqapbt.swing G A C R w m = [-1] := by
  rw [swing_step, LkDSpec.answer, if_pos]
  · rfl
  · by_cases g : Good G A C R
    · refine Or.inr ?_
      rw [Bool.eq_false_iff, ne_eq, fine_swing]
      exact fun e => h ⟨g, e⟩
    · exact Or.inl (lengths_bad g)
theorem swing_good {G A C R w m : Nat} (h : Good G A C R) (k : w ≤ 1 ∧ 1 ≤ m ∧ m ≤ 8) : PyWqapbt.swing G A C R w m =
    if Four.kind ⟨G, A, C, R⟩ ≠ 3 then [-2] else [0, 1, ((Four.swing ⟨G, A, C, R⟩ w m : Nat) : Int)] := by
  rw [swing_step, LkDSpec.answer, if_neg]
  · show Neutral.shown (if Four.kind ⟨G, A, C, R⟩ ≠ 3 then LkDSpec.says (-2) else ⟨0, [[((Four.swing ⟨G, A, C, R⟩ w m : Nat) : Int)]]⟩) = _
    split <;> rfl
  · rw [lengths_good h, (fine_swing ..).2 k]
    simp
end My
namespace My
open LkNum LkPlane LkFour LkDSpec
theorem mul0 (p q : Rat) : mul [] [p] [q] = [p * q] := by
  rw [mul]
  rfl
theorem plus1 (p q : Rat) : plus [p] [q] = [p + q] := rfl
theorem plus2 (p q p' q' : Rat) : plus [p, q] [p', q'] = [p + p', q + q'] := rfl
theorem mul1 (s p q p' q' : Rat) : mul [[s]] [p, q] [p', q'] = [p * p' + q * q' * s, p * q' + q * p'] := by
  rw [mul, show lo [p, q] = [p] from by simp [lo, hi], show hi [p, q] = [q] from by simp [lo, hi], show lo [p', q'] = [p'] from by simp [lo, hi], show hi [p', q'] = [q'] from by simp [lo, hi]]
  rw [mul0, mul0, mul0, mul0, mul0, plus1, plus1]
  rfl
theorem mul2 (s1 s2 a0 a1 a2 a3 b0 b1 b2 b3 : Rat) : mul [[s2, 0], [s1]] [a0, a1, a2, a3] [b0, b1, b2, b3] =
    [(a0 * b0 + a1 * b1 * s1) + ((a2 * b2 + a3 * b3 * s1) * s2 + (a2 * b3 + a3 * b2) * 0 * s1), (a0 * b1 + a1 * b0) + ((a2 * b2 + a3 * b3 * s1) * 0 + (a2 * b3 + a3 * b2) * s2),
     (a0 * b2 + a1 * b3 * s1) + (a2 * b0 + a3 * b1 * s1), (a0 * b3 + a1 * b2) + (a2 * b1 + a3 * b0)] := by
  rw [mul, show lo [a0, a1, a2, a3] = [a0, a1] from by simp [lo, hi], show hi [a0, a1, a2, a3] = [a2, a3] from by simp [lo, hi], show lo [b0, b1, b2, b3] = [b0, b1] from by simp [lo, hi], show hi [b0, b1, b2, b3] = [b2, b3] from by simp [lo, hi]]
  rw [mul1, mul1, mul1, mul1, mul1, plus2, plus2]
  rfl
theorem plus4 (a0 a1 a2 a3 b0 b1 b2 b3 : Rat) : plus [a0, a1, a2, a3] [b0, b1, b2, b3] = [a0 + b0, a1 + b1, a2 + b2, a3 + b3] := rfl
theorem minus4 (a0 a1 a2 a3 b0 b1 b2 b3 : Rat) : minus [a0, a1, a2, a3] [b0, b1, b2, b3] = [a0 + -1 * b0, a1 + -1 * b1, a2 + -1 * b2, a3 + -1 * b3] := rfl
theorem times4 (q a0 a1 a2 a3 : Rat) : times q [a0, a1, a2, a3] = [q * a0, q * a1, q * a2, q * a3] := rfl
/-- the tower of the two roots, and its numbers of the two kinds -/
def tw (s1 s2 : Rat) : Tower := [[s2, 0], [s1]]
def ev (a b : Rat) : Num := [a, 0, 0, b]
def od (c d : Rat) : Num := [0, c, d, 0]
theorem sq_ev (s1 s2 a b : Rat) : mul (tw s1 s2) (ev a b) (ev a b) = ev (a * a + b * b * s1 * s2) (2 * a * b) := by
  unfold tw ev
  rw [mul2]
  congr 1
  · grind
  · congr 1
    · grind
    · congr 1
      · grind
      · congr 1
        grind
theorem sq_od (s1 s2 c d : Rat) : mul (tw s1 s2) (od c d) (od c d) = ev (c * c * s1 + d * d * s2) (2 * c * d) := by
  unfold tw ev od
  rw [mul2]
  congr 1
  · grind
  · congr 1
    · grind
    · congr 1
      · grind
      · congr 1
        grind
theorem ev_od (s1 s2 a b c d : Rat) : mul (tw s1 s2) (ev a b) (od c d) = od (a * c + b * d * s2) (a * d + b * c * s1) := by
  unfold tw ev od
  rw [mul2]
  congr 1
  · grind
  · congr 1
    · grind
    · congr 1
      · grind
      · congr 1
        grind
theorem minus_ev (a b a' b' : Rat) : minus (ev a b) (ev a' b') = ev (a - a') (b - b') := by
  unfold ev
  rw [minus4]
  congr 1
  · grind
  · congr 1
    · grind
    · congr 1
      · grind
      · congr 1
        grind
theorem times_od (q c d : Rat) : times q (od c d) = od (q * c) (q * d) := by
  unfold od
  rw [times4]
  congr 1
  · grind
  · congr 1
    congr 1
    congr 1
    grind

theorem sign0 (q : Rat) : sign [] [q] = signOf q := by
  rw [sign]
  rfl
theorem signOf_zero : signOf 0 = 0 := by decide +kernel
theorem signOf_of_pos {q : Rat} (h : 0 < q) : signOf q = 1 := by
  unfold signOf
  rw [if_neg (Rat.not_lt.2 (Rat.le_of_lt h)), if_pos h]
/-- the sign of p + q root of S -/
def sg2 (p q x : Rat) : Int := if signOf q = 0 then signOf p else if signOf p = 0 ∨ signOf p = signOf q then signOf q else signOf p * signOf x
theorem sign1 {s : Rat} (hs : 0 < s) (p q : Rat) : sign [[s]] [p, q] = sg2 p q (p * p - q * q * s) := by
  rw [sign]
  rw [show lo [p, q] = [p] from by simp [lo], show hi [p, q] = [q] from by simp [hi]]
  rw [sign0, sign0, sign0, mul0, mul0, mul0, signOf_of_pos hs]
  rw [show minus [p * p] [q * q * s] = [p * p + -1 * (q * q * s)] from rfl, sign0]
  rw [show p * p + -1 * (q * q * s) = p * p - q * q * s by grind]
  rfl
theorem sign1_left {s : Rat} (hs : 0 < s) (p : Rat) : sign [[s]] [p, 0] = signOf p := by
  rw [sign1 hs, sg2, if_pos signOf_zero]
theorem sign1_right {s : Rat} (hs : 0 < s) (q : Rat) : sign [[s]] [0, q] = signOf q := by
  rw [sign1 hs, sg2]
  by_cases h : signOf q = 0
  · rw [if_pos h, h, signOf_zero]
  · rw [if_neg h, if_pos (Or.inl signOf_zero)]
theorem sign_ev {s1 s2 : Rat} (h1 : 0 < s1) (h2 : 0 < s2) (a b : Rat) : sign (tw s1 s2) (ev a b) = sg2 a b (a * a - b * b * s1 * s2) := by
  unfold tw ev
  rw [sign]
  rw [show lo [a, 0, 0, b] = [a, 0] from by simp [lo], show hi [a, 0, 0, b] = [0, b] from by simp [hi]]
  rw [sign1_left h1, sign1_right h1, sign1_left h1, signOf_of_pos h2, mul1, mul1, mul1]
  have e : minus [a * a + 0 * 0 * s1, a * 0 + 0 * a] [(0 * 0 + b * b * s1) * s2 + (0 * b + b * 0) * 0 * s1, (0 * 0 + b * b * s1) * 0 + (0 * b + b * 0) * s2] = [a * a - b * b * s1 * s2, 0] := by
    show [_ + -1 * _, _ + -1 * _] = _
    congr 1
    · grind
    · congr 1
      grind
  rw [e, sign1_left h1]
  rfl
theorem sign_od {s1 s2 : Rat} (h1 : 0 < s1) (h2 : 0 < s2) (c d : Rat) : sign (tw s1 s2) (od c d) = sg2 c d (c * c * s1 - d * d * s2) := by
  unfold tw od
  rw [sign]
  rw [show lo [0, c, d, 0] = [0, c] from by simp [lo], show hi [0, c, d, 0] = [d, 0] from by simp [hi]]
  rw [sign1_left h1, sign1_right h1, sign1_left h1, signOf_of_pos h2, mul1, mul1, mul1]
  have e : minus [0 * 0 + c * c * s1, 0 * c + c * 0] [(d * d + 0 * 0 * s1) * s2 + (d * 0 + 0 * d) * 0 * s1, (d * d + 0 * 0 * s1) * 0 + (d * 0 + 0 * d) * s2] = [c * c * s1 - d * d * s2, 0] := by
    show [_ + -1 * _, _ + -1 * _] = _
    congr 1
    · grind
    · congr 1
      grind
  rw [e, sign1_left h1]
  rfl
/-- the sign of a whole number -/
def sgz (z : Int) : Int := if z < 0 then -1 else if 0 < z then 1 else 0
theorem signOf_mul {k q : Rat} (h : 0 < k) : signOf (k * q) = signOf q := by
  unfold signOf
  have a : k * q < 0 ↔ q < 0 := Rat.mul_neg_iff_of_pos_left h
  have b : 0 < k * q ↔ 0 < q := Rat.mul_pos_iff_of_pos_left h
  simp only [a, b]
theorem signOf_int (z : Int) : signOf (z : Rat) = sgz z := by
  unfold signOf sgz
  have a : (z : Rat) < 0 ↔ z < 0 := Rat.intCast_neg_iff
  have b : 0 < (z : Rat) ↔ 0 < z := Rat.intCast_pos
  simp only [a, b]
def sgE (s a b : Int) : Int := if sgz b = 0 then sgz a else if sgz a = 0 ∨ sgz a = sgz b then sgz b else sgz a * sgz (a * a - b * b * s)
def sgO (s t c d : Int) : Int := if sgz d = 0 then sgz c else if sgz c = 0 ∨ sgz c = sgz d then sgz d else sgz c * sgz (c * c * s - d * d * t)
/-- half by half, in whole numbers: the direction (a + b root of s t, c root of s + d root of t) -/
def turnZ (s t : Int) : Nat → Int → Int → Int → Int → Nat → Nat
  | 0, _, _, _, _, r => r
  | m + 1, a, b, c, d, r => turnZ s t m (a * a + b * b * s * t - c * c * s - d * d * t) (2 * a * b - 2 * c * d) (2 * (a * c + b * d * t)) (2 * (a * d + b * c * s))
      (2 * r + (if sgO s t c d < 0 ∨ (sgO s t c d = 0 ∧ sgE (s * t) a b < 0) then 1 else 0))
theorem turn_is {s1 s2 : Rat} {S T N M : Int} (h1 : 0 < s1) (h2 : 0 < s2) (hN : 0 < N) (hM : 0 < M) (e1 : s1 * N * N = S) (e2 : s2 * M * M = T) :
    ∀ (m : Nat) (k a b c d : Rat) (A B C D : Int) (r : Nat), 0 < k → a = k * A → b = k * N * M * B → c = k * N * C → d = k * M * D →
      turnOf (tw s1 s2) m ⟨ev a b, od c d⟩ r = turnZ S T m A B C D r
  | 0, _, _, _, _, _, _, _, _, _, r, _, _, _, _, _ => by rw [turnOf, turnZ]
  | m + 1, k, a, b, c, d, A, B, C, D, r, hk, ea, eb, ec, ed => by
    have hN' : (0 : Rat) < N := Rat.intCast_pos.2 hN
    have hM' : (0 : Rat) < M := Rat.intCast_pos.2 hM
    have sa : signOf a = sgz A := by rw [ea, signOf_mul hk, signOf_int]
    have sb : signOf b = sgz B := by rw [eb, signOf_mul (Rat.mul_pos (Rat.mul_pos hk hN') hM'), signOf_int]
    have sc : signOf c = sgz C := by rw [ec, signOf_mul (Rat.mul_pos hk hN'), signOf_int]
    have sd : signOf d = sgz D := by rw [ed, signOf_mul (Rat.mul_pos hk hM'), signOf_int]
    have q1 : a * a - b * b * s1 * s2 = k * k * ((A * A - B * B * (S * T) : Int) : Rat) := by
      simp only [Rat.intCast_sub, Rat.intCast_mul]
      rw [ea, eb, ← e1, ← e2]
      grind
    have q2 : c * c * s1 - d * d * s2 = k * k * ((C * C * S - D * D * T : Int) : Rat) := by
      simp only [Rat.intCast_sub, Rat.intCast_mul]
      rw [ec, ed, ← e1, ← e2]
      grind
    have gE : sign (tw s1 s2) (ev a b) = sgE (S * T) A B := by
      rw [sign_ev h1 h2, sg2, q1, signOf_mul (Rat.mul_pos hk hk), signOf_int, sa, sb]
      rfl
    have gO : sign (tw s1 s2) (od c d) = sgO S T C D := by
      rw [sign_od h1 h2, sg2, q2, signOf_mul (Rat.mul_pos hk hk), signOf_int, sc, sd]
      rfl
    rw [turnOf, turnZ]
    show turnOf (tw s1 s2) m ⟨minus (mul (tw s1 s2) (ev a b) (ev a b)) (mul (tw s1 s2) (od c d) (od c d)), times 2 (mul (tw s1 s2) (ev a b) (od c d))⟩ (2 * r + (if (decide (sign (tw s1 s2) (od c d) < 0) || (decide (sign (tw s1 s2) (od c d) = 0) && decide (sign (tw s1 s2) (ev a b) < 0))) = true then 1 else 0)) = _
    rw [sq_ev, sq_od, ev_od, minus_ev, times_od, gE, gO]
    have er : (if (decide (sgO S T C D < 0) || (decide (sgO S T C D = 0) && decide (sgE (S * T) A B < 0))) = true then 1 else 0) = (if sgO S T C D < 0 ∨ (sgO S T C D = 0 ∧ sgE (S * T) A B < 0) then (1 : Nat) else 0) := by
      simp only [Bool.or_eq_true, Bool.and_eq_true, decide_eq_true_eq]
    rw [er]
    refine turn_is h1 h2 hN hM e1 e2 m (k * k) _ _ _ _ _ _ _ _ _ (Rat.mul_pos hk hk) ?_ ?_ ?_ ?_
    · simp only [Rat.intCast_sub, Rat.intCast_add, Rat.intCast_mul]
      rw [ea, eb, ec, ed, ← e1, ← e2]
      grind
    · simp only [Rat.intCast_sub, Rat.intCast_add, Rat.intCast_mul, Rat.intCast_ofNat]
      rw [ea, eb, ec, ed]
      grind
    · simp only [Rat.intCast_sub, Rat.intCast_add, Rat.intCast_mul, Rat.intCast_ofNat]
      rw [ea, eb, ec, ed, ← e2]
      grind
    · simp only [Rat.intCast_sub, Rat.intCast_add, Rat.intCast_mul, Rat.intCast_ofNat]
      rw [ea, eb, ec, ed, ← e1]
      grind
theorem kind_three {G A C R : Nat} (h : Four.kind ⟨G, A, C, R⟩ = 3) : A < G ∧ A < C ∧ A < R ∧ G + A < C + R ∧ C + A < G + R ∧ R + A < G + C := by
  simp only [Four.kind, Four.sum] at h
  have hl : Four.longest ⟨G, A, C, R⟩ = max (max G A) (max C R) := rfl
  have hs : Four.shortest ⟨G, A, C, R⟩ = min (min G A) (min C R) := rfl
  generalize Four.longest ⟨G, A, C, R⟩ = l at h hl
  generalize Four.shortest ⟨G, A, C, R⟩ = s at h hs
  by_cases c1 : s + (G + A + C + R - l - s) < l
  · rw [if_pos c1] at h
    omega
  rw [if_neg c1] at h
  by_cases c2 : s + (G + A + C + R - l - s) = l
  · rw [if_pos c2] at h
    omega
  rw [if_neg c2] at h
  by_cases c3 : s + l < G + A + C + R - l - s
  · rw [if_pos c3] at h
    by_cases c4 : G = s
    · rw [if_pos c4] at h
      omega
    rw [if_neg c4] at h
    by_cases c5 : A = s
    · omega
    rw [if_neg c5] at h
    by_cases c6 : C = s
    · rw [if_pos c6] at h
      omega
    · rw [if_neg c6] at h
      omega
  · rw [if_neg c3] at h
    by_cases c4 : s + l = G + A + C + R - l - s
    · simp [c4] at h
    · simp [c4] at h
/-- the direction whose cosine is X / N has a sine -/
theorem sine_pos {X N : Int} (h1 : X < N) (h2 : -N < X) (hN : 0 < N) : (0 : Rat) < 1 - Rat.divInt X N * Rat.divInt X N := by
  have e : (1 : Rat) - Rat.divInt X N * Rat.divInt X N = Rat.divInt (N * N - X * X) (N * N) := by
    rw [Rat.divInt_mul_divInt, Rat.divInt_eq_div, Rat.divInt_eq_div]
    simp only [Rat.intCast_sub, Rat.intCast_mul]
    have n0 : (N : Rat) ≠ 0 := by
      intro z
      have := Rat.intCast_eq_zero_iff.1 z
      omega
    grind
  rw [e, zero_div', div_lt_div (by decide) (Int.mul_pos hN hN)]
  have p : 0 < (N - X) * (N + X) := Int.mul_pos (by omega) (by omega)
  have q : (N - X) * (N + X) = N * N - X * X := by grind
  omega
theorem sine_is {X N : Int} (hN : 0 < N) : (1 - Rat.divInt X N * Rat.divInt X N) * (N : Rat) * (N : Rat) = ((N * N - X * X : Int) : Rat) := by
  rw [Rat.divInt_eq_div]
  simp only [Rat.intCast_sub, Rat.intCast_mul]
  have n0 : (N : Rat) ≠ 0 := by
    intro z
    have := Rat.intCast_eq_zero_iff.1 z
    omega
  grind
theorem one_over {N M : Int} (hN : 0 < N) (hM : 0 < M) : (0 : Rat) < Rat.divInt 1 (N * M) := by
  rw [zero_div', div_lt_div (by decide) (Int.mul_pos hN hM)]
  omega
/-- from the second direction to the first: the turn, where 0 < their sines -/
theorem turn_first {X Y N M : Int} (h1 : X < N) (h2 : -N < X) (h3 : Y < M) (h4 : -M < Y) (hN : 0 < N) (hM : 0 < M) (m : Nat) :
    turnOf (tw (1 - Rat.divInt X N * Rat.divInt X N) (1 - Rat.divInt Y M * Rat.divInt Y M)) m ⟨ev (Rat.divInt X N * Rat.divInt Y M) 1, od (Rat.divInt Y M) (-Rat.divInt X N)⟩ 0 =
      turnZ (N * N - X * X) (M * M - Y * Y) m (X * Y) 1 Y (-X) 0 := by
  have n0 : (N : Rat) ≠ 0 := fun z => by have := Rat.intCast_eq_zero_iff.1 z; omega
  have m0 : (M : Rat) ≠ 0 := fun z => by have := Rat.intCast_eq_zero_iff.1 z; omega
  refine turn_is (sine_pos h1 h2 hN) (sine_pos h3 h4 hM) hN hM (sine_is hN) (sine_is hM) m (Rat.divInt 1 (N * M)) _ _ _ _ _ _ _ _ _ (one_over hN hM) ?_ ?_ ?_ ?_
  all_goals simp only [Rat.divInt_eq_div, Rat.intCast_mul, Rat.intCast_neg, Rat.intCast_one]
  all_goals grind
theorem turn_second {X Y N M : Int} (h1 : X < N) (h2 : -N < X) (h3 : Y < M) (h4 : -M < Y) (hN : 0 < N) (hM : 0 < M) (m : Nat) :
    turnOf (tw (1 - Rat.divInt X N * Rat.divInt X N) (1 - Rat.divInt Y M * Rat.divInt Y M)) m ⟨ev (-(Rat.divInt X N * Rat.divInt Y M)) (-1), od (Rat.divInt Y M) (-Rat.divInt X N)⟩ 0 =
      turnZ (N * N - X * X) (M * M - Y * Y) m (-(X * Y)) (-1) Y (-X) 0 := by
  have n0 : (N : Rat) ≠ 0 := fun z => by have := Rat.intCast_eq_zero_iff.1 z; omega
  have m0 : (M : Rat) ≠ 0 := fun z => by have := Rat.intCast_eq_zero_iff.1 z; omega
  refine turn_is (sine_pos h1 h2 hN) (sine_pos h3 h4 hM) hN hM (sine_is hN) (sine_is hM) m (Rat.divInt 1 (N * M)) _ _ _ _ _ _ _ _ _ (one_over hN hM) ?_ ?_ ?_ ?_
  all_goals simp only [Rat.divInt_eq_div, Rat.intCast_mul, Rat.intCast_neg, Rat.intCast_one]
  all_goals grind
theorem raised_one (x : Rat) : raised x [] = ([[1 - x * x]], [0, 1]) := rfl
theorem raised_two (y s : Rat) : raised y [[s]] = ([[1 - y * y, 0], [s]], [0, 0, 1, 0]) := rfl
theorem of_two (x a b : Rat) : ofRat [[a, 0], [b]] x = [x, 0, 0, 0] := rfl
theorem lift_two (a b : Rat) : lift [a, b] = [a, b, 0, 0] := rfl
theorem list4 {a b c d a' b' c' d' : Rat} (h1 : a = a') (h2 : b = b') (h3 : c = c') (h4 : d = d') : [a, b, c, d] = [a', b', c', d'] := by
  rw [h1, h2, h3, h4]
theorem swing_zero (f : Four) (m : Nat) {x y : Rat} (ex : cosine f.g f.r (((f.a + f.c) * (f.a + f.c) : Nat) : Int) = x) (ey : cosine f.g f.r ((gap f.c f.a * gap f.c f.a : Nat) : Int) = y) :
    f.swing 0 m = turnOf (tw (1 - x * x) (1 - y * y)) m ⟨ev (x * y) 1, od y (-x)⟩ 0 := by
  unfold Four.swing
  simp only [if_true, ex, ey, raised_one, raised_two]
  rw [of_two, of_two, lift_two, mul2, mul2, mul2, mul2, plus4, minus4]
  unfold tw ev od
  congr 1
  congr 1
  · apply list4 <;> grind
  · apply list4 <;> grind
theorem swing_one (f : Four) (m : Nat) {x y : Rat} (ex : ((((f.g * f.g + (f.a + f.c) * (f.a + f.c) : Nat) : Int) - ((f.r * f.r : Nat) : Int) : Rat)) / ((2 * f.g * (f.a + f.c) : Nat) : Rat) = x)
    (ey : ((((f.g * f.g : Nat) : Int) + ((gap f.c f.a * gap f.c f.a : Nat) : Int) - ((f.r * f.r : Nat) : Int) : Rat)) / ((2 * f.g * gap f.c f.a : Nat) : Rat) = y) :
    f.swing 1 m = turnOf (tw (1 - x * x) (1 - y * y)) m ⟨ev (-(x * y)) (-1), od y (-x)⟩ 0 := by
  unfold Four.swing
  simp only [show ¬ (1 = 0) by decide, if_false, ex, ey, raised_one, raised_two]
  rw [of_two, of_two, lift_two, times4, times4, mul2, mul2, mul2, mul2, plus4, minus4]
  unfold tw ev od
  congr 1
  congr 1
  · apply list4 <;> grind
  · apply list4 <;> grind
/-- the rocker's way in whole numbers -/
theorem swing_rocker {G A C R : Nat} (m : Nat) (h : Four.kind ⟨G, A, C, R⟩ = 3) {X Y N : Int} (hN : N = 2 * G * R) (hX : X = (G : Int) * G + R * R - (A + C) * (A + C)) (hY : Y = (G : Int) * G + R * R - (C - A) * (C - A)) :
    Four.swing ⟨G, A, C, R⟩ 0 m = turnZ (N * N - X * X) (N * N - Y * Y) m (X * Y) 1 Y (-X) 0 := by
  obtain ⟨k1, k2, k3, k4, k5, k6⟩ := kind_three h
  have gp : (0 : Int) < G := by omega
  have rp : (0 : Int) < R := by omega
  have np : 0 < N := by
    rw [hN]
    exact Int.mul_pos (by omega) rp
  have p1 : 0 < ((A : Int) + C - G + R) * ((A : Int) + C + G - R) := Int.mul_pos (by omega) (by omega)
  have p2 : 0 < ((G : Int) + R - A - C) * ((G : Int) + R + A + C) := Int.mul_pos (by omega) (by omega)
  have p3 : 0 < ((C : Int) - A - G + R) * ((C : Int) - A + G - R) := Int.mul_pos (by omega) (by omega)
  have p4 : 0 < ((G : Int) + R - C + A) * ((G : Int) + R + C - A) := Int.mul_pos (by omega) (by omega)
  have x1 : X < N := by grind
  have x2 : -N < X := by grind
  have y1 : Y < N := by grind
  have y2 : -N < Y := by grind
  have gi : ((gap C A : Nat) : Int) = (C : Int) - A := by
    rw [gap_is]
    omega
  rw [swing_zero ⟨G, A, C, R⟩ m (x := Rat.divInt X N) (y := Rat.divInt Y N), turn_first x1 x2 y1 y2 np np]
  · show cosine G R (((A + C) * (A + C) : Nat) : Int) = _
    rw [cosine_div, hX, hN, Int.natCast_mul, Int.natCast_add]
  · show cosine G R ((gap C A * gap C A : Nat) : Int) = _
    rw [cosine_div, hY, hN, Int.natCast_mul, gi]
/-- the crank's way in whole numbers -/
theorem swing_crank {G A C R : Nat} (m : Nat) (h : Four.kind ⟨G, A, C, R⟩ = 3) {X Y N M : Int} (hN : N = 2 * G * (A + C)) (hM : M = 2 * G * (C - A)) (hX : X = (G : Int) * G + (A + C) * (A + C) - R * R) (hY : Y = (G : Int) * G + (C - A) * (C - A) - R * R) :
    Four.swing ⟨G, A, C, R⟩ 1 m = turnZ (N * N - X * X) (M * M - Y * Y) m (-(X * Y)) (-1) Y (-X) 0 := by
  obtain ⟨k1, k2, k3, k4, k5, k6⟩ := kind_three h
  have gp : (0 : Int) < G := by omega
  have np : 0 < N := by
    rw [hN]
    exact Int.mul_pos (by omega) (by omega)
  have mp : 0 < M := by
    rw [hM]
    exact Int.mul_pos (by omega) (by omega)
  have p1 : 0 < ((R : Int) - G + A + C) * ((R : Int) + G - A - C) := Int.mul_pos (by omega) (by omega)
  have p2 : 0 < ((G : Int) + A + C - R) * ((G : Int) + A + C + R) := Int.mul_pos (by omega) (by omega)
  have p3 : 0 < ((R : Int) - G + C - A) * ((R : Int) + G - C + A) := Int.mul_pos (by omega) (by omega)
  have p4 : 0 < ((G : Int) + C - A - R) * ((G : Int) + C - A + R) := Int.mul_pos (by omega) (by omega)
  have x1 : X < N := by grind
  have x2 : -N < X := by grind
  have y1 : Y < M := by grind
  have y2 : -M < Y := by grind
  have gi : ((gap C A : Nat) : Int) = (C : Int) - A := by
    rw [gap_is]
    omega
  rw [swing_one ⟨G, A, C, R⟩ m (x := Rat.divInt X N) (y := Rat.divInt Y M), turn_second x1 x2 y1 y2 np mp]
  · rw [hX, hN, Rat.divInt_eq_div]
    simp only [Rat.intCast_sub, Rat.intCast_add, Rat.intCast_mul, Rat.intCast_natCast, Rat.natCast_add, Rat.natCast_mul, Int.natCast_add, Int.natCast_mul, Rat.intCast_ofNat]
    rfl
  · rw [hY, hM, Rat.divInt_eq_div, ← gi]
    simp only [Rat.intCast_sub, Rat.intCast_add, Rat.intCast_mul, Rat.intCast_natCast, Rat.natCast_add, Rat.natCast_mul, Int.natCast_add, Int.natCast_mul, Rat.intCast_ofNat]
    rfl
end My
namespace My
open LkNum LkPlane LkFour LkDSpec
theorem sgz_pos {z : Int} (h : 0 < z) : sgz z = 1 := by
  unfold sgz
  rw [if_neg (by omega), if_pos h]
theorem sgz_neg {z : Int} (h : z < 0) : sgz z = -1 := by
  unfold sgz
  rw [if_pos h]
theorem sgz_zero : sgz 0 = 0 := by decide
theorem sgz_cases (z : Int) : (z < 0 ∧ sgz z = -1) ∨ (z = 0 ∧ sgz z = 0) ∨ (0 < z ∧ sgz z = 1) := by
  rcases Int.lt_trichotomy z 0 with h | h | h
  · exact Or.inl ⟨h, sgz_neg h⟩
  · subst h
    exact Or.inr (Or.inl ⟨rfl, sgz_zero⟩)
  · exact Or.inr (Or.inr ⟨h, sgz_pos h⟩)
theorem sgz_minus (z : Int) : sgz (-z) = -sgz z := by
  rcases sgz_cases z with ⟨h, e⟩ | ⟨h, e⟩ | ⟨h, e⟩
  · rw [e, sgz_pos (by omega)]
    rfl
  · subst h
    rfl
  · rw [e, sgz_neg (by omega)]
theorem sgz_times (x y : Int) : sgz (x * y) = sgz x * sgz y := by
  rcases sgz_cases x with ⟨h, e⟩ | ⟨h, e⟩ | ⟨h, e⟩ <;> rcases sgz_cases y with ⟨k, d⟩ | ⟨k, d⟩ | ⟨k, d⟩
  · rw [e, d, sgz_pos (Int.mul_pos_of_neg_of_neg h k)]
    rfl
  · rw [e, d, k, Int.mul_zero, sgz_zero]
    rfl
  · rw [e, d, sgz_neg (Int.mul_neg_of_neg_of_pos h k)]
    rfl
  · rw [e, h, Int.zero_mul, sgz_zero, Int.zero_mul]
  · rw [e, h, Int.zero_mul, sgz_zero, Int.zero_mul]
  · rw [e, h, Int.zero_mul, sgz_zero, Int.zero_mul]
  · rw [e, d, sgz_neg (Int.mul_neg_of_pos_of_neg h k)]
    rfl
  · rw [e, d, k, Int.mul_zero, sgz_zero]
    rfl
  · rw [e, d, sgz_pos (Int.mul_pos h k)]
    rfl
theorem sgO_minus (s t c d : Int) : sgO s t (-c) (-d) = -sgO s t c d := by
  unfold sgO
  rw [sgz_minus, sgz_minus, Int.neg_mul_neg, Int.neg_mul_neg]
  rcases sgz_cases c with ⟨_, e⟩ | ⟨_, e⟩ | ⟨_, e⟩ <;> rcases sgz_cases d with ⟨_, k⟩ | ⟨_, k⟩ | ⟨_, k⟩ <;> rw [e, k] <;> simp
/-- an angle below half a turn: its cosine is x / w, its sine g / w times the root of s -/
def Ang (s x w g : Int) : Prop := 0 < w ∧ -w < x ∧ 0 ≤ g ∧ g * g * s = w * w - x * x
theorem Ang.top {s x w g : Int} (hs : 0 < s) (h : Ang s x w g) : x ≤ w ∧ (g = 0 → x = w) ∧ (0 < g → x < w) := by
  obtain ⟨h1, h2, h3, h4⟩ := h
  have e : (w - x) * (w + x) = g * g * s := by grind
  have p : 0 < w + x := by omega
  refine ⟨?_, fun z => ?_, fun z => ?_⟩
  · by_cases c : w - x < 0
    · have := Int.mul_neg_of_neg_of_pos c p
      have q : 0 ≤ g * g * s := Int.mul_nonneg (Int.mul_nonneg h3 h3) (by omega)
      omega
    · omega
  · subst z
    have q : (w - x) * (w + x) = 0 := by rw [e]; grind
    rcases Int.mul_eq_zero.1 q with q | q <;> omega
  · have q : 0 < (w - x) * (w + x) := by
      rw [e]
      exact Int.mul_pos (Int.mul_pos z z) hs
    by_cases c : 0 < w - x
    · omega
    · by_cases d : w - x = 0
      · rw [d, Int.zero_mul] at q
        omega
      · have := Int.mul_neg_of_neg_of_pos (show w - x < 0 by omega) p
        omega
/-- the sign of the difference's sine -/
theorem sine_sign {S T xp wp gp xq wq gq : Int} (hS : 0 < S) (hT : 0 < T) (P : Ang S xp wp gp) (Q : Ang T xq wq gq) : sgO S T (gp * xq) (-(xp * gq)) = sgz (xq * wp - xp * wq) := by
  obtain ⟨p1, p2, p3⟩ := P.top hS
  obtain ⟨q1, q2, q3⟩ := Q.top hT
  obtain ⟨P1, P2, P3, P4⟩ := P
  obtain ⟨Q1, Q2, Q3, Q4⟩ := Q
  have e : gp * xq * (gp * xq) * S - -(xp * gq) * -(xp * gq) * T = (xq * wp - xp * wq) * (xq * wp + xp * wq) := by grind
  unfold sgO
  rw [e, sgz_minus, sgz_times, sgz_times, sgz_times]
  rcases sgz_cases gp with ⟨g1, g2⟩ | ⟨g1, g2⟩ | ⟨g1, g2⟩
  · omega
  · -- the first angle is nought
    have ep := p2 g1
    subst ep
    have sp := sgz_pos P1
    have d : xq * xp - xp * wq = xp * (xq - wq) := by grind
    rw [g2, sp, d, sgz_times, sp]
    rcases sgz_cases gq with ⟨k1, k2⟩ | ⟨k1, k2⟩ | ⟨k1, k2⟩
    · omega
    · have eq := q2 k1
      subst eq
      rw [k2, Int.sub_self, sgz_zero]
      simp
    · have := q3 k1
      rw [k2, sgz_neg (show xq - wq < 0 by omega)]
      simp
  · rcases sgz_cases gq with ⟨k1, k2⟩ | ⟨k1, k2⟩ | ⟨k1, k2⟩
    · omega
    · have eq := q2 k1
      subst eq
      have sq := sgz_pos Q1
      have d : xq * wp - xp * xq = xq * (wp - xp) := by grind
      have := p3 g1
      rw [g2, k2, sq, d, sgz_times, sq, sgz_pos (show 0 < wp - xp by omega)]
      simp
    · rw [g2, k2]
      rcases sgz_cases xp with ⟨x1, x2⟩ | ⟨x1, x2⟩ | ⟨x1, x2⟩ <;> rcases sgz_cases xq with ⟨y1, y2⟩ | ⟨y1, y2⟩ | ⟨y1, y2⟩ <;> rw [x2, y2]
      · have a := Int.mul_neg_of_neg_of_pos y1 P1
        have b := Int.mul_neg_of_neg_of_pos x1 Q1
        rw [sgz_neg (show xq * wp + xp * wq < 0 by omega)]
        simp
      · have b := Int.mul_neg_of_neg_of_pos x1 Q1
        rw [y1, Int.zero_mul, sgz_pos (show 0 < 0 - xp * wq by omega)]
        simp
      · have a := Int.mul_pos y1 P1
        have b := Int.mul_neg_of_neg_of_pos x1 Q1
        rw [sgz_pos (show 0 < xq * wp - xp * wq by omega)]
        simp
      · have a := Int.mul_neg_of_neg_of_pos y1 P1
        rw [x1, Int.zero_mul wq, sgz_neg (show xq * wp - 0 < 0 by omega)]
        simp
      · rw [x1, y1]
        simp [sgz_zero]
      · have a := Int.mul_pos y1 P1
        rw [x1, Int.zero_mul wq, sgz_pos (show 0 < xq * wp - 0 by omega)]
        simp
      · have a := Int.mul_neg_of_neg_of_pos y1 P1
        have b := Int.mul_pos x1 Q1
        rw [sgz_neg (show xq * wp - xp * wq < 0 by omega)]
        simp
      · have b := Int.mul_pos x1 Q1
        rw [y1, Int.zero_mul, sgz_neg (show 0 - xp * wq < 0 by omega)]
        simp
      · have a := Int.mul_pos y1 P1
        have b := Int.mul_pos x1 Q1
        rw [sgz_pos (show 0 < xq * wp + xp * wq by omega)]
        simp
theorem sgE_up {s a b : Int} (ha : 0 ≤ a) (hb : 0 ≤ b) (h : 0 < a ∨ 0 < b) : sgE s a b = 1 := by
  unfold sgE
  by_cases c : b = 0
  · subst c
    rw [sgz_zero, if_pos rfl, sgz_pos (by omega)]
  · rw [sgz_pos (show 0 < b by omega), if_neg (by decide), if_pos]
    by_cases d : a = 0
    · subst d
      exact Or.inl sgz_zero
    · exact Or.inr (sgz_pos (by omega))
theorem sgE_down {s a b : Int} (ha : 0 ≤ a) (hb : 0 ≤ b) (h : 0 < a ∨ 0 < b) : sgE s (-a) (-b) = -1 := by
  unfold sgE
  by_cases c : b = 0
  · subst c
    rw [show (-0 : Int) = 0 from rfl, sgz_zero, if_pos rfl, sgz_neg (by omega)]
  · rw [sgz_neg (show -b < 0 by omega), if_neg (by decide), if_pos]
    by_cases d : a = 0
    · subst d
      exact Or.inl sgz_zero
    · exact Or.inr (sgz_neg (by omega))
/-- two equal angles: their difference's cosine is above 0 -/
theorem same_up {S T xp wp gp xq wq gq : Int} (hS : 0 < S) (hT : 0 < T) (P : Ang S xp wp gp) (Q : Ang T xq wq gq) (h : xp * wq = xq * wp) : 0 ≤ xp * xq ∧ 0 ≤ gp * gq ∧ (0 < xp * xq ∨ 0 < gp * gq) := by
  obtain ⟨p1, p2, p3⟩ := P.top hS
  obtain ⟨q1, q2, q3⟩ := Q.top hT
  obtain ⟨P1, P2, P3, P4⟩ := P
  obtain ⟨Q1, Q2, Q3, Q4⟩ := Q
  refine ⟨?_, Int.mul_nonneg P3 Q3, ?_⟩
  · rcases Int.lt_trichotomy xp 0 with a | a | a
    · rcases Int.lt_trichotomy xq 0 with b | b | b
      · exact Int.le_of_lt (Int.mul_pos_of_neg_of_neg a b)
      · rw [b, Int.mul_zero]
        exact Int.le_refl 0
      · have := Int.mul_neg_of_neg_of_pos a Q1
        have := Int.mul_pos b P1
        omega
    · rw [a, Int.zero_mul]
      exact Int.le_refl 0
    · rcases Int.lt_trichotomy xq 0 with b | b | b
      · have := Int.mul_pos a Q1
        have := Int.mul_neg_of_neg_of_pos b P1
        omega
      · rw [b, Int.mul_zero]
        exact Int.le_refl 0
      · exact Int.le_of_lt (Int.mul_pos a b)
  · by_cases a : xp = 0
    · have b : xq = 0 := by
        rw [a, Int.zero_mul] at h
        rcases Int.mul_eq_zero.1 h.symm with q | q <;> omega
      refine Or.inr (Int.mul_pos ?_ ?_)
      · by_cases c : gp = 0
        · have := p2 c
          omega
        · omega
      · by_cases c : gq = 0
        · have := q2 c
          omega
        · omega
    · by_cases b : xq = 0
      · rw [b, Int.zero_mul] at h
        rcases Int.mul_eq_zero.1 h with q | q <;> omega
      · left
        rcases Int.lt_or_gt_of_ne a with a | a <;> rcases Int.lt_or_gt_of_ne b with b | b
        · exact Int.mul_pos_of_neg_of_neg a b
        · have := Int.mul_neg_of_neg_of_pos a Q1
          have := Int.mul_pos b P1
          omega
        · have := Int.mul_pos a Q1
          have := Int.mul_neg_of_neg_of_pos b P1
          omega
        · exact Int.mul_pos a b
/-- the half that the direction lies in -/
theorem half_is {S T xp wp gp xq wq gq e k : Int} (hS : 0 < S) (hT : 0 < T) (P : Ang S xp wp gp) (Q : Ang T xq wq gq) (he : e = 1 ∨ e = -1) (hk : k = 1 ∨ k = -1) :
    (sgO S T (k * e * (gp * xq)) (-(k * e * (xp * gq))) < 0 ∨ (sgO S T (k * e * (gp * xq)) (-(k * e * (xp * gq))) = 0 ∧ sgE (S * T) (e * (xp * xq)) (e * (gp * gq)) < 0)) ↔
      (k * e = 1 ∧ xq * wp < xp * wq) ∨ (k * e = -1 ∧ xp * wq < xq * wp) ∨ (xp * wq = xq * wp ∧ e = -1) := by
  have m := sine_sign hS hT P Q
  have o : sgO S T (k * e * (gp * xq)) (-(k * e * (xp * gq))) = k * e * sgz (xq * wp - xp * wq) := by
    have f : k * e = 1 ∨ k * e = -1 := by rcases he with rfl | rfl <;> rcases hk with rfl | rfl <;> decide
    rcases f with f | f
    · rw [f, Int.one_mul, Int.one_mul, Int.one_mul, m]
    · rw [f, show (-1 : Int) * (gp * xq) = -(gp * xq) by omega, show -((-1 : Int) * (xp * gq)) = - -(xp * gq) by omega, sgO_minus, m]
      omega
  rw [o]
  have E : xp * wq = xq * wp → sgE (S * T) (e * (xp * xq)) (e * (gp * gq)) = e := by
    intro h
    obtain ⟨h1, h2, h3⟩ := same_up hS hT P Q h
    rcases he with rfl | rfl
    · rw [Int.one_mul, Int.one_mul, sgE_up h1 h2 h3]
    · rw [show (-1 : Int) * (xp * xq) = -(xp * xq) by omega, show (-1 : Int) * (gp * gq) = -(gp * gq) by omega, sgE_down h1 h2 h3]
  generalize sgE (S * T) (e * (xp * xq)) (e * (gp * gq)) = E' at E ⊢
  rcases sgz_cases (xq * wp - xp * wq) with ⟨h, z⟩ | ⟨h, z⟩ | ⟨h, z⟩ <;> rw [z] <;> rcases he with rfl | rfl <;> rcases hk with rfl | rfl <;> simp <;> omega
/-- an angle doubled so many times: its half turns, the cosine of what is left -/
def dbl : Nat → Int → Int → Int → Int × Int × Int
  | 0, n, x, w => (n, x, w)
  | k + 1, n, x, w => dbl k (if x ≤ 0 then 2 * n + 1 else 2 * n) (if x ≤ 0 then -(2 * (x * x) - w * w) else 2 * (x * x) - w * w) (w * w)
/-- the sign with which the next angle comes -/
def eta (x : Int) : Int := if x ≤ 0 then -1 else 1
theorem eta_sq (x : Int) : eta x * eta x = 1 := by
  unfold eta
  split <;> rfl
theorem eta_or (x : Int) : eta x = 1 ∨ eta x = -1 := by
  unfold eta
  split
  · exact Or.inr rfl
  · exact Or.inl rfl
theorem eta_next (x w : Int) : (if x ≤ 0 then -(2 * (x * x) - w * w) else 2 * (x * x) - w * w) = eta x * (2 * (x * x) - w * w) := by
  unfold eta
  split
  · omega
  · omega
theorem Ang.next {s x w g : Int} (h : Ang s x w g) : Ang s (eta x * (2 * (x * x) - w * w)) (w * w) (2 * (g * (eta x * x))) := by
  obtain ⟨h1, h2, h3, h4⟩ := h
  have ww := Int.mul_pos h1 h1
  refine ⟨ww, ?_, ?_, ?_⟩
  · unfold eta
    split
    · have p : 0 < (w + x) * (w - x) := Int.mul_pos (by omega) (by omega)
      have q : (w + x) * (w - x) = w * w - x * x := by grind
      omega
    · have p : 0 < x * x := Int.mul_pos (by omega) (by omega)
      omega
  · unfold eta
    split
    · have := Int.mul_nonneg h3 (show 0 ≤ -1 * x by omega)
      omega
    · have := Int.mul_nonneg h3 (show 0 ≤ 1 * x by omega)
      omega
  · have := eta_sq x
    generalize eta x = e at *
    grind
/-- which of two angles is the less, doubled in the same quarter -/
theorem less_next {xp wp xq wq : Int} (hp : 0 < wp) (hq : 0 < wq) (h : xp ≤ 0 ↔ xq ≤ 0) :
    (eta xq * (2 * (xq * xq) - wq * wq)) * (wp * wp) < (eta xp * (2 * (xp * xp) - wp * wp)) * (wq * wq) ↔ xq * wp < xp * wq := by
  have e : (xp * wq) * (xp * wq) - (xq * wp) * (xq * wp) = (xp * wq - xq * wp) * (xp * wq + xq * wp) := by grind
  by_cases c : xp ≤ 0
  · have d := h.1 c
    have ep : eta xp = -1 := if_pos c
    have eq : eta xq = -1 := if_pos d
    rw [ep, eq]
    have i1 : (-1 * (2 * (xq * xq) - wq * wq)) * (wp * wp) < (-1 * (2 * (xp * xp) - wp * wp)) * (wq * wq) ↔ (xp * wq) * (xp * wq) - (xq * wp) * (xq * wp) < 0 := by
      have a1 : (-1 * (2 * (xq * xq) - wq * wq)) * (wp * wp) = -2 * ((xq * wp) * (xq * wp)) + wq * wq * (wp * wp) := by grind
      have a2 : (-1 * (2 * (xp * xp) - wp * wp)) * (wq * wq) = -2 * ((xp * wq) * (xp * wq)) + wq * wq * (wp * wp) := by grind
      rw [a1, a2]
      omega
    rw [i1, e]
    have u : xp * wq ≤ 0 := by
      have := Int.mul_nonneg (show 0 ≤ -xp by omega) (Int.le_of_lt hq)
      rw [Int.neg_mul] at this
      omega
    have v : xq * wp ≤ 0 := by
      have := Int.mul_nonneg (show 0 ≤ -xq by omega) (Int.le_of_lt hp)
      rw [Int.neg_mul] at this
      omega
    generalize xp * wq = U at *
    generalize xq * wp = V at *
    constructor
    · intro z
      by_cases k : V < U
      · exact k
      · have := Int.mul_nonneg (show 0 ≤ -(U - V) by omega) (show 0 ≤ -(U + V) by omega)
        rw [Int.neg_mul_neg] at this
        omega
    · intro z
      exact Int.mul_neg_of_pos_of_neg (by omega) (by omega)
  · have d : ¬ xq ≤ 0 := fun q => c (h.2 q)
    have ep : eta xp = 1 := if_neg c
    have eq : eta xq = 1 := if_neg d
    rw [ep, eq]
    have i1 : (1 * (2 * (xq * xq) - wq * wq)) * (wp * wp) < (1 * (2 * (xp * xp) - wp * wp)) * (wq * wq) ↔ 0 < (xp * wq) * (xp * wq) - (xq * wp) * (xq * wp) := by
      have a1 : (1 * (2 * (xq * xq) - wq * wq)) * (wp * wp) = 2 * ((xq * wp) * (xq * wp)) - wq * wq * (wp * wp) := by grind
      have a2 : (1 * (2 * (xp * xp) - wp * wp)) * (wq * wq) = 2 * ((xp * wq) * (xp * wq)) - wq * wq * (wp * wp) := by grind
      rw [a1, a2]
      omega
    rw [i1, e]
    have u : 0 < xp * wq := Int.mul_pos (by omega) hq
    have v : 0 < xq * wp := Int.mul_pos (by omega) hp
    generalize xp * wq = U at *
    generalize xq * wp = V at *
    constructor
    · intro z
      by_cases k : V < U
      · exact k
      · have := Int.mul_nonneg (show 0 ≤ -(U - V) by omega) (show 0 ≤ (U + V) by omega)
        rw [Int.neg_mul] at this
        omega
    · intro z
      exact Int.mul_pos (by omega) (by omega)
/-- of two angles the lesser one, 1 or 0: the last one is less than the first -/
def lessN (k xp wp xq wq : Int) : Int := if (k = 1 ∧ xq * wp < xp * wq) ∨ (k ≠ 1 ∧ xp * wq < xq * wp) then 1 else 0
/-- the turn from the first angle to the last, each doubled by itself -/
theorem turn_told {S T k : Int} (hS : 0 < S) (hT : 0 < T) (hk : k = 1 ∨ k = -1) : ∀ (m : Nat) (e np xp wp gp nq xq wq gq a b c d : Int) (r : Nat), (e = 1 ∨ e = -1) → Ang S xp wp gp → Ang T xq wq gq →
    a = e * (xp * xq) → b = e * (gp * gq) → c = k * e * (gp * xq) → d = -(k * e * (xp * gq)) →
    2 * (r : Int) + (if (k * e = 1 ∧ xq * wp < xp * wq) ∨ (k * e = -1 ∧ xp * wq < xq * wp) ∨ (xp * wq = xq * wp ∧ e = -1) then 1 else 0) = k * (np - nq) - lessN k xp wp xq wq →
    ((turnZ S T (m + 1) a b c d r : Nat) : Int) = k * ((dbl m np xp wp).1 - (dbl m nq xq wq).1) - lessN k (dbl m np xp wp).2.1 (dbl m np xp wp).2.2 (dbl m nq xq wq).2.1 (dbl m nq xq wq).2.2
  | 0, e, np, xp, wp, gp, nq, xq, wq, gq, a, b, c, d, r, he, P, Q, ea, eb, ec, ed, h => by
    subst ea eb ec ed
    rw [turnZ, turnZ]
    simp only [half_is hS hT P Q he hk]
    rw [dbl, dbl]
    show _ = k * (np - nq) - lessN k xp wp xq wq
    rw [← h]
    split <;> simp
  | m + 1, e, np, xp, wp, gp, nq, xq, wq, gq, a, b, c, d, r, he, P, Q, ea, eb, ec, ed, h => by
    subst ea eb ec ed
    rw [turnZ]
    simp only [half_is hS hT P Q he hk]
    rw [dbl, dbl]
    rw [eta_next, eta_next]
    have ee : e * e = 1 := by rcases he with rfl | rfl <;> rfl
    have kk : k * k = 1 := by rcases hk with rfl | rfl <;> rfl
    have P4 := P.2.2.2
    have Q4 := Q.2.2.2
    have p2 := eta_sq xp
    have q2 := eta_sq xq
    have e' : eta xp * eta xq = 1 ∨ eta xp * eta xq = -1 := by
      rcases eta_or xp with u | u <;> rcases eta_or xq with v | v <;> rw [u, v] <;> decide
    refine turn_told hS hT hk m (eta xp * eta xq) _ _ _ _ _ _ _ _ _ _ _ _ _ e' P.next Q.next ?_ ?_ ?_ ?_ ?_
    · generalize eta xp = y at *
      generalize eta xq = z at *
      have l : e * (xp * xq) * (e * (xp * xq)) + e * (gp * gq) * (e * (gp * gq)) * S * T - k * e * (gp * xq) * (k * e * (gp * xq)) * S - -(k * e * (xp * gq)) * -(k * e * (xp * gq)) * T = (xp * xp - gp * gp * S) * (xq * xq - gq * gq * T) := by grind
      rw [l, P4, Q4]
      grind
    · generalize eta xp = y at *
      generalize eta xq = z at *
      grind
    · generalize eta xp = y at *
      generalize eta xq = z at *
      have l : 2 * (e * (xp * xq) * (k * e * (gp * xq)) + e * (gp * gq) * -(k * e * (xp * gq)) * T) = 2 * k * (gp * xp) * (xq * xq - gq * gq * T) := by grind
      rw [l, Q4]
      grind
    · generalize eta xp = y at *
      generalize eta xq = z at *
      have l : 2 * (e * (xp * xq) * -(k * e * (xp * gq)) + e * (gp * gq) * (k * e * (gp * xq)) * S) = -(2 * k * (gq * xq) * (xp * xp - gp * gp * S)) := by grind
      rw [l, P4]
      grind
    · have hp := P.1
      have hq := Q.1
      have n : ((2 * r + (if (k * e = 1 ∧ xq * wp < xp * wq) ∨ (k * e = -1 ∧ xp * wq < xq * wp) ∨ (xp * wq = xq * wp ∧ e = -1) then 1 else 0) : Nat) : Int) = k * (np - nq) - lessN k xp wp xq wq := by
        rw [← h]
        split <;> simp
      rw [n]
      have l1 := less_next (xp := xp) (xq := xq) hp hq
      have l2 := less_next (xp := xq) (xq := xp) hq hp
      have s1 : xp ≤ 0 → ¬ xq ≤ 0 → xp * wq < xq * wp := fun u v => by
        have a := Int.mul_pos (show 0 < xq by omega) hp
        have b := Int.mul_nonneg (show 0 ≤ -xp by omega) (Int.le_of_lt hq)
        rw [Int.neg_mul] at b
        omega
      have s2 : xq ≤ 0 → ¬ xp ≤ 0 → xq * wp < xp * wq := fun u v => by
        have a := Int.mul_pos (show 0 < xp by omega) hq
        have b := Int.mul_nonneg (show 0 ≤ -xq by omega) (Int.le_of_lt hp)
        rw [Int.neg_mul] at b
        omega
      unfold lessN
      by_cases u : xp ≤ 0 <;> by_cases v : xq ≤ 0
      · have l1 := l1 ⟨fun _ => v, fun _ => u⟩
        have l2 := l2 ⟨fun _ => u, fun _ => v⟩
        rw [if_pos u, if_pos v]
        have eu : eta xp = -1 := if_pos u
        have ev : eta xq = -1 := if_pos v
        rw [eu, ev] at l1 l2 ⊢
        generalize -1 * (2 * (xp * xp) - wp * wp) * (wq * wq) = U' at *
        generalize -1 * (2 * (xq * xq) - wq * wq) * (wp * wp) = V' at *
        generalize xp * wq = U at *
        generalize xq * wp = V at *
        rcases hk with rfl | rfl <;> simp <;> omega
      · have s := s1 u v
        rw [if_pos u, if_neg v]
        have eu : eta xp = -1 := if_pos u
        have ev : eta xq = 1 := if_neg v
        rw [eu, ev]
        generalize -1 * (2 * (xp * xp) - wp * wp) * (wq * wq) = U' at *
        generalize 1 * (2 * (xq * xq) - wq * wq) * (wp * wp) = V' at *
        generalize xp * wq = U at *
        generalize xq * wp = V at *
        rcases hk with rfl | rfl <;> simp <;> omega
      · have s := s2 v u
        rw [if_neg u, if_pos v]
        have eu : eta xp = 1 := if_neg u
        have ev : eta xq = -1 := if_pos v
        rw [eu, ev]
        generalize 1 * (2 * (xp * xp) - wp * wp) * (wq * wq) = U' at *
        generalize -1 * (2 * (xq * xq) - wq * wq) * (wp * wp) = V' at *
        generalize xp * wq = U at *
        generalize xq * wp = V at *
        rcases hk with rfl | rfl <;> simp <;> omega
      · have l1 := l1 ⟨fun z => absurd z u, fun z => absurd z v⟩
        have l2 := l2 ⟨fun z => absurd z v, fun z => absurd z u⟩
        rw [if_neg u, if_neg v]
        have eu : eta xp = 1 := if_neg u
        have ev : eta xq = 1 := if_neg v
        rw [eu, ev] at l1 l2 ⊢
        generalize 1 * (2 * (xp * xp) - wp * wp) * (wq * wq) = U' at *
        generalize 1 * (2 * (xq * xq) - wq * wq) * (wp * wp) = V' at *
        generalize xp * wq = U at *
        generalize xq * wp = V at *
        rcases hk with rfl | rfl <;> simp <;> omega
end My
namespace My
open LkNum LkPlane LkFour LkDSpec
/-- so many half turns lead from the first angle to the last -/
def betw (u v : Int × Int × Int) : Int := if u.2.1 * v.2.2 < v.2.1 * u.2.2 then v.1 - u.1 - 1 else v.1 - u.1
theorem low_terms {X N : Int} (hN : 0 < N) (h1 : X < N) (h2 : -N < X) {x : Rat} (e : x = Rat.divInt X N) :
    x = Rat.divInt x.num x.den ∧ (0 : Int) < x.den ∧ x.num < x.den ∧ -(x.den : Int) < x.num ∧ (x.den : Int) ≤ N := by
  have d0 : (0 : Int) < x.den := Int.natCast_pos.2 x.den_pos
  have s : Rat.divInt x.num x.den = x := Rat.num_divInt_den x
  refine ⟨s.symm, d0, ?_, ?_, ?_⟩
  · have p : Rat.divInt x.num x.den < Rat.divInt 1 1 := by
      rw [s, e, div_lt_div hN (by decide)]
      omega
    rw [div_lt_div d0 (by decide)] at p
    omega
  · have p : Rat.divInt (-1) 1 < Rat.divInt x.num x.den := by
      rw [s, e, div_lt_div (by decide) hN]
      omega
    rw [div_lt_div (by decide) d0] at p
    omega
  · have t := two_by (n := X) (d := N) hN rfl
    rw [← e] at t
    have q : (x.den : Int) = N / (Int.gcd X N : Int) := by
      have := List.cons.inj (List.cons.inj t).2
      exact this.1
    rw [q]
    exact Int.ediv_le_self _ (by omega)
/-- what swing asks of the fractions -/
theorem three_facts {G A C R : Nat} (h : Four.kind ⟨G, A, C, R⟩ = 3) (hg : 1 ≤ A) : (0 : Int) < G ∧ (0 : Int) < R ∧ (0 : Int) < (C : Int) - A ∧
    (-(2 * (G : Int) * R) < (G : Int) * G + R * R - (C + A) * (C + A) ∧ (G : Int) * G + R * R - (C + A) * (C + A) < 2 * G * R) ∧
    (-(2 * (G : Int) * R) < (G : Int) * G + R * R - (C - A) * (C - A) ∧ (G : Int) * G + R * R - (C - A) * (C - A) < 2 * G * R) ∧
    (-(2 * (G : Int) * (C + A)) < (G : Int) * G + (C + A) * (C + A) - R * R ∧ (G : Int) * G + (C + A) * (C + A) - R * R < 2 * G * (C + A)) ∧
    (-(2 * (G : Int) * (C - A)) < (G : Int) * G + (C - A) * (C - A) - R * R ∧ (G : Int) * G + (C - A) * (C - A) - R * R < 2 * G * (C - A)) := by
  obtain ⟨k1, k2, k3, k4, k5, k6⟩ := kind_three h
  have p1 : 0 < ((A : Int) + C - G + R) * ((A : Int) + C + G - R) := Int.mul_pos (by omega) (by omega)
  have p2 : 0 < ((G : Int) + R - A - C) * ((G : Int) + R + A + C) := Int.mul_pos (by omega) (by omega)
  have p3 : 0 < ((C : Int) - A - G + R) * ((C : Int) - A + G - R) := Int.mul_pos (by omega) (by omega)
  have p4 : 0 < ((G : Int) + R - C + A) * ((G : Int) + R + C - A) := Int.mul_pos (by omega) (by omega)
  have p5 : 0 < ((R : Int) - G + A + C) * ((R : Int) + G - A - C) := Int.mul_pos (by omega) (by omega)
  have p6 : 0 < ((G : Int) + A + C - R) * ((G : Int) + A + C + R) := Int.mul_pos (by omega) (by omega)
  have p7 : 0 < ((R : Int) - G + C - A) * ((R : Int) + G - C + A) := Int.mul_pos (by omega) (by omega)
  have p8 : 0 < ((G : Int) + C - A - R) * ((G : Int) + C - A + R) := Int.mul_pos (by omega) (by omega)
  refine ⟨by omega, by omega, by omega, ⟨?_, ?_⟩, ⟨?_, ?_⟩, ⟨?_, ?_⟩, ⟨?_, ?_⟩⟩ <;> grind
theorem ang_one {X N : Int} (hN : 0 < N) (h2 : -N < X) : Ang (N * N - X * X) X N 1 := ⟨hN, h2, by decide, by omega⟩
theorem gap_sq {C A : Nat} : ((gap C A * gap C A : Nat) : Int) = ((C : Int) - A) * ((C : Int) - A) := by
  rw [Int.natCast_mul, gap_is, Int.natAbs_mul_self']
theorem gap_sub {C A : Nat} (h : A < C) : ((gap C A : Nat) : Int) = (C : Int) - A := by
  rw [gap_is]
  omega
theorem rad_pos {X N : Int} (h1 : X < N) (h2 : -N < X) : 0 < N * N - X * X := by
  have p : 0 < (N - X) * (N + X) := Int.mul_pos (by omega) (by omega)
  have q : (N - X) * (N + X) = N * N - X * X := by grind
  omega
/-- the rocker's way -/
theorem swing_rocks {G A C R k : Nat} (h : Four.kind ⟨G, A, C, R⟩ = 3) (hA : 1 ≤ A) {x y : Rat} (hx : x = cosZ G R ((C : Int) + A)) (hy : y = cosZ G R ((C : Int) - A)) :
    ((Four.swing ⟨G, A, C, R⟩ 0 (k + 1) : Nat) : Int) = betw (dbl k 0 y.num y.den) (dbl k 0 x.num x.den) := by
  obtain ⟨gp, rp, cp, ⟨x1, x2⟩, ⟨y1, y2⟩, _⟩ := three_facts h hA
  have np : (0 : Int) < 2 * G * R := Int.mul_pos (by omega) rp
  obtain ⟨ex, dx, lx, mx, _⟩ := low_terms np x2 x1 hx
  obtain ⟨ey, dy, ly, my, _⟩ := low_terms np y2 y1 hy
  have xy : x < y := by
    rw [hx, hy]
    unfold cosZ
    rw [div_lt_div np np]
    refine Int.mul_lt_mul_of_pos_right ?_ np
    have : (0 : Int) < C * A := Int.mul_pos (by omega) (by omega)
    grind
  have lt : x.num * y.den < y.num * x.den := by
    rw [ex, ey, div_lt_div dx dy] at xy
    exact xy
  have c1 : cosine G R (((A + C) * (A + C) : Nat) : Int) = x := by
    rw [hx, cosine_div, Int.natCast_mul, Int.natCast_add, Int.add_comm (A : Int) C]
    rfl
  have c2 : cosine G R ((gap C A * gap C A : Nat) : Int) = y := by
    rw [hy, cosine_div, gap_sq]
    rfl
  rw [swing_zero ⟨G, A, C, R⟩ (k + 1) c1 c2]
  have f := turn_first lx mx ly my dx dy (k + 1)
  rw [← ex, ← ey] at f
  rw [f]
  rw [turn_told (k := 1) (rad_pos lx mx) (rad_pos ly my) (Or.inl rfl) k 1 0 x.num x.den 1 0 y.num y.den 1 _ _ _ _ 0 (Or.inl rfl) (ang_one dx mx) (ang_one dy my) (by omega) (by omega) (by omega) (by omega)]
  · unfold betw lessN
    generalize dbl k 0 x.num x.den = U
    generalize dbl k 0 y.num y.den = V
    obtain ⟨u1, u2, u3⟩ := U
    obtain ⟨v1, v2, v3⟩ := V
    show 1 * (u1 - v1) - (if (1 : Int) = 1 ∧ v2 * u3 < u2 * v3 ∨ (1 : Int) ≠ 1 ∧ u2 * v3 < v2 * u3 then 1 else 0) = if v2 * u3 < u2 * v3 then u1 - v1 - 1 else u1 - v1
    by_cases z : v2 * u3 < u2 * v3
    · rw [if_pos (Or.inl ⟨rfl, z⟩), if_pos z]
      omega
    · rw [if_neg (by omega), if_neg z]
      omega
  · unfold lessN
    rw [if_neg (by omega), if_neg (by omega)]
    rfl
/-- the crank's way -/
theorem swing_cranks {G A C R k : Nat} (h : Four.kind ⟨G, A, C, R⟩ = 3) (hA : 1 ≤ A) {x y : Rat} (hx : x = cosZ G ((C : Int) + A) R) (hy : y = cosZ G ((C : Int) - A) R) :
    ((Four.swing ⟨G, A, C, R⟩ 1 (k + 1) : Nat) : Int) = betw (dbl k 0 x.num x.den) (dbl k 1 y.num y.den) := by
  obtain ⟨gp, rp, cp, _, _, ⟨x1, x2⟩, ⟨y1, y2⟩⟩ := three_facts h hA
  obtain ⟨k1, k2, k3, k4, k5, k6⟩ := kind_three h
  have np : (0 : Int) < 2 * G * (C + A) := Int.mul_pos (by omega) (by omega)
  have mp : (0 : Int) < 2 * G * (C - A) := Int.mul_pos (by omega) cp
  obtain ⟨ex, dx, lx, mx, _⟩ := low_terms np x2 x1 hx
  obtain ⟨ey, dy, ly, my, _⟩ := low_terms mp y2 y1 hy
  have c1 : ((((G * G + (A + C) * (A + C) : Nat) : Int) - ((R * R : Nat) : Int) : Rat)) / ((2 * G * (A + C) : Nat) : Rat) = x := by
    rw [hx]
    unfold cosZ
    rw [Rat.divInt_eq_div]
    simp only [Rat.intCast_sub, Rat.intCast_add, Rat.intCast_mul, Rat.intCast_natCast, Rat.natCast_add, Rat.natCast_mul, Int.natCast_add, Int.natCast_mul, Rat.intCast_ofNat]
    rw [Rat.add_comm (A : Rat) C]
    rfl
  have c2 : ((((G * G : Nat) : Int) + ((gap C A * gap C A : Nat) : Int) - ((R * R : Nat) : Int) : Rat)) / ((2 * G * gap C A : Nat) : Rat) = y := by
    rw [hy]
    unfold cosZ
    rw [Rat.divInt_eq_div, ← gap_sub k2]
    simp only [Rat.intCast_sub, Rat.intCast_add, Rat.intCast_mul, Rat.intCast_natCast, Rat.natCast_add, Rat.natCast_mul, Int.natCast_add, Int.natCast_mul, Rat.intCast_ofNat]
    rfl
  rw [swing_one ⟨G, A, C, R⟩ (k + 1) c1 c2]
  have f := turn_second lx mx ly my dx dy (k + 1)
  rw [← ex, ← ey] at f
  rw [f]
  rw [turn_told (k := -1) (rad_pos lx mx) (rad_pos ly my) (Or.inr rfl) k (-1) 0 x.num x.den 1 1 y.num y.den 1 _ _ _ _ 0 (Or.inr rfl) (ang_one dx mx) (ang_one dy my) (by omega) (by omega) (by omega) (by omega)]
  · unfold betw lessN
    generalize dbl k 0 x.num x.den = U
    generalize dbl k 1 y.num y.den = V
    obtain ⟨u1, u2, u3⟩ := U
    obtain ⟨v1, v2, v3⟩ := V
    show -1 * (u1 - v1) - (if (-1 : Int) = 1 ∧ v2 * u3 < u2 * v3 ∨ (-1 : Int) ≠ 1 ∧ u2 * v3 < v2 * u3 then 1 else 0) = if u2 * v3 < v2 * u3 then v1 - u1 - 1 else v1 - u1
    by_cases z : u2 * v3 < v2 * u3
    · rw [if_pos (Or.inr ⟨by decide, z⟩), if_pos z]
      omega
    · rw [if_neg (by omega), if_neg z]
      omega
  · unfold lessN
    generalize x.num * y.den = U
    generalize y.num * x.den = V
    by_cases z : U < V
    · rw [if_neg (by omega), if_pos (by omega)]
      rfl
    · rw [if_pos (by omega), if_neg (by omega)]
      rfl
end My
namespace My
theorem floor_same {x w y z : Int} (e : x / w = y / z) : y * w < x * z ↔ w * (y % z) < z * (x % w) := by
  have a := Int.mul_ediv_add_emod x w
  have b := Int.mul_ediv_add_emod y z
  rw [e] at a
  generalize y / z = k at *
  generalize y % z = s at *
  generalize x % w = r at *
  subst a b
  have p : (z * k + s) * w = w * z * k + w * s := by grind
  have q : (w * k + r) * z = w * z * k + z * r := by grind
  omega
theorem floor_other {x w y z : Int} (hw : 0 < w) (hz : 0 < z) (e : x / w ≠ y / z) : x / w > y / z ↔ y * w < x * z := by
  have a := Int.mul_ediv_add_emod x w
  have b := Int.mul_ediv_add_emod y z
  have a1 := Int.emod_nonneg x (show w ≠ 0 by omega)
  have a2 := Int.emod_lt_of_pos x hw
  have b1 := Int.emod_nonneg y (show z ≠ 0 by omega)
  have b2 := Int.emod_lt_of_pos y hz
  generalize x / w = k at *
  generalize y / z = j at *
  generalize y % z = s at *
  generalize x % w = r at *
  subst a b
  have wz := Int.mul_pos hw hz
  have c1 : w * s < w * z := Int.mul_lt_mul_of_pos_left b2 hw
  have c2 : z * r < z * w := Int.mul_lt_mul_of_pos_left a2 hz
  have c3 := Int.mul_nonneg (Int.le_of_lt hw) b1
  have c4 := Int.mul_nonneg (Int.le_of_lt hz) a1
  have p : (z * j + s) * w = w * z * j + w * s := by grind
  have q : (w * k + r) * z = w * z * k + z * r := by grind
  rw [p, q]
  rw [Int.mul_comm z w] at c2
  constructor
  · intro h
    have d : w * z * (j + 1) ≤ w * z * k := Int.mul_le_mul_of_nonneg_left (by omega) (Int.le_of_lt wz)
    rw [Int.mul_add, Int.mul_one] at d
    omega
  · intro h
    by_cases g : k > j
    · exact g
    · have d : w * z * (k + 1) ≤ w * z * j := Int.mul_le_mul_of_nonneg_left (by omega) (Int.le_of_lt wz)
      rw [Int.mul_add, Int.mul_one] at d
      omega
/-- where a rest is nought -/
theorem rest_nought {w z r s : Int} (hw : 0 < w) (hz : 0 < z) (hr : 0 ≤ r) (hs : 0 ≤ s) (h : r = 0 ∨ s = 0) : w * s < z * r ↔ r > s := by
  rcases h with h | h
  · subst h
    have := Int.mul_nonneg (Int.le_of_lt hw) hs
    rw [Int.mul_zero]
    omega
  · subst h
    rw [Int.mul_zero]
    constructor
    · intro q
      by_cases c : r > 0
      · exact c
      · have e : r = 0 := by omega
        rw [e, Int.mul_zero] at q
        omega
    · intro q
      exact Int.mul_pos hz q
/-- one doubling stays within its size -/
theorem dbl_in {x w : Int} (hw : 0 < w) (h1 : -w ≤ x) (h2 : x ≤ w) : 0 < w * w ∧ -(w * w) ≤ (if x ≤ 0 then -(2 * (x * x) - w * w) else 2 * (x * x) - w * w) ∧ (if x ≤ 0 then -(2 * (x * x) - w * w) else 2 * (x * x) - w * w) ≤ w * w := by
  have a := Int.mul_pos hw hw
  have b : 0 ≤ (w - x) * (w + x) := Int.mul_nonneg (by omega) (by omega)
  have c : (w - x) * (w + x) = w * w - x * x := by grind
  have d : 0 ≤ x * x := by
    rw [← Int.natAbs_mul_self]
    exact Int.natCast_nonneg _
  refine ⟨a, ?_, ?_⟩ <;> split <;> omega
theorem sq_size {w : Int} {b : Nat} (h : w.natAbs < 2 ^ b) : (w * w).natAbs < 2 ^ (2 * b) := by
  rw [Int.natAbs_mul, Nat.two_mul, Nat.pow_add]
  exact Nat.mul_lt_mul'' h h
theorem dbl_size : ∀ (k : Nat) {n x w : Int} {b : Nat}, 0 < w → -w ≤ x → x ≤ w → w.natAbs < 2 ^ b → 0 < (dbl k n x w).2.2 ∧ (dbl k n x w).2.2.natAbs < 2 ^ (b * 2 ^ k)
  | 0, n, x, w, b, hw, h1, h2, hb => by
    rw [dbl, Nat.pow_zero, Nat.mul_one]
    exact ⟨hw, hb⟩
  | k + 1, n, x, w, b, hw, h1, h2, hb => by
    rw [dbl]
    obtain ⟨i1, i2, i3⟩ := dbl_in hw h1 h2
    have r := dbl_size k (n := if x ≤ 0 then 2 * n + 1 else 2 * n) (b := 2 * b) i1 i2 i3 (sq_size hb)
    rw [show b * 2 ^ (k + 1) = 2 * b * 2 ^ k by rw [Nat.pow_succ]; grind]
    exact r
theorem size_up {w : Int} {a b : Nat} (h : w.natAbs < 2 ^ a) (l : a ≤ b) : w.natAbs < 2 ^ b := Nat.lt_of_lt_of_le h (Nat.pow_le_pow_right (by decide) l)
end My
namespace My
open PySem PySem.Spec PyProof.Rows L2
open PySem.W (Codec)
def top (i : Nat) : Stmt := PySem.Challenge.pw_fourbars_s08_swing.main.body.getD i (.Pass ⟨0, 0, 0, 0⟩)
theorem Same.new {H : Hp} {p : Addr} {o : HO} (h : H p = none) : Same H (upd H p o) := fun b u e => by
  rw [upd_ne (ne_of_none e h)]
  exact e
theorem at_map {ns : List Int} {i : Nat} {x : V} (h : (ns.map V.int)[i]? = some x) : ∃ z, ns[i]? = some z ∧ x = V.int z := by
  rw [List.getElem?_map] at h
  cases e : ns[i]? with
  | none =>
    rw [e] at h
    cases h
  | some z =>
    rw [e] at h
    exact ⟨z, rfl, (Option.some.inj h).symm⟩
theorem take_more {α : Type} : ∀ {l : List α} {i : Nat} {x : α}, l[i]? = some x → l.take (i + 1) = l.take i ++ [x]
  | [], i, x, h => by simp at h
  | a :: l, 0, x, h => by
    have e : a = x := Option.some.inj h
    subst e
    rfl
  | a :: l, i + 1, x, h => by
    have ih := take_more (l := l) (i := i) (x := x) h
    show a :: l.take (i + 1) = a :: l.take i ++ [x]
    rw [ih]
    rfl
theorem idx_ne {a h : Int} {l : List Int} (e : ¬ a = h) : (a :: l).idxOf h = l.idxOf h + 1 := by
  rw [List.idxOf_cons, beq_eq_false_iff_ne.2 e]
  rfl
theorem index_at : ∀ {ns : List Int} {h : Int}, h ∈ ns → (ns.map V.int)[ns.idxOf h]? = some (V.int h)
  | [], h, m => by simp at m
  | a :: l, h, m => by
    by_cases e : a = h
    · subst e
      rw [List.idxOf_cons_self]
      rfl
    · have m' : h ∈ l := by
        rcases List.mem_cons.1 m with q | q
        · exact absurd q.symm e
        · exact q
      rw [idx_ne e]
      exact index_at m'
theorem index_ahead : ∀ {ns : List Int} {h : Int} {m : Nat} {z : V}, m < ns.idxOf h → (ns.map V.int)[m]? = some z → eqV z (V.int h) = false
  | [], h, m, z, l, e => by simp at e
  | a :: r, h, 0, z, l, e => by
    have ez : V.int a = z := Option.some.inj e
    subst ez
    show (a == h) = false
    rw [beq_eq_false_iff_ne]
    intro q
    subst q
    rw [List.idxOf_cons_self] at l
    exact absurd l (Nat.lt_irrefl 0)
  | a :: r, h, m + 1, z, l, e => by
    by_cases q : a = h
    · subst q
      rw [List.idxOf_cons_self] at l
      exact absurd l (Nat.not_lt_zero _)
    · rw [idx_ne q] at l
      exact index_ahead (ns := r) (Nat.lt_of_succ_lt_succ l) e
theorem flat_ints : ∀ ns : List Int, (ns.map V.int).all flatV = true
  | [] => rfl
  | _ :: r => by
    show (true && (r.map V.int).all flatV) = true
    rw [flat_ints r]
    rfl
theorem not_t {p : Prop} [Decidable p] (c : (!decide p) = true) : ¬ p := by
  intro h
  rw [decide_eq_true h] at c
  exact Bool.noConfusion c
theorem not_f {p : Prop} [Decidable p] (c : ¬ (!decide p) = true) : p := by
  by_cases h : p
  · exact h
  · refine absurd ?_ c
    rw [decide_eq_false h]
    rfl
def okLen (n : Int) : Bool := decide (1 ≤ n) && decide (n ≤ 999)
theorem okLen_iff (n : Int) : okLen n = true ↔ 1 ≤ n ∧ n ≤ 999 := by
  unfold okLen
  rw [Bool.and_eq_true, decide_eq_true_iff, decide_eq_true_iff]
/-- the bars from a pin on -/
def barsAt (l : List Int) (p : Nat) : List Int := l.drop p ++ l.take p
theorem abs_is (i : Int) : (if i < 0 then -i else i) = (i.natAbs : Int) := by
  split <;> omega
theorem cutV_tail (l : List V) (p : Nat) (h : p ≤ l.length) : cutV l (some (p : Int)) none = l.drop p := by
  unfold cutV
  rw [HT.sIx_nat, HT.sIx_none, Nat.min_eq_left h]
  exact List.take_of_length_le (by rw [List.length_drop]; omega)
theorem cutV_head (l : List V) (p : Nat) (h : p ≤ l.length) : cutV l none (some (p : Int)) = l.take p := by
  unfold cutV
  rw [HT.sIx_nat, HT.sIx_none, Nat.min_eq_left h]
  rfl
theorem all_good (G A C R : Nat) : ([(G : Int), (A : Int), (C : Int), (R : Int)]).all okLen = true ↔ Good G A C R := by
  show (okLen G && (okLen A && (okLen C && (okLen R && true)))) = true ↔ _
  unfold Good
  rw [Bool.and_eq_true, Bool.and_eq_true, Bool.and_eq_true, Bool.and_eq_true, okLen_iff, okLen_iff, okLen_iff, okLen_iff]
  refine ⟨fun ⟨h1, h2, h3, h4, _⟩ => ?_, fun h => ?_⟩
  · omega
  · exact ⟨by omega, by omega, by omega, by omega, rfl⟩
theorem in1' {n : Nat} : (decide (0 ≤ (n : Int)) && decide ((n : Int) ≤ 1)) = decide (n ≤ 1) := by
  rw [decide_eq_true (show (0 : Int) ≤ n by omega), Bool.true_and]
  by_cases c : n ≤ 1
  · rw [decide_eq_true c, decide_eq_true (by omega)]
  · rw [decide_eq_false c, decide_eq_false (by omega)]
abbrev sLens : Stmt := top 2
theorem scLens : FnScope ["lengths", "length"] ["lengths"] (defScope sLens) := ⟨rfl, rfl, rfl, by decide +kernel, rfl, by decide +kernel, by decide +kernel⟩
def spLens (K : PySem.W.Frag) : Sp := fun vs H Q _ => ∃ (a : Addr) (ns : List Int), vs = [.ref a] ∧ SqL K H a (ns.map V.int) ∧ ns.length ≤ 1000 ∧ ∀ H' : Hp, Same H H' → Q (.bl (ns.all okLen)) H'
section
variable {P : Program} {w : World} {K : PySem.W.Frag} {mg : Str → Option Value} {base : Heap}
theorem ok_Lens {f : Addr} {fd : FuncData} (F : Fun K "are_lengths" "are_lengths" sLens f fd) (nAll : mg "all" = none) : FnOk P w K mg base CX0 1 f fd ["lengths"] (spLens K) := by
  refine F.ok scLens (fun vs H Q E h => ?_) (fun cdv A outer s H vs Q E hr h => ?_)
  · obtain ⟨a, ns, rfl, _⟩ := h
    rfl
  · obtain ⟨a, ns, rfl, hS, hlen, k⟩ := h
    refine ⟨_, pss_one (ps_ret (pe_callB (cr_all rfl) (by rfl) nAll (by decide +kernel) (pa_cons
      (pe_lc (own := [("length", 1)]) (g := gName 1) (tt := tYes) rfl scLens.nd (pi_list (pv 0)) (blkOk_by (N := ["lengths", "length"]) (sc := defScope sLens) (by decide +kernel))
        (fun _ _ _ _ _ => pg_name (i := 1) scLens.nd rfl (Or.inl rfl)) (fun _ _ _ _ _ => pts_nil) (fun _ _ _ _ _ => pe_chain op_le op_le pe_int (pv 1) pe_int)) pa_nil))), ?_⟩
    refine ⟨_, rfl, a, rfl, ⟨_, hS⟩, fun D hD => lc_list (K := K) (a := a) (xs := ns.map V.int) (fun i H' => Same H H' ∧ H' D = some (.lst (((ns.take i).map okLen).map V.bl)))
      ⟨Same.new hD, upd_same⟩ (fun i H' _ q => q.1.seq hS) ?_ ?_⟩
    · rintro i x H' hi ⟨sm, hd⟩
      obtain ⟨z, hz, rfl⟩ := at_map hi
      have il : i < ns.length := (List.getElem?_eq_some_iff.mp hz).1
      have fin : ∀ b : Bool, b = okLen z → ∃ acc, H' D = some (.lst acc) ∧ acc.length < sizeLine ∧ (Same H (upd H' D (.lst (acc ++ [V.bl b]))) ∧ (upd H' D (.lst (acc ++ [V.bl b]))) D = some (.lst (((ns.take (i + 1)).map okLen).map V.bl))) := fun b e => by
        refine ⟨_, hd, ?_, fun c o q => ?_, ?_⟩
        · rw [List.length_map, List.length_map, List.length_take]
          exact small1000 (Nat.le_trans (Nat.min_le_right _ _) hlen)
        · rw [upd_ne (ne_of_none q hD)]
          exact sm c o q
        · rw [upd_same, take_more hz, List.map_append, List.map_append, e]
          rfl
      refine ⟨rfl, _, rfl, _, _, rfl, rfl, _, rfl, ?_⟩
      by_cases c : 1 ≤ z
      · rw [decide_eq_true c]
        refine iteT ⟨_, _, rfl, rfl, fin _ ?_⟩
        unfold okLen
        rw [decide_eq_true c]
        rfl
      · rw [decide_eq_false c]
        refine iteF (fin _ ?_)
        unfold okLen
        rw [decide_eq_false c]
        rfl
    · rintro H' ⟨sm, hd⟩
      rw [List.length_map, List.take_length] at hd
      refine ⟨D, ns.map okLen, rfl, SqL.of hd, ?_⟩
      have e : (ns.map okLen).all id = ns.all okLen := by
        rw [List.all_map]
        rfl
      rw [e]
      exact k H' sm
end
abbrev sChoice : Stmt := top 3
theorem scChoice : FnScope ["number"] ["number"] (defScope sChoice) := ⟨rfl, rfl, rfl, by decide +kernel, rfl, by decide +kernel, by decide +kernel⟩
def spChoice : Sp := fun vs H Q _ => ∃ n : Int, vs = [.int n] ∧ Q (.bl (decide (0 ≤ n) && decide (n ≤ 1))) H
section
variable {P : Program} {w : World} {K : PySem.W.Frag} {mg : Str → Option Value} {base : Heap}
theorem ok_Choice {f : Addr} {fd : FuncData} (F : Fun K "is_choice" "is_choice" sChoice f fd) : FnOk P w K mg base CX0 1 f fd ["number"] spChoice := by
  refine F.ok scChoice (fun vs H Q E h => ?_) (fun cdv A outer s H vs Q E hr h => ?_)
  · obtain ⟨n, rfl, _⟩ := h
    rfl
  · obtain ⟨n, rfl, k⟩ := h
    refine ⟨_, pss_one (ps_ret (pe_chain op_le op_le pe_int (pv 0) pe_int)), ?_⟩
    refine ⟨_, rfl, _, _, rfl, rfl, _, rfl, ?_⟩
    by_cases c : 0 ≤ n
    · rw [decide_eq_true c] at k ⊢
      exact iteT ⟨_, _, rfl, rfl, k⟩
    · rw [decide_eq_false c] at k ⊢
      exact iteF k
end
abbrev sKindOf : Stmt := top 4
theorem scKindOf : FnScope ["lengths", "longest", "shortest", "others"] ["lengths"] (defScope sKindOf) := ⟨rfl, rfl, rfl, by decide +kernel, rfl, by decide +kernel, by decide +kernel⟩
def spKindOf (K : PySem.W.Frag) : Sp := fun vs H Q _ => ∃ (a : Addr) (G A C R : Nat), vs = [.ref a] ∧ SqL K H a (([(G : Int), (A : Int), (C : Int), (R : Int)]).map V.int) ∧ Q (.int ((LkFour.Four.kind ⟨G, A, C, R⟩ : Nat) : Int)) H
section
variable {P : Program} {w : World} {K : PySem.W.Frag} {mg : Str → Option Value} {base : Heap}
theorem ok_KindOf {f : Addr} {fd : FuncData} (F : Fun K "kind_of" "kind_of" sKindOf f fd) (nMax : mg "max" = none) (nMin : mg "min" = none) (nSum : mg "sum" = none) : FnOk P w K mg base CX0 1 f fd ["lengths"] (spKindOf K) := by
  refine F.ok scKindOf (fun vs H Q E h => ?_) (fun cdv A outer s H vs Q E hr h => ?_)
  · obtain ⟨a, G, A, C, R, rfl, _⟩ := h
    rfl
  · obtain ⟨a, G, A, C, R, rfl, hS, k⟩ := h
    refine ⟨_, pss_cons (ps_set (i := 1) scKindOf.nd rfl (Or.inl rfl) (pe_callB (cr_max rfl) (by rfl) nMax (by decide +kernel) (pa_cons (pv 0) pa_nil)))
      (pss_cons (ps_set (i := 2) scKindOf.nd rfl (Or.inl rfl) (pe_callB (cr_min rfl) (by rfl) nMin (by decide +kernel) (pa_cons (pv 0) pa_nil)))
      (pss_cons (ps_set (i := 3) scKindOf.nd rfl (Or.inl rfl) (pe_op op_sub (pe_op op_sub (pe_callB (cr_sum rfl) (by rfl) nSum (by decide +kernel) (pa_cons (pv 0) pa_nil)) (pv 1)) (pv 2)))
      (pss_cons (ps_if (pt_cmpR op_gt (pv 1) (pe_op op_add (pv 2) (pv 3)) (nomark _)) (pss_one (ps_ret pe_int)) pss_nil)
      (pss_cons (ps_if (pt_cmpR op_eq (pv 1) (pe_op op_add (pv 2) (pv 3)) (nomark _)) (pss_one (ps_ret pe_int)) pss_nil)
      (pss_cons (ps_if (pt_cmpR op_gt (pe_op op_add (pv 2) (pv 1)) (pv 3) (nomark _)) (pss_one (ps_ret pe_int)) pss_nil)
      (pss_cons (ps_if (pt_cmpR op_eq (pe_op op_add (pv 2) (pv 1)) (pv 3) (nomark _)) (pss_one (ps_ret pe_int)) pss_nil)
      (pss_one (ps_ret (pe_op op_add pe_int (pe_bm PySem.F.plainAttrs_list PySem.F.slot_list_index PySem.F.type_list_index mt_index (pv 0) (pa_cons (pv 2) pa_nil))))))))))), ?_⟩
    refine ⟨_, rfl, a, [(G : Int), (A : Int), (C : Int), (R : Int)], rfl, hS, (by show 0 < 4; decide), fun l ml hl => ?_⟩
    refine ⟨_, rfl, a, [(G : Int), (A : Int), (C : Int), (R : Int)], rfl, hS, (by show 0 < 4; decide), fun h mh hh => ?_⟩
    refine ⟨_, rfl, a, [(G : Int), (A : Int), (C : Int), (R : Int)], rfl, hS, ?_⟩
    refine ⟨_, rfl, _, _, rfl, rfl, _, rfl, _, _, rfl, rfl, ?_⟩
    have m1 : l = G ∨ l = A ∨ l = C ∨ l = R := by simpa using ml
    have m2 : (G : Int) ≤ l ∧ (A : Int) ≤ l ∧ (C : Int) ≤ l ∧ (R : Int) ≤ l := by simpa using hl
    have n1 : h = G ∨ h = A ∨ h = C ∨ h = R := by simpa using mh
    have n2 : h ≤ (G : Int) ∧ h ≤ (A : Int) ∧ h ≤ (C : Int) ∧ h ≤ (R : Int) := by simpa using hh
    have kb := kind_by m1 m2 n1 n2
    rw [kb] at k
    unfold kindBy at k
    have es : ([(G : Int), (A : Int), (C : Int), (R : Int)]).sum = (G : Int) + A + C + R := by
      simp only [List.sum_cons, List.sum_nil]
      omega
    rw [es]
    refine ⟨_, rfl, _, rfl, _, rfl, _, _, rfl, rfl, _, _, rfl, rfl, _, rfl, ite2 (fun c => ?_) fun c => ?_⟩
    · rw [if_pos (of_decide_eq_true c)] at k
      exact k
    rw [if_neg (fun q => c (decide_eq_true q))] at k
    refine ⟨_, rfl, _, rfl, _, rfl, _, _, rfl, rfl, rfl, _, rfl, ite2 (fun c => ?_) fun c => ?_⟩
    · rw [if_pos (V.int.inj (of_decide_eq_true c))] at k
      exact k
    rw [if_neg (fun q => c (decide_eq_true (congrArg V.int q)))] at k
    refine ⟨_, rfl, _, rfl, _, _, rfl, rfl, _, rfl, _, _, rfl, rfl, _, rfl, ite2 (fun c => ?_) fun c => ?_⟩
    · rw [if_pos (of_decide_eq_true c)] at k
      exact k
    rw [if_neg (fun q => c (decide_eq_true q))] at k
    refine ⟨_, rfl, _, rfl, _, _, rfl, rfl, _, rfl, rfl, _, rfl, ite2 (fun c => ?_) fun c => ?_⟩
    · rw [if_pos (V.int.inj (of_decide_eq_true c))] at k
      exact k
    rw [if_neg (fun q => c (decide_eq_true (congrArg V.int q)))] at k
    refine ⟨_, rfl, Or.inl ⟨rfl, _, hS⟩, _, rfl, a, _, _, _, _, rfl, rfl, hS, rfl, flat_ints _, index_at mh, ?_, fun m z lt e => index_ahead lt e, _, _, rfl, rfl, k⟩
    show (h == h) = true
    exact beq_self_eq_true h
end
abbrev sWayIn : Stmt := top 5
theorem scWayIn : FnScope ["bar", "another", "folded"] ["bar", "another", "folded"] (defScope sWayIn) := ⟨rfl, rfl, rfl, by decide +kernel, rfl, by decide +kernel, by decide +kernel⟩
def wayZ (x y f : Int) : Int := if f = 1 then x - y else x + y
def spWayIn : Sp := fun vs H Q _ => ∃ x y f : Int, vs = [.int x, .int y, .int f] ∧ Q (.int (wayZ x y f)) H
section
variable {P : Program} {w : World} {K : PySem.W.Frag} {mg : Str → Option Value} {base : Heap}
theorem ok_WayIn {f : Addr} {fd : FuncData} (F : Fun K "way_in_line" "way_in_line" sWayIn f fd) : FnOk P w K mg base CX0 1 f fd ["bar", "another", "folded"] spWayIn := by
  refine F.ok scWayIn (fun vs H Q E h => ?_) (fun cdv A outer s H vs Q E hr h => ?_)
  · obtain ⟨x, y, f, rfl, _⟩ := h
    rfl
  · obtain ⟨x, y, f, rfl, k⟩ := h
    refine ⟨_, pss_cons (ps_if (pt_cmpR op_eq (pv 2) pe_int (nomark _)) (pss_one (ps_ret (pe_op op_sub (pv 0) (pv 1)))) pss_nil)
      (pss_one (ps_ret (pe_op op_add (pv 0) (pv 1)))), ?_⟩
    unfold wayZ at k
    refine ⟨_, rfl, rfl, _, rfl, ite2 (fun c => ?_) fun c => ?_⟩
    · rw [if_pos (V.int.inj (of_decide_eq_true c))] at k
      exact ⟨_, rfl, _, rfl, _, _, rfl, rfl, k⟩
    · rw [if_neg (fun q => c (decide_eq_true (congrArg V.int q)))] at k
      exact ⟨_, rfl, _, rfl, _, _, rfl, rfl, k⟩
end
abbrev sCommon : Stmt := top 12
theorem scCommon : FnScope ["one", "another", "left", "right", "rest"] ["one", "another"] (defScope sCommon) := ⟨rfl, rfl, rfl, by decide +kernel, rfl, by decide +kernel, by decide +kernel⟩
def spCommon : Sp := fun vs H Q _ => ∃ m n : Nat, vs = [.int (m : Int), .int (n : Int)] ∧ Q (.int ((Nat.gcd m n : Nat) : Int)) H
section
variable {P : Program} {w : World} {K : PySem.W.Frag} {mg : Str → Option Value} {base : Heap}
theorem ok_Common {f : Addr} {fd : FuncData} (F : Fun K "common_part" "common_part" sCommon f fd) : FnOk P w K mg base CX0 1 f fd ["one", "another"] spCommon := by
  refine F.ok scCommon (fun vs H Q E h => ?_) (fun cdv A outer s H vs Q E hr h => ?_)
  · obtain ⟨m, n, rfl, _⟩ := h
    rfl
  · obtain ⟨m, n, rfl, k⟩ := h
    refine ⟨_, pss_cons (ps_set (i := 2) scCommon.nd rfl (Or.inl rfl) (pv 0)) (pss_cons (ps_set (i := 3) scCommon.nd rfl (Or.inl rfl) (pv 1))
      (pss_cons (ps_while PassesOwn.never (pt_cmpR op_ne (pv 3) pe_int (nomark _))
        (pss_cons (ps_set (i := 4) scCommon.nd rfl (Or.inl rfl) (pe_op op_modN (pv 2) (pv 3))) (pss_cons (ps_set (i := 2) scCommon.nd rfl (Or.inl rfl) (pv 3)) (pss_one (ps_set (i := 3) scCommon.nd rfl (Or.inl rfl) (pv 4))))))
      (pss_one (ps_ret (pv 2))))), ?_⟩
    refine ⟨_, rfl, _, rfl, while_by (fun σ H' => H' = H ∧ ∃ (x y : Nat) (r : Option V), σ = [some (.int (m : Int)), some (.int (n : Int)), some (.int (x : Int)), some (.int (y : Int)), r] ∧ Nat.gcd x y = Nat.gcd m n)
      (fun σ _ => match σ with | [_, _, _, some (.int y), _] => y.toNat | _ => 0) ⟨rfl, m, n, _, rfl, rfl⟩ ?_ ?_⟩
    · rintro σ H' ⟨rfl, x, y, r, rfl, g⟩
      refine ⟨_, rfl, rfl, _, rfl, ?_⟩
      refine ite2 (fun c => ?_) fun c => ?_
      · have hy : y ≠ 0 := fun e => not_t c (by rw [e]; rfl)
        refine ⟨_, rfl, _, rfl, _, _, rfl, rfl, (by omega), _, rfl, _, rfl, ⟨rfl, y, x % y, some (.int ((x % y : Nat) : Int)), ?_, ?_⟩, ?_⟩
        · show [some (V.int (m : Int)), some (V.int (n : Int)), some (V.int (y : Int)), some (V.int ((x : Int).fmod y)), some (V.int ((x : Int).fmod y))] = _
          rw [Int.fmod_eq_emod_of_nonneg _ (by omega)]
          rfl
        · rw [← g, Nat.gcd_comm x y, Nat.gcd_rec y x, Nat.gcd_comm]
        · show ((x : Int).fmod y).toNat < ((y : Nat) : Int).toNat
          rw [Int.fmod_eq_emod_of_nonneg _ (by omega)]
          have := Nat.mod_lt x (Nat.pos_of_ne_zero hy)
          omega
      · have hy : y = 0 := Int.ofNat.inj (V.int.inj (not_f c))
        subst hy
        refine ⟨_, rfl, ?_⟩
        rw [Nat.gcd_zero_right] at g
        rw [g]
        exact k
    · rintro σ H' Q Q' i ⟨v, e, e2, b, e3, q⟩
      exact ⟨v, e, e2, b, e3, i _ _ q⟩
end
abbrev sFraction : Stmt := top 11
theorem scFraction : FnScope ["above", "below", "common"] ["above", "below"] (defScope sFraction) := ⟨rfl, rfl, rfl, by decide +kernel, rfl, by decide +kernel, by decide +kernel⟩
def spFraction : Sp := fun vs H Q _ => ∃ n d : Int, vs = [.int n, .int d] ∧ d ≠ 0 ∧ d.natAbs < 1073741824 ∧
  ∀ (H' : Hp) (q : Addr), Same H H' → H' q = some (.lst ((LkDSpec.two (Rat.divInt n d)).map V.int)) → Q (.ref q) H'
section
variable {P : Program} {w : World} {K : PySem.W.Frag} {mg : Str → Option Value} {base : Heap}
theorem ok_Fraction {f fCommon : Addr} {fd fdCommon : FuncData} (F : Fun K "fraction" "fraction" sFraction f fd)
    (FCommon : Fun K "common_part" "common_part" sCommon fCommon fdCommon) (bCommon : Binds K fdCommon ["one", "another"] []) (gCommon : mg "common_part" = some (.ref fCommon)) (nAbs : mg "abs" = none) : FnOk P w K mg base CX0 2 f fd ["above", "below"] spFraction := by
  have OCommon : FnOk P w K mg base CX0 1 fCommon fdCommon ["one", "another"] spCommon := ok_Common FCommon
  refine F.ok scFraction (fun vs H Q E h => ?_) (fun cdv A outer s H vs Q E hr h => ?_)
  · obtain ⟨n, d, rfl, _⟩ := h
    rfl
  · obtain ⟨n, d, rfl, hd, hb, k⟩ := h
    refine ⟨_, pss_cons (ps_set (i := 2) scFraction.nd rfl (Or.inl rfl) (pe_call OCommon hr rfl gCommon FCommon.kp bCommon .nil pass0 (pa_cons (pe_callB call_abs (by rfl) nAbs (by decide +kernel) (pa_cons (pv 0) pa_nil)) (pa_cons (pe_callB call_abs (by rfl) nAbs (by decide +kernel) (pa_cons (pv 1) pa_nil)) pa_nil))))
      (pss_cons (ps_if (pt_cmpR op_lt (pv 1) pe_int (nomark _)) (pss_one (ps_set (i := 2) scFraction.nd rfl (Or.inl rfl) (pe_un un_neg (pv 2)))) pss_nil)
      (pss_one (ps_ret (pe_lst (pa_cons (pe_op op_fdivN (pv 0) (pv 2)) (pa_cons (pe_op op_fdivN (pv 1) (pv 2)) pa_nil)))))), ?_⟩
    have g0 : 0 < Nat.gcd n.natAbs d.natAbs := Nat.gcd_pos_of_pos_right _ (by omega)
    have g1 : Nat.gcd n.natAbs d.natAbs ≤ d.natAbs := Nat.gcd_le_right _ (by omega)
    have t := two_fdiv (n := n) hd rfl
    refine ⟨_, rfl, _, rfl, _, rfl, _, rfl, n.natAbs, d.natAbs, by rw [abs_is, abs_is]; rfl, ?_⟩
    refine ⟨_, rfl, _, _, rfl, rfl, _, rfl, ite2 (fun c => ?_) fun c => ?_⟩
    · rw [if_pos (of_decide_eq_true c)] at t
      refine ⟨_, rfl, _, rfl, _, rfl, _, rfl, _, _, rfl, rfl, ⟨by omega, by omega⟩, _, rfl, _, rfl, _, _, rfl, rfl, ⟨by omega, by omega⟩, (by show 2 ≤ sizeLine; decide), fun q hq => k _ q (Same.new hq) ?_⟩
      rw [upd_same, t]
      rfl
    · rw [if_neg (fun q => c (decide_eq_true q))] at t
      refine ⟨_, rfl, _, rfl, _, _, rfl, rfl, ⟨by omega, by omega⟩, _, rfl, _, rfl, _, _, rfl, rfl, ⟨by omega, by omega⟩, (by show 2 ≤ sizeLine; decide), fun q hq => k _ q (Same.new hq) ?_⟩
      rw [upd_same, t]
      rfl
end
abbrev sCosine : Stmt := top 10
theorem scCosine : FnScope ["one", "another", "across"] ["one", "another", "across"] (defScope sCosine) := ⟨rfl, rfl, rfl, by decide +kernel, rfl, by decide +kernel, by decide +kernel⟩
def spCosine : Sp := fun vs H Q _ => ∃ x y z : Int, vs = [.int x, .int y, .int z] ∧ x ≠ 0 ∧ y ≠ 0 ∧ x.natAbs ≤ 2000 ∧ y.natAbs ≤ 2000 ∧ z.natAbs ≤ 2000 ∧
  ∀ (H' : Hp) (q : Addr), Same H H' → H' q = some (.lst ((LkDSpec.two (cosZ x y z)).map V.int)) → Q (.ref q) H'
theorem prod_small {x y : Int} (hx : x.natAbs ≤ 2000) (hy : y.natAbs ≤ 2000) : (x * y).natAbs ≤ 4000000 := by
  rw [Int.natAbs_mul]
  exact Nat.mul_le_mul hx hy
section
variable {P : Program} {w : World} {K : PySem.W.Frag} {mg : Str → Option Value} {base : Heap}
theorem ok_Cosine {f fCommon fFraction : Addr} {fd fdCommon fdFraction : FuncData} (F : Fun K "cosine" "cosine" sCosine f fd)
    (FCommon : Fun K "common_part" "common_part" sCommon fCommon fdCommon) (bCommon : Binds K fdCommon ["one", "another"] []) (gCommon : mg "common_part" = some (.ref fCommon))
    (FFraction : Fun K "fraction" "fraction" sFraction fFraction fdFraction) (bFraction : Binds K fdFraction ["above", "below"] []) (gFraction : mg "fraction" = some (.ref fFraction)) (nAbs : mg "abs" = none) : FnOk P w K mg base CX0 3 f fd ["one", "another", "across"] spCosine := by
  have OFraction : FnOk P w K mg base CX0 2 fFraction fdFraction ["above", "below"] spFraction := ok_Fraction FFraction FCommon bCommon gCommon nAbs
  refine F.ok scCosine (fun vs H Q E h => ?_) (fun cdv A outer s H vs Q E hr h => ?_)
  · obtain ⟨x, y, z, rfl, _⟩ := h
    rfl
  · obtain ⟨x, y, z, rfl, hx, hy, bx, by_, bz, k⟩ := h
    refine ⟨_, pss_one (ps_ret (pe_call OFraction hr rfl gFraction FFraction.kp bFraction .nil pass0 (pa_cons (pe_op op_sub (pe_op op_add (pe_op op_mul (pv 0) (pv 0)) (pe_op op_mul (pv 1) (pv 1))) (pe_op op_mul (pv 2) (pv 2)))
      (pa_cons (pe_op op_mul (pe_op op_mul pe_int (pv 0)) (pv 1)) pa_nil)))), ?_⟩
    have e : 2 * x * y = 2 * (x * y) := Int.mul_assoc ..
    have p := prod_small bx by_
    have hxy : x * y ≠ 0 := Int.mul_ne_zero hx hy
    refine ⟨_, rfl, _, rfl, _, _, rfl, rfl, .inl (by omega), ?_⟩
    refine ⟨_, rfl, _, rfl, _, _, rfl, rfl, .inl (by omega), _, _, rfl, rfl, ?_⟩
    refine ⟨_, rfl, _, rfl, _, _, rfl, rfl, .inl (by omega), _, _, rfl, rfl, ?_⟩
    refine ⟨_, rfl, _, _, rfl, rfl, .inl (by decide), _, rfl, _, _, rfl, rfl, .inl (by omega), ?_⟩
    exact ⟨_, _, rfl, by omega, by omega, k⟩
end
abbrev sGreater : Stmt := top 9
theorem scGreater : FnScope ["fraction_one", "fraction_two", "one", "two", "rest_one", "rest_two", "upside_down"] ["fraction_one", "fraction_two"] (defScope sGreater) := ⟨rfl, rfl, rfl, by decide +kernel, rfl, by decide +kernel, by decide +kernel⟩
def spGreater : Sp := fun vs H Q _ => ∃ (a b : Addr) (x w y z : Int) (e : Nat), vs = [.ref a, .ref b] ∧ H a = some (.lst [V.int x, V.int w]) ∧ H b = some (.lst [V.int y, V.int z]) ∧ 0 < w ∧ 0 < z ∧ (0 < e ∧ e ≤ 9000) ∧ w.natAbs < 2 ^ e ∧ z.natAbs < 2 ^ e ∧
  ∀ H' : Hp, Same H H' → Q (.bl (decide (y * w < x * z))) H'
def lowSum (H : Hp) (p q : Addr) : Nat := match H p, H q with | some (.lst [_, .int w]), some (.lst [_, .int z]) => w.toNat + z.toNat | _, _ => 0
theorem lowSum_at {H : Hp} {p q : Addr} {x w y z : Int} (hp : H p = some (.lst [V.int x, V.int w])) (hq : H q = some (.lst [V.int y, V.int z])) : lowSum H p q = w.toNat + z.toNat := by
  unfold lowSum
  rw [hp, hq]
section
variable {P : Program} {w : World} {K : PySem.W.Frag} {mg : Str → Option Value} {base : Heap}
theorem ok_Greater {f : Addr} {fd : FuncData} (F : Fun K "is_greater" "is_greater" sGreater f fd) : FnOk P w K mg base CX0 1 f fd ["fraction_one", "fraction_two"] spGreater := by
  refine F.ok scGreater (fun vs H Q E h => ?_) (fun cdv A outer s H vs Q E hr h => ?_)
  · obtain ⟨a, b, x, w, y, z, e, rfl, _⟩ := h
    rfl
  · obtain ⟨a, b, x, w, y, z, e, rfl, hA, hB, hw, hz, ⟨e0, e9⟩, we, ze, k⟩ := h
    refine ⟨_, pss_cons (ps_set (i := 2) scGreater.nd rfl (Or.inl rfl) (pv 0)) (pss_cons (ps_set (i := 3) scGreater.nd rfl (Or.inl rfl) (pv 1))
      (pss_cons (ps_while PassesOwn.never (pt_cmpR op_eq (pe_op op_fdivW (pe_ix ix_list (pv 2) pe_int (fun _ _ => rfl)) (pe_ix ix_list (pv 2) pe_int (fun _ _ => rfl))) (pe_op op_fdivW (pe_ix ix_list (pv 3) pe_int (fun _ _ => rfl)) (pe_ix ix_list (pv 3) pe_int (fun _ _ => rfl))) (nomark _))
        (pss_cons (ps_set (i := 4) scGreater.nd rfl (Or.inl rfl) (pe_op op_mod (pe_ix ix_list (pv 2) pe_int (fun _ _ => rfl)) (pe_ix ix_list (pv 2) pe_int (fun _ _ => rfl))))
        (pss_cons (ps_set (i := 5) scGreater.nd rfl (Or.inl rfl) (pe_op op_mod (pe_ix ix_list (pv 3) pe_int (fun _ _ => rfl)) (pe_ix ix_list (pv 3) pe_int (fun _ _ => rfl))))
        (pss_cons (ps_if (PW.pt (pw_or (pt_cmpR op_eq (pv 4) pe_int (nomark _)) (pw_or1 (pt_cmpR op_eq (pv 5) pe_int (nomark _))))) (pss_one (ps_ret (pe_cmpR op_gt (pv 4) (pv 5) (nomark _)))) pss_nil)
        (pss_cons (ps_set (i := 6) scGreater.nd rfl (Or.inl rfl) (pe_lst (pa_cons (pe_ix ix_list (pv 2) pe_int (fun _ _ => rfl)) (pa_cons (pv 4) pa_nil))))
        (pss_cons (ps_set (i := 2) scGreater.nd rfl (Or.inl rfl) (pe_lst (pa_cons (pe_ix ix_list (pv 3) pe_int (fun _ _ => rfl)) (pa_cons (pv 5) pa_nil))))
        (pss_one (ps_set (i := 3) scGreater.nd rfl (Or.inl rfl) (pv 6)))))))))
      (pss_one (ps_ret (pe_cmpR op_gt (pe_op op_fdivW (pe_ix ix_list (pv 2) pe_int (fun _ _ => rfl)) (pe_ix ix_list (pv 2) pe_int (fun _ _ => rfl))) (pe_op op_fdivW (pe_ix ix_list (pv 3) pe_int (fun _ _ => rfl)) (pe_ix ix_list (pv 3) pe_int (fun _ _ => rfl))) (nomark _)))))), ?_⟩
    refine ⟨_, rfl, _, rfl, while_by (fun σ H' => Same H H' ∧ ∃ (p q : Addr) (x' w' y' z' : Int) (r4 r5 r6 : Option V), σ = [some (.ref a), some (.ref b), some (.ref p), some (.ref q), r4, r5, r6] ∧
        H' p = some (.lst [V.int x', V.int w']) ∧ H' q = some (.lst [V.int y', V.int z']) ∧ 0 < w' ∧ 0 < z' ∧ w'.natAbs < 2 ^ e ∧ z'.natAbs < 2 ^ e ∧ (y' * w' < x' * z' ↔ y * w < x * z))
      (fun σ H' => match σ with | [_, _, some (.ref p), some (.ref q), _, _, _] => lowSum H' p q | _ => 0) ⟨Same.refl _, a, b, x, w, y, z, _, _, _, rfl, hA, hB, hw, hz, we, ze, Iff.rfl⟩ ?_ ?_⟩
    · rintro σ H' ⟨sm, p, q, x', w', y', z', r4, r5, r6, rfl, hP, hQ, hw', hz', we', ze', iff⟩
      have d1 := wide_div (i := x') hw' we' e0 e9
      have d2 := wide_div (i := y') hz' ze' e0 e9
      refine ⟨_, rfl, p, _, 0, _, rfl, rfl, SqL.of hP, atI_nat (j := 0) rfl, _, rfl, p, _, 1, _, rfl, rfl, SqL.of hP, atI_nat (j := 1) rfl, _, _, rfl, rfl, d1, ?_⟩
      refine ⟨_, rfl, q, _, 0, _, rfl, rfl, SqL.of hQ, atI_nat (j := 0) rfl, _, rfl, q, _, 1, _, rfl, rfl, SqL.of hQ, atI_nat (j := 1) rfl, _, _, rfl, rfl, d2, ?_⟩
      refine ⟨rfl, _, rfl, ite2 (fun c => ?_) fun c => ?_⟩
      · have fl : x' / w' = y' / z' := V.int.inj (of_decide_eq_true c)
        have f := floor_same (x := x') (w := w') (y := y') (z := z') fl
        have r1 := Int.emod_nonneg x' (show w' ≠ 0 by omega)
        have l1 := Int.emod_lt_of_pos x' hw'
        have r2 := Int.emod_nonneg y' (show z' ≠ 0 by omega)
        have l2 := Int.emod_lt_of_pos y' hz'
        refine ⟨_, rfl, p, _, 0, _, rfl, rfl, SqL.of hP, atI_nat (j := 0) rfl, _, rfl, p, _, 1, _, rfl, rfl, SqL.of hP, atI_nat (j := 1) rfl, _, _, rfl, rfl, hw', ?_⟩
        refine ⟨_, rfl, q, _, 0, _, rfl, rfl, SqL.of hQ, atI_nat (j := 0) rfl, _, rfl, q, _, 1, _, rfl, rfl, SqL.of hQ, atI_nat (j := 1) rfl, _, _, rfl, rfl, hz', ?_⟩
        have out : x' % w' = 0 ∨ y' % z' = 0 → decide (y * w < x * z) = decide (x' % w' > y' % z') := fun h => decide_eq_decide.2 (iff.symm.trans (f.trans (rest_nought hw' hz' r1 r2 h)))
        have k1 := k _ sm
        refine ⟨_, rfl, rfl, _, rfl, ite2 (fun d => ?_) fun d => ?_⟩
        · have e1 : x' % w' = 0 := V.int.inj (of_decide_eq_true d)
          refine ⟨_, rfl, _, rfl, _, _, rfl, rfl, ?_⟩
          rw [out (Or.inl e1)] at k1
          exact k1
        have n1 : x' % w' ≠ 0 := fun z => d (decide_eq_true (congrArg V.int z))
        refine ⟨_, rfl, rfl, _, rfl, ite2 (fun d => ?_) fun d => ?_⟩
        · have e1 : y' % z' = 0 := V.int.inj (of_decide_eq_true d)
          refine ⟨_, rfl, _, rfl, _, _, rfl, rfl, ?_⟩
          rw [out (Or.inr e1)] at k1
          exact k1
        have n2 : y' % z' ≠ 0 := fun z => d (decide_eq_true (congrArg V.int z))
        refine ⟨_, rfl, p, _, 1, _, rfl, rfl, SqL.of hP, atI_nat (j := 1) rfl, _, rfl, (by show 2 ≤ sizeLine; decide), fun t ht => ?_⟩
        have sT := Same.new (o := .lst [V.int w', V.int (x' % w')]) ht
        have hT : (upd H' t (.lst [V.int w', V.int (x' % w')])) t = some (.lst [V.int w', V.int (x' % w')]) := upd_same
        have hQ2 := sT _ _ hQ
        refine ⟨_, rfl, q, _, 1, _, rfl, rfl, SqL.of hQ2, atI_nat (j := 1) rfl, _, rfl, (by show 2 ≤ sizeLine; decide), fun u hu => ?_⟩
        have sU := Same.new (o := .lst [V.int z', V.int (y' % z')]) hu
        have hU : (upd (upd H' t (.lst [V.int w', V.int (x' % w')])) u (.lst [V.int z', V.int (y' % z')])) u = some (.lst [V.int z', V.int (y' % z')]) := upd_same
        have hT2 := sU _ _ hT
        refine ⟨_, rfl, ⟨sm.trans (sT.trans sU), u, t, z', y' % z', w', x' % w', _, _, _, rfl, hU, hT2, by omega, by omega, wide_le r2 (Int.le_of_lt l2) ze', wide_le r1 (Int.le_of_lt l1) we', ?_⟩, ?_⟩
        · exact f.symm.trans iff
        · show lowSum _ u t < lowSum H' p q
          rw [lowSum_at hU hT2, lowSum_at hP hQ]
          omega
      · have fl : x' / w' ≠ y' / z' := fun z => c (decide_eq_true (congrArg V.int z))
        refine ⟨_, rfl, p, _, 0, _, rfl, rfl, SqL.of hP, atI_nat (j := 0) rfl, _, rfl, p, _, 1, _, rfl, rfl, SqL.of hP, atI_nat (j := 1) rfl, _, _, rfl, rfl, d1, ?_⟩
        refine ⟨_, rfl, q, _, 0, _, rfl, rfl, SqL.of hQ, atI_nat (j := 0) rfl, _, rfl, q, _, 1, _, rfl, rfl, SqL.of hQ, atI_nat (j := 1) rfl, _, _, rfl, rfl, d2, ?_⟩
        refine ⟨_, _, rfl, rfl, ?_⟩
        have k1 := k _ sm
        rw [← decide_eq_decide.2 ((floor_other hw' hz' fl).trans iff)] at k1
        exact k1
    · rintro σ H' Q Q' i ⟨v, e, p, xs, j, u, e1, e2, e3, e4, v2, f, p2, xs2, j2, u2, f1, f2, f3, f4, g1, g2, g3, g4, g5, v3, h, p3, xs3, j3, u3, h1, h2, h3, h4, v4, l, p4, xs4, j4, u4, l1, l2, l3, l4, m1, m2, m3, m4, m5, o1, o2, o3, o4⟩
      exact ⟨v, e, p, xs, j, u, e1, e2, e3, e4, v2, f, p2, xs2, j2, u2, f1, f2, f3, f4, g1, g2, g3, g4, g5, v3, h, p3, xs3, j3, u3, h1, h2, h3, h4, v4, l, p4, xs4, j4, u4, l1, l2, l3, l4, m1, m2, m3, m4, m5, o1, o2, o3, i _ _ o4⟩
end
abbrev sBetween : Stmt := top 8
theorem scBetween : FnScope ["first", "last"] ["first", "last"] (defScope sBetween) := ⟨rfl, rfl, rfl, by decide +kernel, rfl, by decide +kernel, by decide +kernel⟩
def spBetween : Sp := fun vs H Q _ => ∃ (a b : Addr) (u v : Int × Int × Int) (e : Nat), vs = [.ref a, .ref b] ∧ H a = some (.lst [V.int u.1, V.int u.2.1, V.int u.2.2]) ∧ H b = some (.lst [V.int v.1, V.int v.2.1, V.int v.2.2]) ∧ 0 < u.2.2 ∧ 0 < v.2.2 ∧ (0 < e ∧ e ≤ 9000) ∧ u.2.2.natAbs < 2 ^ e ∧ v.2.2.natAbs < 2 ^ e ∧
  ∀ H' : Hp, Same H H' → Q (.int (betw u v)) H'
theorem tail_one (x y z : V) : cutV [x, y, z] (some 1) none = [y, z] := cutV_tail [x, y, z] 1 (by show 1 ≤ 3; decide)
section
variable {P : Program} {w : World} {K : PySem.W.Frag} {mg : Str → Option Value} {base : Heap}
theorem ok_Between {f fGreater : Addr} {fd fdGreater : FuncData} (F : Fun K "half_turns_between" "half_turns_between" sBetween f fd)
    (FGreater : Fun K "is_greater" "is_greater" sGreater fGreater fdGreater) (bGreater : Binds K fdGreater ["fraction_one", "fraction_two"] []) (gGreater : mg "is_greater" = some (.ref fGreater)) : FnOk P w K mg base CX0 2 f fd ["first", "last"] spBetween := by
  have OGreater : FnOk P w K mg base CX0 1 fGreater fdGreater ["fraction_one", "fraction_two"] spGreater := ok_Greater FGreater
  refine F.ok scBetween (fun vs H Q E h => ?_) (fun cdv A outer s H vs Q E hr h => ?_)
  · obtain ⟨a, b, u, v, e, rfl, _⟩ := h
    rfl
  · obtain ⟨a, b, u, v, e, rfl, hA, hB, pu, pv', he, bu, bv, k⟩ := h
    refine ⟨_, pss_cons (ps_if (pt_val (pe_call OGreater hr rfl gGreater FGreater.kp bGreater .nil pass0 (pa_cons (pe_slice sl_list (pv 1) (po_some pe_int) po_none) (pa_cons (pe_slice sl_list (pv 0) (po_some pe_int) po_none) pa_nil))))
        (pss_one (ps_ret (pe_op op_sub (pe_op op_sub (pe_ix ix_list (pv 1) pe_int (fun _ _ => rfl)) (pe_ix ix_list (pv 0) pe_int (fun _ _ => rfl))) pe_int))) pss_nil)
      (pss_one (ps_ret (pe_op op_sub (pe_ix ix_list (pv 1) pe_int (fun _ _ => rfl)) (pe_ix ix_list (pv 0) pe_int (fun _ _ => rfl))))), ?_⟩
    refine ⟨_, rfl, _, rfl, b, _, rfl, SqL.of hB, fun p np => ?_⟩
    rw [tail_one]
    have sp' := Same.new (o := .lst [V.int v.2.1, V.int v.2.2]) np
    have hP : (upd H p (.lst [V.int v.2.1, V.int v.2.2])) p = some (.lst [V.int v.2.1, V.int v.2.2]) := upd_same
    have hA1 := sp' _ _ hA
    refine ⟨_, rfl, _, rfl, a, _, rfl, SqL.of hA1, fun q nq => ?_⟩
    rw [tail_one]
    have sq := Same.new (o := .lst [V.int u.2.1, V.int u.2.2]) nq
    have hQ : (upd (upd H p (.lst [V.int v.2.1, V.int v.2.2])) q (.lst [V.int u.2.1, V.int u.2.2])) q = some (.lst [V.int u.2.1, V.int u.2.2]) := upd_same
    refine ⟨p, q, v.2.1, v.2.2, u.2.1, u.2.2, e, rfl, sq _ _ hP, hQ, pv', pu, he, bv, bu, fun H1 s1 => ⟨_, rfl, ?_⟩⟩
    have s01 := sp'.trans (sq.trans s1)
    have k1 := k _ s01
    unfold betw at k1
    have hA2 := s01 _ _ hA
    have hB2 := s01 _ _ hB
    refine ite2 (fun c => ?_) fun c => ?_
    · rw [if_pos (of_decide_eq_true c)] at k1
      exact ⟨_, rfl, b, _, 0, _, rfl, rfl, SqL.of hB2, atI_nat (j := 0) rfl, _, rfl, a, _, 0, _, rfl, rfl, SqL.of hA2, atI_nat (j := 0) rfl, _, _, rfl, rfl, _, _, rfl, rfl, k1⟩
    · rw [if_neg (fun z => c (decide_eq_true z))] at k1
      exact ⟨_, rfl, b, _, 0, _, rfl, rfl, SqL.of hB2, atI_nat (j := 0) rfl, _, rfl, a, _, 0, _, rfl, rfl, SqL.of hA2, atI_nat (j := 0) rfl, _, _, rfl, rfl, k1⟩
end
abbrev sSquare : Stmt := top 6
theorem scSquare : FnScope ["number"] ["number"] (defScope sSquare) := ⟨rfl, rfl, rfl, by decide +kernel, rfl, by decide +kernel, by decide +kernel⟩
def spSquare : Sp := fun vs H Q _ => ∃ (n : Int) (k : Nat), vs = [.int n] ∧ 0 < k ∧ k ≤ 8000 ∧ n.natAbs < 2 ^ k ∧ Q (.int (n * n)) H
section
variable {P : Program} {w : World} {K : PySem.W.Frag} {mg : Str → Option Value} {base : Heap}
theorem ok_Square {f : Addr} {fd : FuncData} (F : Fun K "square" "square" sSquare f fd) : FnOk P w K mg base CX0 1 f fd ["number"] spSquare := by
  refine F.ok scSquare (fun vs H Q E h => ?_) (fun cdv A outer s H vs Q E hr h => ?_)
  · obtain ⟨n, k, rfl, _⟩ := h
    rfl
  · obtain ⟨n, k, rfl, k0, k8, hn, q⟩ := h
    refine ⟨_, pss_one (ps_ret (pe_op op_mulW (pv 0) (pv 0))), ?_⟩
    exact ⟨_, rfl, _, rfl, _, _, rfl, rfl, wide_mul hn hn k0 k0 (by omega), q⟩
end
abbrev sDoubled : Stmt := top 7
theorem scDoubled : FnScope ["angle", "times", "half_turns", "above", "below", "turn", "twice"] ["angle", "times"] (defScope sDoubled) := ⟨rfl, rfl, rfl, by decide +kernel, rfl, by decide +kernel, by decide +kernel⟩
def spDoubled (K : PySem.W.Frag) : Sp := fun vs H Q _ => ∃ (a : Addr) (n x w : Int) (t : Nat), vs = [.ref a, .int (t : Int)] ∧ H a = some (.lst [V.int n, V.int x, V.int w]) ∧ 0 < w ∧ -w ≤ x ∧ x ≤ w ∧ w.natAbs < 2 ^ 22 ∧ t ≤ 7 ∧
  ∀ (H' : Hp) (l : Addr), Same H H' → H' l = some (.lst [V.int (dbl t n x w).1, V.int (dbl t n x w).2.1, V.int (dbl t n x w).2.2]) → Q (.ref l) H'
theorem small_exp : ∀ {i : Nat}, i < 7 → 0 < 22 * 2 ^ i ∧ 22 * 2 ^ i ≤ 8000
  | 0, _ => by decide
  | 1, _ => by decide
  | 2, _ => by decide
  | 3, _ => by decide
  | 4, _ => by decide
  | 5, _ => by decide
  | 6, _ => by decide
  | i + 7, h => by omega
theorem next_exp (i : Nat) : 2 * (22 * 2 ^ i) = 22 * 2 ^ (i + 1) := by
  rw [Nat.pow_succ]
  omega
section
variable {P : Program} {w : World} {K : PySem.W.Frag} {mg : Str → Option Value} {base : Heap}
theorem ok_Doubled {f fSquare : Addr} {fd fdSquare : FuncData} (F : Fun K "doubled" "doubled" sDoubled f fd)
    (FSquare : Fun K "square" "square" sSquare fSquare fdSquare) (bSquare : Binds K fdSquare ["number"] []) (gSquare : mg "square" = some (.ref fSquare)) (nRange : mg "range" = none) : FnOk P w K mg base CX0 2 f fd ["angle", "times"] (spDoubled K) := by
  have OSquare : FnOk P w K mg base CX0 1 fSquare fdSquare ["number"] spSquare := ok_Square FSquare
  refine F.ok scDoubled (fun vs H Q E h => ?_) (fun cdv A outer s H vs Q E hr h => ?_)
  · obtain ⟨a, n, x, w, t, rfl, _⟩ := h
    rfl
  · obtain ⟨a, n, x, w, t, rfl, hA, hw, h1, h2, hb, ht, k⟩ := h
    refine ⟨_, pss_cons (ps_set (i := 2) scDoubled.nd rfl (Or.inl rfl) (pe_ix ix_list (pv 0) pe_int (fun _ _ => rfl)))
      (pss_cons (ps_set (i := 3) scDoubled.nd rfl (Or.inl rfl) (pe_ix ix_list (pv 0) pe_int (fun _ _ => rfl)))
      (pss_cons (ps_set (i := 4) scDoubled.nd rfl (Or.inl rfl) (pe_ix ix_list (pv 0) pe_int (fun _ _ => rfl)))
      (pss_cons (ps_for PassesOwn.never rfl (pi_range1 rfl nRange (pa_cons (pv 1) pa_nil)) (pg_name (i := 5) scDoubled.nd rfl (Or.inl rfl))
        (pss_cons (ps_set (i := 2) scDoubled.nd rfl (Or.inl rfl) (pe_op op_mul pe_int (pv 2)))
        (pss_cons (ps_set (i := 6) scDoubled.nd rfl (Or.inl rfl) (pe_op op_sub (pe_op op_mul pe_int (pe_call OSquare hr rfl gSquare FSquare.kp bSquare .nil pass0 (pa_cons (pv 3) pa_nil))) (pe_call OSquare hr rfl gSquare FSquare.kp bSquare .nil pass0 (pa_cons (pv 4) pa_nil))))
        (pss_cons (ps_if (pt_cmpR op_le (pv 3) pe_int (nomark _)) (pss_cons (ps_set (i := 2) scDoubled.nd rfl (Or.inl rfl) (pe_op op_add (pv 2) pe_int)) (pss_one (ps_set (i := 6) scDoubled.nd rfl (Or.inl rfl) (pe_un un_neg (pv 6))))) pss_nil)
        (pss_cons (ps_set (i := 3) scDoubled.nd rfl (Or.inl rfl) (pv 6))
        (pss_one (ps_set (i := 4) scDoubled.nd rfl (Or.inl rfl) (pe_call OSquare hr rfl gSquare FSquare.kp bSquare .nil pass0 (pa_cons (pv 4) pa_nil)))))))))
      (pss_one (ps_ret (pe_lst (pa_cons (pv 2) (pa_cons (pv 3) (pa_cons (pv 4) pa_nil))))))))), ?_⟩
    refine ⟨_, rfl, a, _, 0, _, rfl, rfl, SqL.of hA, atI_nat (j := 0) rfl, _, rfl, a, _, 1, _, rfl, rfl, SqL.of hA, atI_nat (j := 1) rfl, _, rfl, a, _, 2, _, rfl, rfl, SqL.of hA, atI_nat (j := 2) rfl, ?_⟩
    refine ⟨_, rfl, (t : Int), rfl, (by omega), (by omega), for_range (n := t) (fun i σ H' => H' = H ∧ i ≤ t ∧ ∃ (n' x' w' : Int) (r5 r6 : Option V), σ = [some (.ref a), some (.int (t : Int)), some (.int n'), some (.int x'), some (.int w'), r5, r6] ∧
        dbl (t - i) n' x' w' = dbl t n x w ∧ 0 < w' ∧ -w' ≤ x' ∧ x' ≤ w' ∧ w'.natAbs < 2 ^ (22 * 2 ^ i)) ⟨rfl, Nat.zero_le _, n, x, w, _, _, rfl, rfl, hw, h1, h2, hb⟩ ?_ ?_⟩
    · rintro i σ H' hi ⟨rfl, _, n', x', w', r5, r6, rfl, dd, hw', h1', h2', hb'⟩
      obtain ⟨j1, j2, j3⟩ := dbl_in hw' h1' h2'
      obtain ⟨e0, e8⟩ := small_exp (i := i) (by omega)
      have hx' : x'.natAbs < 2 ^ (22 * 2 ^ i) := Nat.lt_of_le_of_lt (by omega) hb'
      rw [show t - i = (t - (i + 1)) + 1 by omega, dbl] at dd
      have hb2 := sq_size hb'
      rw [next_exp] at hb2
      refine ⟨_, rfl, _, _, rfl, rfl, .inl (by decide), ?_⟩
      refine ⟨_, rfl, _, _, rfl, e0, e8, hx', _, _, rfl, rfl, .inl (by decide), ?_⟩
      refine ⟨_, rfl, _, _, rfl, e0, e8, hb', _, _, rfl, rfl, ?_⟩
      refine ⟨_, rfl, _, _, rfl, rfl, _, rfl, ite2 (fun c => ?_) fun c => ?_⟩
      · have c' : x' ≤ 0 := of_decide_eq_true c
        rw [if_pos c'] at dd j2 j3
        rw [if_pos c'] at dd
        refine ⟨_, rfl, _, _, rfl, rfl, _, rfl, _, rfl, _, rfl, ?_⟩
        refine ⟨_, rfl, _, _, rfl, e0, e8, hb', rfl, by omega, _, _, _, _, _, rfl, dd, j1, j2, j3, hb2⟩
      · have c' : ¬ x' ≤ 0 := fun z => c (decide_eq_true z)
        rw [if_neg c'] at dd j2 j3
        rw [if_neg c'] at dd
        refine ⟨_, rfl, ?_⟩
        refine ⟨_, rfl, _, _, rfl, e0, e8, hb', rfl, by omega, _, _, _, _, _, rfl, dd, j1, j2, j3, hb2⟩
    · rintro σ H' ⟨rfl, _, n', x', w', r5, r6, rfl, dd, _⟩
      rw [Nat.sub_self, dbl] at dd
      refine ⟨_, rfl, _, rfl, _, rfl, (by show 3 ≤ sizeLine; decide), fun l hl => k _ l (Same.new hl) ?_⟩
      rw [upd_same, ← dd]
end
abbrev sSwing : Stmt := top 1
theorem scSwing : FnScope ["g", "a", "c", "r", "which", "m", "lengths", "folded", "stretched", "first", "last"] ["g", "a", "c", "r", "which", "m"] (defScope sSwing) := ⟨rfl, rfl, rfl, by decide +kernel, rfl, by decide +kernel, by decide +kernel⟩
def spSwing : Sp := fun vs H Q _ => ∃ (G A C R w m : Nat), vs = [.int (G : Int), .int (A : Int), .int (C : Int), .int (R : Int), .int (w : Int), .int (m : Int)] ∧ ∀ (H' : Hp) (l : Addr), H' l = some (.lst ((PyWqapbt.swing G A C R w m).map V.int)) → Q (.ref l) H'
theorem in18 {n : Nat} : (decide (1 ≤ (n : Int)) && decide ((n : Int) ≤ 8)) = decide (1 ≤ n ∧ n ≤ 8) := by
  rw [Bool.eq_iff_iff, Bool.and_eq_true, decide_eq_true_iff, decide_eq_true_iff, decide_eq_true_iff]
  omega
/-- the sizes of a told fraction -/
theorem told_size {X N : Int} (hN : 0 < N) (h1 : X < N) (h2 : -N < X) (hb : N < 4194304) {x : Rat} (e : x = Rat.divInt X N) : (0 : Int) < x.den ∧ -(x.den : Int) ≤ x.num ∧ x.num ≤ x.den ∧ ((x.den : Nat) : Int).natAbs < 2 ^ 22 := by
  obtain ⟨_, a, b, c, d⟩ := low_terms hN h1 h2 e
  exact ⟨a, by omega, by omega, by show _ < 4194304; omega⟩
theorem dbl_fits {k : Nat} {n x w : Int} (hk : k ≤ 7) (h0 : 0 < w) (h1 : -w ≤ x) (h2 : x ≤ w) (hb : w.natAbs < 2 ^ 22) : 0 < (dbl k n x w).2.2 ∧ (dbl k n x w).2.2.natAbs < 2 ^ 3000 := by
  obtain ⟨a, b⟩ := dbl_size k (n := n) h0 h1 h2 hb
  refine ⟨a, size_up b ?_⟩
  have : 2 ^ k ≤ 2 ^ 7 := Nat.pow_le_pow_right (by decide) hk
  omega
section
variable {P : Program} {w : World} {K : PySem.W.Frag} {mg : Str → Option Value} {base : Heap}
theorem ok_Swing {f fLens fChoice fKindOf fWayIn fCommon fFraction fCosine fGreater fBetween fSquare fDoubled : Addr} {fd fdLens fdChoice fdKindOf fdWayIn fdCommon fdFraction fdCosine fdGreater fdBetween fdSquare fdDoubled : FuncData} (F : Fun K "swing" "swing" sSwing f fd)
    (FLens : Fun K "are_lengths" "are_lengths" sLens fLens fdLens) (bLens : Binds K fdLens ["lengths"] []) (gLens : mg "are_lengths" = some (.ref fLens))
    (FChoice : Fun K "is_choice" "is_choice" sChoice fChoice fdChoice) (bChoice : Binds K fdChoice ["number"] []) (gChoice : mg "is_choice" = some (.ref fChoice))
    (FKindOf : Fun K "kind_of" "kind_of" sKindOf fKindOf fdKindOf) (bKindOf : Binds K fdKindOf ["lengths"] []) (gKindOf : mg "kind_of" = some (.ref fKindOf))
    (FWayIn : Fun K "way_in_line" "way_in_line" sWayIn fWayIn fdWayIn) (bWayIn : Binds K fdWayIn ["bar", "another", "folded"] []) (gWayIn : mg "way_in_line" = some (.ref fWayIn))
    (FCommon : Fun K "common_part" "common_part" sCommon fCommon fdCommon) (bCommon : Binds K fdCommon ["one", "another"] []) (gCommon : mg "common_part" = some (.ref fCommon))
    (FFraction : Fun K "fraction" "fraction" sFraction fFraction fdFraction) (bFraction : Binds K fdFraction ["above", "below"] []) (gFraction : mg "fraction" = some (.ref fFraction))
    (FCosine : Fun K "cosine" "cosine" sCosine fCosine fdCosine) (bCosine : Binds K fdCosine ["one", "another", "across"] []) (gCosine : mg "cosine" = some (.ref fCosine))
    (FGreater : Fun K "is_greater" "is_greater" sGreater fGreater fdGreater) (bGreater : Binds K fdGreater ["fraction_one", "fraction_two"] []) (gGreater : mg "is_greater" = some (.ref fGreater))
    (FBetween : Fun K "half_turns_between" "half_turns_between" sBetween fBetween fdBetween) (bBetween : Binds K fdBetween ["first", "last"] []) (gBetween : mg "half_turns_between" = some (.ref fBetween))
    (FSquare : Fun K "square" "square" sSquare fSquare fdSquare) (bSquare : Binds K fdSquare ["number"] []) (gSquare : mg "square" = some (.ref fSquare))
    (FDoubled : Fun K "doubled" "doubled" sDoubled fDoubled fdDoubled) (bDoubled : Binds K fdDoubled ["angle", "times"] []) (gDoubled : mg "doubled" = some (.ref fDoubled)) (nAll : mg "all" = none) (nMax : mg "max" = none) (nMin : mg "min" = none) (nSum : mg "sum" = none) (nAbs : mg "abs" = none) (nRange : mg "range" = none) : FnOk P w K mg base CX0 4 f fd ["g", "a", "c", "r", "which", "m"] spSwing := by
  have OLens : FnOk P w K mg base CX0 1 fLens fdLens ["lengths"] (spLens K) := ok_Lens FLens nAll
  have OChoice : FnOk P w K mg base CX0 1 fChoice fdChoice ["number"] spChoice := ok_Choice FChoice
  have OKindOf : FnOk P w K mg base CX0 1 fKindOf fdKindOf ["lengths"] (spKindOf K) := ok_KindOf FKindOf nMax nMin nSum
  have OWayIn : FnOk P w K mg base CX0 1 fWayIn fdWayIn ["bar", "another", "folded"] spWayIn := ok_WayIn FWayIn
  have OCosine : FnOk P w K mg base CX0 3 fCosine fdCosine ["one", "another", "across"] spCosine := ok_Cosine FCosine FCommon bCommon gCommon FFraction bFraction gFraction nAbs
  have OBetween : FnOk P w K mg base CX0 2 fBetween fdBetween ["first", "last"] spBetween := ok_Between FBetween FGreater bGreater gGreater
  have ODoubled : FnOk P w K mg base CX0 2 fDoubled fdDoubled ["angle", "times"] (spDoubled K) := ok_Doubled FDoubled FSquare bSquare gSquare nRange
  refine F.ok scSwing (fun vs H Q E h => ?_) (fun cdv A outer s H vs Q E hr h => ?_)
  · obtain ⟨G, A, C, R, w, m, rfl, _⟩ := h
    rfl
  · obtain ⟨G, A, C, R, wi, m, rfl, k⟩ := h
    refine ⟨_, pss_cons (ps_set (i := 6) scSwing.nd rfl (Or.inl rfl) (pe_lst (pa_cons (pv 0) (pa_cons (pv 1) (pa_cons (pv 2) (pa_cons (pv 3) pa_nil))))))
      (pss_cons (ps_if (PW.pt (pw_or (pt_not (pt_val (pe_call OLens (hr.mono (by decide)) rfl gLens FLens.kp bLens .nil pass0 (pa_cons (pv 6) pa_nil)))) (pw_or (pt_not (pt_val (pe_call OChoice (hr.mono (by decide)) rfl gChoice FChoice.kp bChoice .nil pass0 (pa_cons (pv 4) pa_nil)))) (pw_or1 (pt_not (pt_chain op_le op_le pe_int (pv 5) pe_int))))))
        (pss_one (ps_ret (pe_lst (pa_cons (pe_un un_neg pe_int) pa_nil)))) pss_nil)
      (pss_cons (ps_if (pt_cmpR op_ne (pe_call OKindOf (hr.mono (by decide)) rfl gKindOf FKindOf.kp bKindOf .nil pass0 (pa_cons (pv 6) pa_nil)) pe_int (nomark _)) (pss_one (ps_ret (pe_lst (pa_cons (pe_un un_neg pe_int) pa_nil)))) pss_nil)
      (pss_cons (ps_set (i := 7) scSwing.nd rfl (Or.inl rfl) (pe_call OWayIn (hr.mono (by decide)) rfl gWayIn FWayIn.kp bWayIn .nil pass0 (pa_cons (pv 2) (pa_cons (pv 1) (pa_cons pe_int pa_nil)))))
      (pss_cons (ps_set (i := 8) scSwing.nd rfl (Or.inl rfl) (pe_call OWayIn (hr.mono (by decide)) rfl gWayIn FWayIn.kp bWayIn .nil pass0 (pa_cons (pv 2) (pa_cons (pv 1) (pa_cons pe_int pa_nil)))))
      (pss_cons (ps_if (pt_cmpR op_eq (pv 4) pe_int (nomark _))
        (pss_cons (ps_set (i := 9) scSwing.nd rfl (Or.inl rfl) (pe_op op_cat (pe_lst (pa_cons pe_int pa_nil)) (pe_call OCosine hr rfl gCosine FCosine.kp bCosine .nil pass0 (pa_cons (pv 0) (pa_cons (pv 3) (pa_cons (pv 7) pa_nil))))))
        (pss_one (ps_set (i := 10) scSwing.nd rfl (Or.inl rfl) (pe_op op_cat (pe_lst (pa_cons pe_int pa_nil)) (pe_call OCosine hr rfl gCosine FCosine.kp bCosine .nil pass0 (pa_cons (pv 0) (pa_cons (pv 3) (pa_cons (pv 8) pa_nil))))))))
        (pss_cons (ps_set (i := 9) scSwing.nd rfl (Or.inl rfl) (pe_op op_cat (pe_lst (pa_cons pe_int pa_nil)) (pe_call OCosine hr rfl gCosine FCosine.kp bCosine .nil pass0 (pa_cons (pv 0) (pa_cons (pv 8) (pa_cons (pv 3) pa_nil))))))
        (pss_one (ps_set (i := 10) scSwing.nd rfl (Or.inl rfl) (pe_op op_cat (pe_lst (pa_cons pe_int pa_nil)) (pe_call OCosine hr rfl gCosine FCosine.kp bCosine .nil pass0 (pa_cons (pv 0) (pa_cons (pv 7) (pa_cons (pv 3) pa_nil)))))))))
      (pss_one (ps_ret (pe_lst (pa_cons pe_int (pa_cons pe_int (pa_cons (pe_call OBetween (hr.mono (by decide)) rfl gBetween FBetween.kp bBetween .nil pass0 (pa_cons (pe_call ODoubled (hr.mono (by decide)) rfl gDoubled FDoubled.kp bDoubled .nil pass0 (pa_cons (pv 9) (pa_cons (pe_op op_sub (pv 5) pe_int) pa_nil))) (pa_cons (pe_call ODoubled (hr.mono (by decide)) rfl gDoubled FDoubled.kp bDoubled .nil pass0 (pa_cons (pv 10) (pa_cons (pe_op op_sub (pv 5) pe_int) pa_nil))) pa_nil))) pa_nil))))))))))), ?_⟩
    have bad : ¬ (Good G A C R ∧ wi ≤ 1 ∧ 1 ≤ m ∧ m ≤ 8) → ∀ (H' : Hp) (l : Addr), H' l = some (.lst [V.int (-1)]) → Q (.ref l) H' := fun h H' l e => k H' l (by rw [swing_bad h]; exact e)
    refine ⟨_, rfl, _, rfl, _, rfl, _, rfl, (by show 4 ≤ sizeLine; decide), fun a ha => ?_⟩
    have hA : (upd H a (.lst (([(G : Int), (A : Int), (C : Int), (R : Int)]).map V.int))) a = some (.lst (([(G : Int), (A : Int), (C : Int), (R : Int)]).map V.int)) := upd_same
    refine ⟨_, rfl, a, _, rfl, SqL.of hA, (by show 4 ≤ 1000; decide), fun H1 s1 => ⟨_, rfl, ?_⟩⟩
    by_cases g : Good G A C R
    · rw [(all_good ..).2 g]
      refine iteF ⟨_, rfl, _, rfl, _, rfl, ?_⟩
      rw [in1']
      refine ite2 (fun c => ?_) fun c => ?_
      · have hw : ¬ wi ≤ 1 := not_t c
        exact ⟨_, rfl, (by show 1 ≤ sizeLine; decide), fun t ht => bad (fun z => hw z.2.1) _ t upd_same⟩
      have hw : wi ≤ 1 := not_f c
      refine ⟨_, rfl, _, _, rfl, rfl, _, rfl, ?_⟩
      by_cases m1 : 1 ≤ (m : Int)
      case neg =>
        rw [decide_eq_false m1]
        exact iteF ⟨_, rfl, iteT ⟨_, rfl, (by show 1 ≤ sizeLine; decide), fun t ht => bad (fun z => m1 (by omega)) _ t upd_same⟩⟩
      rw [decide_eq_true m1]
      refine iteT ⟨_, _, rfl, rfl, _, rfl, ite2 (fun c => ?_) fun c => ?_⟩
      · have m8 : ¬ (m : Int) ≤ 8 := not_t c
        exact ⟨_, rfl, (by show 1 ≤ sizeLine; decide), fun t ht => bad (fun z => m8 (by omega)) _ t upd_same⟩
      have m8 : (m : Int) ≤ 8 := not_f c
      rw [swing_good g ⟨hw, by omega, by omega⟩] at k
      refine ⟨_, rfl, a, G, A, C, R, rfl, s1.seq (SqL.of hA), rfl, _, rfl, ite2 (fun c => ?_) fun c => ?_⟩
      · have k3 : LkFour.Four.kind ⟨G, A, C, R⟩ ≠ 3 := fun z => not_t c (congrArg (fun n : Nat => V.int (n : Int)) z)
        rw [if_pos k3] at k
        exact ⟨_, rfl, (by show 1 ≤ sizeLine; decide), fun t ht => k _ t upd_same⟩
      have k3 : LkFour.Four.kind ⟨G, A, C, R⟩ = 3 := Int.ofNat.inj (V.int.inj (not_f c))
      rw [if_neg (fun z => z k3)] at k
      obtain ⟨⟨g1, g2⟩, ⟨g3, g4⟩, ⟨g5, g6⟩, g7, g8⟩ := g
      obtain ⟨gp, rp, cp, ⟨rs1, rs2⟩, ⟨rf1, rf2⟩, ⟨cs1, cs2⟩, ⟨cf1, cf2⟩⟩ := three_facts k3 g3
      have np : (0 : Int) < 2 * G * R := Int.mul_pos (by omega) rp
      have pp : (0 : Int) < 2 * G * (C + A) := Int.mul_pos (by omega) (by omega)
      have mp : (0 : Int) < 2 * G * (C - A) := Int.mul_pos (by omega) cp
      have nb : (2 : Int) * G * R < 4194304 := by
        have q : G * R ≤ 999 * 999 := Nat.mul_le_mul g2 g8
        have e : (2 : Int) * G * R = 2 * ((G * R : Nat) : Int) := by rw [Int.natCast_mul, Int.mul_assoc]
        omega
      have pb : (2 : Int) * G * (C + A) < 4194304 := by
        have q : G * (C + A) ≤ 999 * 1998 := Nat.mul_le_mul g2 (by omega)
        have e : (2 : Int) * G * (C + A) = 2 * ((G * (C + A) : Nat) : Int) := by rw [Int.natCast_mul, Int.natCast_add, Int.mul_assoc]
        omega
      have mb : (2 : Int) * G * (C - A) < 4194304 := by
        have q : G * (C - A) ≤ 999 * 999 := Nat.mul_le_mul g2 (by omega)
        have d : ((C - A : Nat) : Int) = (C : Int) - A := by omega
        have e : (2 : Int) * G * (C - A) = 2 * ((G * (C - A) : Nat) : Int) := by rw [Int.natCast_mul, d, Int.mul_assoc]
        omega
      have gn : (G : Int) ≠ 0 := by omega
      have rn : (R : Int) ≠ 0 := by omega
      have cpn : (C : Int) + A ≠ 0 := by omega
      have cmn : (C : Int) - A ≠ 0 := by omega
      have gb : (G : Int).natAbs ≤ 2000 := by omega
      have rb : (R : Int).natAbs ≤ 2000 := by omega
      have cpb : ((C : Int) + A).natAbs ≤ 2000 := by omega
      have cmb : ((C : Int) - A).natAbs ≤ 2000 := by omega
      have hm1 : (m : Int) - 1 = ((m - 1 : Nat) : Int) := by omega
      have times1 : ∀ {f : Addr}, [V.ref f, V.int ((m : Int) - 1)] = [V.ref f, V.int ((m - 1 : Nat) : Int)] := by rw [hm1]; intro f; rfl
      refine ⟨_, rfl, _, rfl, _, _, _, rfl, ?_⟩
      rw [show wayZ (C : Int) A 1 = (C : Int) - A from if_pos rfl]
      refine ⟨_, rfl, _, rfl, _, _, _, rfl, ?_⟩
      rw [show wayZ (C : Int) A 0 = (C : Int) + A from if_neg (by decide)]
      refine ⟨_, rfl, rfl, _, rfl, ite2 (fun c => ?_) fun c => ?_⟩
      · have w0' : wi = 0 := Int.ofNat.inj (V.int.inj (of_decide_eq_true c))
        refine ⟨(by show 1 ≤ sizeLine; decide), fun t ht => ?_⟩
        have hT : (upd H1 t (.lst [V.int 0])) t = some (.lst [V.int 0]) := upd_same
        refine ⟨_, rfl, _, rfl, _, rfl, _, _, _, rfl, gn, rn, gb, rb, cmb, fun H5 x5 s5 hx5 => ?_⟩
        have hT5 := s5 _ _ hT
        refine ⟨t, x5, _, _, rfl, rfl, hT5, hx5, (by show 3 ≤ sizeLine; decide), fun f hf => ?_⟩
        have hF : (upd H5 f (.lst ([V.int 0] ++ (LkDSpec.two (cosZ G R ((C : Int) - A))).map V.int))) f = some (.lst [V.int 0, V.int (cosZ G R ((C : Int) - A)).num, V.int (((cosZ G R ((C : Int) - A)).den : Nat) : Int)]) := upd_same
        generalize (upd H5 f (.lst ([V.int 0] ++ (LkDSpec.two (cosZ G R ((C : Int) - A))).map V.int))) = H6 at hF ⊢
        refine ⟨(by show 1 ≤ sizeLine; decide), fun t6 ht6 => ?_⟩
        have hT6 : (upd H6 t6 (.lst [V.int 0])) t6 = some (.lst [V.int 0]) := upd_same
        have s6 := Same.new (o := .lst [V.int 0]) ht6
        refine ⟨_, rfl, _, rfl, _, rfl, _, _, _, rfl, gn, rn, gb, rb, cpb, fun H7 x7 s7 hx7 => ?_⟩
        have hT7 := s7 _ _ hT6
        refine ⟨t6, x7, _, _, rfl, rfl, hT7, hx7, (by show 3 ≤ sizeLine; decide), fun l hl => ?_⟩
        have s8 := Same.new (o := .lst ([V.int 0] ++ (LkDSpec.two (cosZ G R ((C : Int) + A))).map V.int)) hl
        have hF8 := s8 _ _ (s7 _ _ (s6 _ _ hF))
        have hL : (upd H7 l (.lst ([V.int 0] ++ (LkDSpec.two (cosZ G R ((C : Int) + A))).map V.int))) l = some (.lst [V.int 0, V.int (cosZ G R ((C : Int) + A)).num, V.int (((cosZ G R ((C : Int) + A)).den : Nat) : Int)]) := upd_same
        generalize (upd H7 l (.lst ([V.int 0] ++ (LkDSpec.two (cosZ G R ((C : Int) + A))).map V.int))) = H8 at hF8 hL ⊢
        have res : ((LkFour.Four.swing ⟨G, A, C, R⟩ wi m : Nat) : Int) = betw (dbl (m - 1) 0 (cosZ G R ((C : Int) - A)).num (cosZ G R ((C : Int) - A)).den) (dbl (m - 1) 0 (cosZ G R ((C : Int) + A)).num (cosZ G R ((C : Int) + A)).den) := by
          have r := swing_rocks (k := m - 1) k3 g3 (x := cosZ G R ((C : Int) + A)) (y := cosZ G R ((C : Int) - A)) rfl rfl
          rw [show m - 1 + 1 = m by omega] at r
          rw [w0']
          exact r
        obtain ⟨y0, y1, y2, y3⟩ := told_size np rf2 rf1 nb (x := cosZ G R ((C : Int) - A)) rfl
        obtain ⟨x0, x1, x2, x3⟩ := told_size np rs2 rs1 nb (x := cosZ G R ((C : Int) + A)) rfl
        generalize cosZ G R ((C : Int) - A) = y at res hF8 y0 y1 y2 y3
        generalize cosZ G R ((C : Int) + A) = x at res hL x0 x1 x2 x3
        rw [res] at k
        obtain ⟨yp, yb⟩ := dbl_fits (k := m - 1) (n := 0) (by omega) y0 y1 y2 y3
        obtain ⟨xp, xb⟩ := dbl_fits (k := m - 1) (n := 0) (by omega) x0 x1 x2 x3
        refine ⟨_, rfl, _, rfl, _, _, rfl, rfl, f, 0, y.num, y.den, m - 1, times1, hF8, y0, y1, y2, y3, by omega, fun H9 f9 s9 hf9 => ?_⟩
        have hL9 := s9 _ _ hL
        refine ⟨_, rfl, _, rfl, _, _, rfl, rfl, l, 0, x.num, x.den, m - 1, times1, hL9, x0, x1, x2, x3, by omega, fun HA la sA hla => ?_⟩
        have hfA := sA _ _ hf9
        refine ⟨f9, la, dbl (m - 1) 0 y.num y.den, dbl (m - 1) 0 x.num x.den, 3000, rfl, hfA, hla, yp, xp, ⟨by decide, by decide⟩, yb, xb, fun HB sB => ?_⟩
        exact ⟨(by show 3 ≤ sizeLine; decide), fun q hq => k _ q upd_same⟩
      · have w1' : wi = 1 := by
          have : wi ≠ 0 := fun z => c (decide_eq_true (congrArg (fun n : Nat => V.int (n : Int)) z))
          omega
        refine ⟨(by show 1 ≤ sizeLine; decide), fun t ht => ?_⟩
        have hT : (upd H1 t (.lst [V.int 0])) t = some (.lst [V.int 0]) := upd_same
        refine ⟨_, rfl, _, rfl, _, rfl, _, _, _, rfl, gn, cpn, gb, cpb, rb, fun H5 x5 s5 hx5 => ?_⟩
        have hT5 := s5 _ _ hT
        refine ⟨t, x5, _, _, rfl, rfl, hT5, hx5, (by show 3 ≤ sizeLine; decide), fun f hf => ?_⟩
        have hF : (upd H5 f (.lst ([V.int 0] ++ (LkDSpec.two (cosZ G ((C : Int) + A) R)).map V.int))) f = some (.lst [V.int 0, V.int (cosZ G ((C : Int) + A) R).num, V.int (((cosZ G ((C : Int) + A) R).den : Nat) : Int)]) := upd_same
        generalize (upd H5 f (.lst ([V.int 0] ++ (LkDSpec.two (cosZ G ((C : Int) + A) R)).map V.int))) = H6 at hF ⊢
        refine ⟨(by show 1 ≤ sizeLine; decide), fun t6 ht6 => ?_⟩
        have hT6 : (upd H6 t6 (.lst [V.int 1])) t6 = some (.lst [V.int 1]) := upd_same
        have s6 := Same.new (o := .lst [V.int 1]) ht6
        refine ⟨_, rfl, _, rfl, _, rfl, _, _, _, rfl, gn, cmn, gb, cmb, rb, fun H7 x7 s7 hx7 => ?_⟩
        have hT7 := s7 _ _ hT6
        refine ⟨t6, x7, _, _, rfl, rfl, hT7, hx7, (by show 3 ≤ sizeLine; decide), fun l hl => ?_⟩
        have s8 := Same.new (o := .lst ([V.int 1] ++ (LkDSpec.two (cosZ G ((C : Int) - A) R)).map V.int)) hl
        have hF8 := s8 _ _ (s7 _ _ (s6 _ _ hF))
        have hL : (upd H7 l (.lst ([V.int 1] ++ (LkDSpec.two (cosZ G ((C : Int) - A) R)).map V.int))) l = some (.lst [V.int 1, V.int (cosZ G ((C : Int) - A) R).num, V.int (((cosZ G ((C : Int) - A) R).den : Nat) : Int)]) := upd_same
        generalize (upd H7 l (.lst ([V.int 1] ++ (LkDSpec.two (cosZ G ((C : Int) - A) R)).map V.int))) = H8 at hF8 hL ⊢
        have res : ((LkFour.Four.swing ⟨G, A, C, R⟩ wi m : Nat) : Int) = betw (dbl (m - 1) 0 (cosZ G ((C : Int) + A) R).num (cosZ G ((C : Int) + A) R).den) (dbl (m - 1) 1 (cosZ G ((C : Int) - A) R).num (cosZ G ((C : Int) - A) R).den) := by
          have r := swing_cranks (k := m - 1) k3 g3 (x := cosZ G ((C : Int) + A) R) (y := cosZ G ((C : Int) - A) R) rfl rfl
          rw [show m - 1 + 1 = m by omega] at r
          rw [w1']
          exact r
        obtain ⟨y0, y1, y2, y3⟩ := told_size pp cs2 cs1 pb (x := cosZ G ((C : Int) + A) R) rfl
        obtain ⟨x0, x1, x2, x3⟩ := told_size mp cf2 cf1 mb (x := cosZ G ((C : Int) - A) R) rfl
        generalize cosZ G ((C : Int) + A) R = y at res hF8 y0 y1 y2 y3
        generalize cosZ G ((C : Int) - A) R = x at res hL x0 x1 x2 x3
        rw [res] at k
        obtain ⟨yp, yb⟩ := dbl_fits (k := m - 1) (n := 0) (by omega) y0 y1 y2 y3
        obtain ⟨xp, xb⟩ := dbl_fits (k := m - 1) (n := 1) (by omega) x0 x1 x2 x3
        refine ⟨_, rfl, _, rfl, _, _, rfl, rfl, f, 0, y.num, y.den, m - 1, times1, hF8, y0, y1, y2, y3, by omega, fun H9 f9 s9 hf9 => ?_⟩
        have hL9 := s9 _ _ hL
        refine ⟨_, rfl, _, rfl, _, _, rfl, rfl, l, 1, x.num, x.den, m - 1, times1, hL9, x0, x1, x2, x3, by omega, fun HA la sA hla => ?_⟩
        have hfA := sA _ _ hf9
        refine ⟨f9, la, dbl (m - 1) 0 y.num y.den, dbl (m - 1) 1 x.num x.den, 3000, rfl, hfA, hla, yp, xp, ⟨by decide, by decide⟩, yb, xb, fun HB sB => ?_⟩
        exact ⟨(by show 3 ≤ sizeLine; decide), fun q hq => k _ q upd_same⟩
    · have e : ([(G : Int), (A : Int), (C : Int), (R : Int)]).all okLen = false := by
        rw [Bool.eq_false_iff]
        exact fun q => g ((all_good ..).1 q)
      rw [e]
      exact iteT (iteT ⟨_, rfl, (by show 1 ≤ sizeLine; decide), fun t ht => bad (fun z => g z.1) _ t upd_same⟩)
end
section
variable {P : Program} {w : World} {K : PySem.W.Frag} {mg : Str → Option Value}
theorem all_mk {h : Heap} {fa f0 fLens fChoice fKindOf fWayIn fSquare fDoubled fBetween fGreater fCosine fFraction fCommon : Addr} (X : K.In h) (Gm : h.Ns mainGlobals mg) (hfa : mg "swing" = some (.ref fa))
    {od1 an1 od2 an2 od3 an3 od4 an4 od5 an5 od6 an6 od7 an7 od8 an8 od9 an9 od10 an10 od11 an11 od12 an12 : Option Addr} {sl1 sl2 sl3 sl4 sl5 sl6 sl7 sl8 sl9 sl10 sl11 sl12 : Array (Option Value)} {oc1 kV1 dc1 pm1 cd1 ct1 oc2 kV2 dc2 pm2 cd2 ct2 oc3 kV3 dc3 pm3 cd3 ct3 oc4 kV4 dc4 pm4 cd4 ct4 oc5 kV5 dc5 pm5 cd5 ct5 oc6 kV6 dc6 pm6 cd6 ct6 oc7 kV7 dc7 pm7 cd7 ct7 oc8 kV8 dc8 pm8 cd8 ct8 oc9 kV9 dc9 pm9 cd9 ct9 oc10 kV10 dc10 pm10 cd10 ct10 oc11 kV11 dc11 pm11 cd11 ct11 oc12 kV12 dc12 pm12 cd12 ct12 : Value}
    (a1 : PySem.W.nsIn K mainGlobals "swing" = some (some (.ref f0))) (l1 : K.lookup f0 = some ⟨oc1, od1, .func (PySem.W.fnOf "swing" "swing" (defArgs sSwing) (defBody sSwing) (defScope sSwing) .none kV1 dc1 pm1 an1 cd1 ct1), sl1⟩) (c1 : PySem.W.codeIn K cd1 "swing" = true) (k1 : PySem.W.keepIn K (.ref f0) = true)
    (a2 : PySem.W.nsIn K mainGlobals "are_lengths" = some (some (.ref fLens))) (l2 : K.lookup fLens = some ⟨oc2, od2, .func (PySem.W.fnOf "are_lengths" "are_lengths" (defArgs sLens) (defBody sLens) (defScope sLens) .none kV2 dc2 pm2 an2 cd2 ct2), sl2⟩) (c2 : PySem.W.codeIn K cd2 "are_lengths" = true) (k2 : PySem.W.keepIn K (.ref fLens) = true)
    (a3 : PySem.W.nsIn K mainGlobals "is_choice" = some (some (.ref fChoice))) (l3 : K.lookup fChoice = some ⟨oc3, od3, .func (PySem.W.fnOf "is_choice" "is_choice" (defArgs sChoice) (defBody sChoice) (defScope sChoice) .none kV3 dc3 pm3 an3 cd3 ct3), sl3⟩) (c3 : PySem.W.codeIn K cd3 "is_choice" = true) (k3 : PySem.W.keepIn K (.ref fChoice) = true)
    (a4 : PySem.W.nsIn K mainGlobals "kind_of" = some (some (.ref fKindOf))) (l4 : K.lookup fKindOf = some ⟨oc4, od4, .func (PySem.W.fnOf "kind_of" "kind_of" (defArgs sKindOf) (defBody sKindOf) (defScope sKindOf) .none kV4 dc4 pm4 an4 cd4 ct4), sl4⟩) (c4 : PySem.W.codeIn K cd4 "kind_of" = true) (k4 : PySem.W.keepIn K (.ref fKindOf) = true)
    (a5 : PySem.W.nsIn K mainGlobals "way_in_line" = some (some (.ref fWayIn))) (l5 : K.lookup fWayIn = some ⟨oc5, od5, .func (PySem.W.fnOf "way_in_line" "way_in_line" (defArgs sWayIn) (defBody sWayIn) (defScope sWayIn) .none kV5 dc5 pm5 an5 cd5 ct5), sl5⟩) (c5 : PySem.W.codeIn K cd5 "way_in_line" = true) (k5 : PySem.W.keepIn K (.ref fWayIn) = true)
    (a6 : PySem.W.nsIn K mainGlobals "square" = some (some (.ref fSquare))) (l6 : K.lookup fSquare = some ⟨oc6, od6, .func (PySem.W.fnOf "square" "square" (defArgs sSquare) (defBody sSquare) (defScope sSquare) .none kV6 dc6 pm6 an6 cd6 ct6), sl6⟩) (c6 : PySem.W.codeIn K cd6 "square" = true) (k6 : PySem.W.keepIn K (.ref fSquare) = true)
    (a7 : PySem.W.nsIn K mainGlobals "doubled" = some (some (.ref fDoubled))) (l7 : K.lookup fDoubled = some ⟨oc7, od7, .func (PySem.W.fnOf "doubled" "doubled" (defArgs sDoubled) (defBody sDoubled) (defScope sDoubled) .none kV7 dc7 pm7 an7 cd7 ct7), sl7⟩) (c7 : PySem.W.codeIn K cd7 "doubled" = true) (k7 : PySem.W.keepIn K (.ref fDoubled) = true)
    (a8 : PySem.W.nsIn K mainGlobals "half_turns_between" = some (some (.ref fBetween))) (l8 : K.lookup fBetween = some ⟨oc8, od8, .func (PySem.W.fnOf "half_turns_between" "half_turns_between" (defArgs sBetween) (defBody sBetween) (defScope sBetween) .none kV8 dc8 pm8 an8 cd8 ct8), sl8⟩) (c8 : PySem.W.codeIn K cd8 "half_turns_between" = true) (k8 : PySem.W.keepIn K (.ref fBetween) = true)
    (a9 : PySem.W.nsIn K mainGlobals "is_greater" = some (some (.ref fGreater))) (l9 : K.lookup fGreater = some ⟨oc9, od9, .func (PySem.W.fnOf "is_greater" "is_greater" (defArgs sGreater) (defBody sGreater) (defScope sGreater) .none kV9 dc9 pm9 an9 cd9 ct9), sl9⟩) (c9 : PySem.W.codeIn K cd9 "is_greater" = true) (k9 : PySem.W.keepIn K (.ref fGreater) = true)
    (a10 : PySem.W.nsIn K mainGlobals "cosine" = some (some (.ref fCosine))) (l10 : K.lookup fCosine = some ⟨oc10, od10, .func (PySem.W.fnOf "cosine" "cosine" (defArgs sCosine) (defBody sCosine) (defScope sCosine) .none kV10 dc10 pm10 an10 cd10 ct10), sl10⟩) (c10 : PySem.W.codeIn K cd10 "cosine" = true) (k10 : PySem.W.keepIn K (.ref fCosine) = true)
    (a11 : PySem.W.nsIn K mainGlobals "fraction" = some (some (.ref fFraction))) (l11 : K.lookup fFraction = some ⟨oc11, od11, .func (PySem.W.fnOf "fraction" "fraction" (defArgs sFraction) (defBody sFraction) (defScope sFraction) .none kV11 dc11 pm11 an11 cd11 ct11), sl11⟩) (c11 : PySem.W.codeIn K cd11 "fraction" = true) (k11 : PySem.W.keepIn K (.ref fFraction) = true)
    (a12 : PySem.W.nsIn K mainGlobals "common_part" = some (some (.ref fCommon))) (l12 : K.lookup fCommon = some ⟨oc12, od12, .func (PySem.W.fnOf "common_part" "common_part" (defArgs sCommon) (defBody sCommon) (defScope sCommon) .none kV12 dc12 pm12 an12 cd12 ct12), sl12⟩) (c12 : PySem.W.codeIn K cd12 "common_part" = true) (k12 : PySem.W.keepIn K (.ref fCommon) = true)
    (nAll : PySem.W.nsIn K mainGlobals "all" = some none) (nMax : PySem.W.nsIn K mainGlobals "max" = some none) (nMin : PySem.W.nsIn K mainGlobals "min" = some none) (nSum : PySem.W.nsIn K mainGlobals "sum" = some none) (nAbs : PySem.W.nsIn K mainGlobals "abs" = some none) (nRange : PySem.W.nsIn K mainGlobals "range" = some none) :
    ∃ fd : FuncData, (∀ (s : Shared) (us : List Value), us.length = (["g", "a", "c", "r", "which", "m"] : List Str).length → BindsTo s fd ⟨us, []⟩ ((["g", "a", "c", "r", "which", "m"] : List Str).zip us)) ∧ ∀ base : Heap, K.In base → base.Ns mainGlobals mg → FnOk P w K mg base CX0 4 fa fd ["g", "a", "c", "r", "which", "m"] spSwing := by
  have e := hfa.symm.trans (PySem.W.mg_of X Gm a1)
  cases e
  have F := fun_mk (st := sSwing) l1 c1 k1
  have FLens := fun_mk (st := sLens) l2 c2 k2
  have bLens := FLens.binds (ps := ["lengths"]) fun _ _ _ _ _ _ us hl => match us, hl with | [_], _ => rfl
  have gLens := PySem.W.mg_of X Gm a2
  have FChoice := fun_mk (st := sChoice) l3 c3 k3
  have bChoice := FChoice.binds (ps := ["number"]) fun _ _ _ _ _ _ us hl => match us, hl with | [_], _ => rfl
  have gChoice := PySem.W.mg_of X Gm a3
  have FKindOf := fun_mk (st := sKindOf) l4 c4 k4
  have bKindOf := FKindOf.binds (ps := ["lengths"]) fun _ _ _ _ _ _ us hl => match us, hl with | [_], _ => rfl
  have gKindOf := PySem.W.mg_of X Gm a4
  have FWayIn := fun_mk (st := sWayIn) l5 c5 k5
  have bWayIn := FWayIn.binds (ps := ["bar", "another", "folded"]) fun _ _ _ _ _ _ us hl => match us, hl with | [_, _, _], _ => rfl
  have gWayIn := PySem.W.mg_of X Gm a5
  have FSquare := fun_mk (st := sSquare) l6 c6 k6
  have bSquare := FSquare.binds (ps := ["number"]) fun _ _ _ _ _ _ us hl => match us, hl with | [_], _ => rfl
  have gSquare := PySem.W.mg_of X Gm a6
  have FDoubled := fun_mk (st := sDoubled) l7 c7 k7
  have bDoubled := FDoubled.binds (ps := ["angle", "times"]) fun _ _ _ _ _ _ us hl => match us, hl with | [_, _], _ => rfl
  have gDoubled := PySem.W.mg_of X Gm a7
  have FBetween := fun_mk (st := sBetween) l8 c8 k8
  have bBetween := FBetween.binds (ps := ["first", "last"]) fun _ _ _ _ _ _ us hl => match us, hl with | [_, _], _ => rfl
  have gBetween := PySem.W.mg_of X Gm a8
  have FGreater := fun_mk (st := sGreater) l9 c9 k9
  have bGreater := FGreater.binds (ps := ["fraction_one", "fraction_two"]) fun _ _ _ _ _ _ us hl => match us, hl with | [_, _], _ => rfl
  have gGreater := PySem.W.mg_of X Gm a9
  have FCosine := fun_mk (st := sCosine) l10 c10 k10
  have bCosine := FCosine.binds (ps := ["one", "another", "across"]) fun _ _ _ _ _ _ us hl => match us, hl with | [_, _, _], _ => rfl
  have gCosine := PySem.W.mg_of X Gm a10
  have FFraction := fun_mk (st := sFraction) l11 c11 k11
  have bFraction := FFraction.binds (ps := ["above", "below"]) fun _ _ _ _ _ _ us hl => match us, hl with | [_, _], _ => rfl
  have gFraction := PySem.W.mg_of X Gm a11
  have FCommon := fun_mk (st := sCommon) l12 c12 k12
  have bCommon := FCommon.binds (ps := ["one", "another"]) fun _ _ _ _ _ _ us hl => match us, hl with | [_, _], _ => rfl
  have gCommon := PySem.W.mg_of X Gm a12
  have nAll := PySem.W.mg_none_of X Gm nAll
  have nMax := PySem.W.mg_none_of X Gm nMax
  have nMin := PySem.W.mg_none_of X Gm nMin
  have nSum := PySem.W.mg_none_of X Gm nSum
  have nAbs := PySem.W.mg_none_of X Gm nAbs
  have nRange := PySem.W.mg_none_of X Gm nRange
  exact ⟨PySem.W.fnOf "swing" "swing" (defArgs sSwing) (defBody sSwing) (defScope sSwing) .none kV1 dc1 pm1 an1 cd1 ct1, fun s us hu => match us, hu with | [_, _, _, _, _, _], _ => .of_eq rfl,
    fun base _ _ => ok_Swing F FLens bLens gLens FChoice bChoice gChoice FKindOf bKindOf gKindOf FWayIn bWayIn gWayIn FCommon bCommon gCommon FFraction bFraction gFraction FCosine bCosine gCosine FGreater bGreater gGreater FBetween bBetween gBetween FSquare bSquare gSquare FDoubled bDoubled gDoubled nAll nMax nMin nSum nAbs nRange⟩
end
end My
open PySem PySem.W PyProof.Rows
set_option maxRecDepth 100000 in
set_option maxHeartbeats 0 in
theorem PySem.Challenge.cw_fourbars_s08_swing_holds : PySem.Challenge.rw_fourbars_s08_swing.Holds := by
  w_on; k_headS; (case hw => exact ⟨[.int 0, .int 0, .int 0, .int 0, .int 0, .int 0], by decide +kernel, by decide +kernel⟩)
  k_fillS
  refine L2.walk_specK (r := PySem.Challenge.rw_fourbars_s08_swing) (k := 4) (CX := L2.CX0) (ps := ["g", "a", "c", "r", "which", "m"]) (sp := fun _ => My.spSwing) (by decide +kernel) rfl rfl ⟨rfl, by decide, by decide⟩ (fun w h Y => PySem.W.kIn_of Y) ?F ?S (fun _ _ _ _ z => z)
  case F =>
    intro w mg fa h Y KX G hmg
    refine' My.all_mk KX G hmg ?a1 ?l1 ?c1 ?k1 ?a2 ?l2 ?c2 ?k2 ?a3 ?l3 ?c3 ?k3 ?a4 ?l4 ?c4 ?k4 ?a5 ?l5 ?c5 ?k5 ?a6 ?l6 ?c6 ?k6 ?a7 ?l7 ?c7 ?k7 ?a8 ?l8 ?c8 ?k8 ?a9 ?l9 ?c9 ?k9 ?a10 ?l10 ?c10 ?k10 ?a11 ?l11 ?c11 ?k11 ?a12 ?l12 ?c12 ?k12 ?nAll ?nMax ?nMin ?nSum ?nAbs ?nRange
    (case a1 => k_is); (case l1 => k_is); (case c1 => k_is); (case k1 => k_is)
    (case a2 => k_is); (case l2 => k_is); (case c2 => k_is); (case k2 => k_is)
    (case a3 => k_is); (case l3 => k_is); (case c3 => k_is); (case k3 => k_is)
    (case a4 => k_is); (case l4 => k_is); (case c4 => k_is); (case k4 => k_is)
    (case a5 => k_is); (case l5 => k_is); (case c5 => k_is); (case k5 => k_is)
    (case a6 => k_is); (case l6 => k_is); (case c6 => k_is); (case k6 => k_is)
    (case a7 => k_is); (case l7 => k_is); (case c7 => k_is); (case k7 => k_is)
    (case a8 => k_is); (case l8 => k_is); (case c8 => k_is); (case k8 => k_is)
    (case a9 => k_is); (case l9 => k_is); (case c9 => k_is); (case k9 => k_is)
    (case a10 => k_is); (case l10 => k_is); (case c10 => k_is); (case k10 => k_is)
    (case a11 => k_is); (case l11 => k_is); (case c11 => k_is); (case k11 => k_is)
    (case a12 => k_is); (case l12 => k_is); (case c12 => k_is); (case k12 => k_is)
    (case nAll => k_is); (case nMax => k_is); (case nMin => k_is); (case nSum => k_is); (case nAbs => k_is); (case nRange => k_is)
  case S =>
    intro K H xs a hO hwi hask hx
    obtain ⟨v0, v1, v2, v3, v4, v5, u⟩ := a
    cases hx with
    | cons h0 hx =>
      cases hx with
      | cons h1 hx =>
        cases hx with
        | cons h2 hx =>
          cases hx with
          | cons h3 hx =>
            cases hx with
            | cons h4 hx =>
              cases hx with
              | cons h5 hx =>
                cases hx
                cases h0
                cases h1
                cases h2
                cases h3
                cases h4
                cases h5
                have q : (Codec.inInt 0 9223372036854775807 v0 && (Codec.inInt 0 9223372036854775807 v1 && (Codec.inInt 0 9223372036854775807 v2 && (Codec.inInt 0 9223372036854775807 v3 && (Codec.inInt 0 9223372036854775807 v4 && (Codec.inInt 0 9223372036854775807 v5 && true)))))) = true := hwi
                simp only [Codec.inInt, Bool.and_eq_true, decide_eq_true_eq] at q
                obtain ⟨⟨q0, _⟩, ⟨q1, _⟩, ⟨q2, _⟩, ⟨q3, _⟩, ⟨q4, _⟩, ⟨q5, _⟩, _⟩ := q
                obtain ⟨V0, rfl⟩ := Int.eq_ofNat_of_zero_le q0
                obtain ⟨V1, rfl⟩ := Int.eq_ofNat_of_zero_le q1
                obtain ⟨V2, rfl⟩ := Int.eq_ofNat_of_zero_le q2
                obtain ⟨V3, rfl⟩ := Int.eq_ofNat_of_zero_le q3
                obtain ⟨V4, rfl⟩ := Int.eq_ofNat_of_zero_le q4
                obtain ⟨V5, rfl⟩ := Int.eq_ofNat_of_zero_le q5
                exact ⟨V0, V1, V2, V3, V4, V5, rfl, fun H' l hp => .lst (L2.SqL.of hp) (L2.dw_ints _)⟩
#print axioms PySem.Challenge.cw_fourbars_s08_swing_holds
