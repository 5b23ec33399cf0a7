import PyProof.Rows.All
import Wide.All
import OpenK.AllK
import Wide.FinOn
import Open.SpecLaws
import KE.OsHead
import KE.OsGo
import HandS.ForSpec
import HandS.Comp
import HandS.Wide
import PySem.Challenge.RW_fourbars_s07_drive
set_option Elab.async false
set_option maxRecDepth 100000
set_option maxHeartbeats 2000000
namespace My
open LkFour LkDSpec
def Good (G A C R : Nat) : Prop := (1 ≤ G ∧ G ≤ 999) ∧ (1 ≤ A ∧ A ≤ 999) ∧ (1 ≤ C ∧ C ≤ 999) ∧ (1 ≤ R ∧ R ≤ 999)
theorem isLength_iff (n : Nat) : LkDSpec.isLength n = true ↔ 1 ≤ n ∧ n ≤ 999 := by
  unfold LkDSpec.isLength
  rw [Bool.and_eq_true, decide_eq_true_iff, decide_eq_true_iff]
  exact Iff.rfl
theorem lengths_iff (G A C R : Nat) : LkDSpec.lengths ⟨G, A, C, R⟩ = true ↔ Good G A C R := by
  unfold LkDSpec.lengths Good
  rw [Bool.and_eq_true, Bool.and_eq_true, Bool.and_eq_true, isLength_iff, isLength_iff, isLength_iff, isLength_iff]
theorem lengths_good {G A C R : Nat} (h : Good G A C R) : LkDSpec.lengths ⟨G, A, C, R⟩ = true := (lengths_iff ..).2 h
theorem lengths_bad {G A C R : Nat} (h : ¬ Good G A C R) : LkDSpec.lengths ⟨G, A, C, R⟩ = false := by
  rw [Bool.eq_false_iff]
  exact fun e => h ((lengths_iff ..).1 e)
theorem kind_step (G A C R : Nat) : PyWqapbt.kind G A C R = Neutral.shown (LkDSpec.answer ⟨⟨G, A, C, R⟩, .kind⟩) := by
  have e : Neutral.callOf [[0, (G : Int), (A : Int), (C : Int), (R : Int)]] = some ⟨⟨G, A, C, R⟩, .kind⟩ := by
    show (if Neutral.whole [(G : Int), (A : Int), (C : Int), (R : Int)] = true then some _ else none) = _
    rw [if_pos (by simp [Neutral.whole])]
    rfl
  show (Neutral.step Neutral.start [[0, (G : Int), (A : Int), (C : Int), (R : Int)]]).2 = _
  unfold Neutral.step
  rw [e]
  rfl
theorem kind_bad {G A C R : Nat} (h : ¬ Good G A C R) : PyWqapbt.kind G A C R = [-1] := by
  rw [kind_step, LkDSpec.answer, if_pos (Or.inl (lengths_bad h))]
  rfl
theorem kind_good {G A C R : Nat} (h : Good G A C R) : PyWqapbt.kind G A C R = [((Four.kind ⟨G, A, C, R⟩ : Nat) : Int)] := by
  rw [kind_step, LkDSpec.answer, if_neg (by rw [lengths_good h]; simp [LkDSpec.fine])]
  rfl
theorem longest_is {G A C R : Nat} {l : Int} (m1 : l = G ∨ l = A ∨ l = C ∨ l = R) (m2 : (G : Int) ≤ l ∧ (A : Int) ≤ l ∧ (C : Int) ≤ l ∧ (R : Int) ≤ l) : ((Four.longest ⟨G, A, C, R⟩ : Nat) : Int) = l := by
  simp only [Four.longest]
  omega
theorem shortest_is {G A C R : Nat} {h : Int} (n1 : h = G ∨ h = A ∨ h = C ∨ h = R) (n2 : h ≤ (G : Int) ∧ h ≤ (A : Int) ∧ h ≤ (C : Int) ∧ h ≤ (R : Int)) : ((Four.shortest ⟨G, A, C, R⟩ : Nat) : Int) = h := by
  simp only [Four.shortest]
  omega
theorem place_is (G A C R h : Int) (n1 : h = G ∨ h = A ∨ h = C ∨ h = R) : ((List.idxOf h [G, A, C, R] : Nat) : Int) = if G = h then 0 else if A = h then 1 else if C = h then 2 else 3 := by
  simp only [List.idxOf_cons, List.idxOf_nil, beq_iff_eq, cond_eq_ite]
  by_cases a : G = h
  · simp [a]
  · by_cases b : A = h
    · simp [a, b]
    · by_cases c : C = h
      · simp [a, b, c]
      · have d : R = h := by omega
        simp [a, b, c, d]
/-- the kind, as the program works it out -/
def kindBy (l h s : Int) (i : Int) : Int := if l > h + (s - l - h) then 0 else if l = h + (s - l - h) then 1 else if h + l > s - l - h then 7 else if h + l = s - l - h then 6 else 2 + i
theorem kind_by {G A C R : Nat} {l h : Int} (m1 : l = G ∨ l = A ∨ l = C ∨ l = R) (m2 : (G : Int) ≤ l ∧ (A : Int) ≤ l ∧ (C : Int) ≤ l ∧ (R : Int) ≤ l)
    (n1 : h = G ∨ h = A ∨ h = C ∨ h = R) (n2 : h ≤ (G : Int) ∧ h ≤ (A : Int) ∧ h ≤ (C : Int) ∧ h ≤ (R : Int)) :
    ((Four.kind ⟨G, A, C, R⟩ : Nat) : Int) = kindBy l h (G + A + C + R) ((List.idxOf h [(G : Int), A, C, R] : Nat) : Int) := by
  have hl := longest_is m1 m2
  have hh := shortest_is n1 n2
  rw [place_is _ _ _ _ _ n1, kindBy]
  simp only [Four.kind, Four.sum]
  generalize Four.longest ⟨G, A, C, R⟩ = l' at *
  generalize Four.shortest ⟨G, A, C, R⟩ = h' at *
  subst hl hh
  have b1 : l' + h' ≤ G + A + C + R := by omega
  have q1 : ((l' : Int) > h' + ((G : Int) + A + C + R - l' - h')) ↔ h' + (G + A + C + R - l' - h') < l' := by omega
  have q2 : ((l' : Int) = h' + ((G : Int) + A + C + R - l' - h')) ↔ h' + (G + A + C + R - l' - h') = l' := by omega
  have q3 : ((h' : Int) + l' > (G : Int) + A + C + R - l' - h') ↔ ¬ (h' + l' < G + A + C + R - l' - h' ∨ h' + l' = G + A + C + R - l' - h') := by omega
  have q4 : ((h' : Int) + l' = (G : Int) + A + C + R - l' - h') ↔ h' + l' = G + A + C + R - l' - h' := by omega
  have p1 : ((G : Int) = h') ↔ G = h' := by omega
  have p2 : ((A : Int) = h') ↔ A = h' := by omega
  have p3 : ((C : Int) = h') ↔ C = h' := by omega
  simp only [q1, q2, q3, q4, p1, p2, p3]
  by_cases c1 : h' + (G + A + C + R - l' - h') < l'
  · simp [c1]
  · by_cases c2 : h' + (G + A + C + R - l' - h') = l'
    · simp [c1, c2]
    · by_cases c3 : h' + l' < G + A + C + R - l' - h'
      · have c4 : ¬ (h' + l' = G + A + C + R - l' - h') := by omega
        simp only [c1, c2, c3, c4, if_true, if_false, true_or, not_true_eq_false]
        by_cases d1 : G = h'
        · simp [d1]
        · by_cases d2 : A = h'
          · simp [d1, d2]
          · by_cases d3 : C = h' <;> simp [d1, d2, d3]
      · by_cases c4 : h' + l' = G + A + C + R - l' - h' <;> simp [c1, c2, c3, c4]
end My
namespace My
open LkFour LkDSpec
theorem full_step (G A C R p : Nat) : PyWqapbt.full G A C R p = Neutral.shown (LkDSpec.answer ⟨⟨G, A, C, R⟩, .full p⟩) := by
  have e : Neutral.callOf [[1, (G : Int), (A : Int), (C : Int), (R : Int), (p : Int)]] = some ⟨⟨G, A, C, R⟩, .full p⟩ := by
    show (if Neutral.whole [(G : Int), (A : Int), (C : Int), (R : Int), (p : Int)] = true then some _ else none) = _
    rw [if_pos (by simp [Neutral.whole])]
    rfl
  show (Neutral.step Neutral.start [[1, (G : Int), (A : Int), (C : Int), (R : Int), (p : Int)]]).2 = _
  unfold Neutral.step
  rw [e]
  rfl
theorem full_bad {G A C R p : Nat} (h : ¬ (Good G A C R ∧ p ≤ 3)) : PyWqapbt.full G A C R p = [-1] := by
  rw [full_step, LkDSpec.answer, if_pos]
  · rfl
  · by_cases g : Good G A C R
    · refine Or.inr ?_
      show decide (p ≤ 3) = false
      exact decide_eq_false (fun q => h ⟨g, q⟩)
    · exact Or.inl (lengths_bad g)
theorem full_good {G A C R p : Nat} (h : Good G A C R) (q : p ≤ 3) : PyWqapbt.full G A C R p = [if Four.kind ⟨G, A, C, R⟩ = 0 then -2 else if Four.full ⟨G, A, C, R⟩ p = true then 1 else 0] := by
  rw [full_step, LkDSpec.answer, if_neg (by rw [lengths_good h]; simp [LkDSpec.fine, q])]
  show Neutral.shown (if Four.kind ⟨G, A, C, R⟩ = 0 then LkDSpec.says (-2) else LkDSpec.says (if Four.full ⟨G, A, C, R⟩ p = true then 1 else 0)) = _
  split <;> rfl
/-- the distance of two numbers, as abs gives it -/
theorem gap_is (x y : Nat) : ((gap x y : Nat) : Int) = (((x : Int) - y).natAbs : Int) := by
  unfold gap
  omega
theorem full_at {G A C R p u v w z : Nat} (e : Four.at_ ⟨G, A, C, R⟩ p = (u, v, w, z)) : Four.full ⟨G, A, C, R⟩ p = true ↔ ((((w : Int) - z).natAbs : Int) ≤ (((u : Int) - v).natAbs : Int) ∧ (u : Int) + v ≤ (w : Int) + z) := by
  unfold Four.full
  rw [e]
  show (decide (u + v ≤ w + z) && decide (gap w z ≤ gap u v)) = true ↔ _
  rw [Bool.and_eq_true, decide_eq_true_iff, decide_eq_true_iff]
  have a := gap_is w z
  have b := gap_is u v
  omega
end My
namespace My
open LkFour LkDSpec
theorem cosine_div (u v : Nat) (sq : Int) : cosine u v sq = Rat.divInt ((u : Int) * u + (v : Int) * v - sq) (2 * u * v) := by
  rw [Rat.divInt_eq_div]
  unfold cosine
  simp only [Rat.intCast_sub, Rat.intCast_add, Rat.intCast_mul, Rat.intCast_natCast, Rat.natCast_add, Rat.natCast_mul]
  rfl
theorem two_div {n d : Int} (hd : 0 < d) : two (Rat.divInt n d) = [n / (Int.gcd d n : Int), d / (Int.gcd d n : Int)] := by
  unfold two
  have e : ((d.natAbs / d.gcd n : Nat) : Int) = d / (Int.gcd d n : Int) := by
    rw [Int.natCast_ediv, Int.natAbs_of_nonneg (Int.le_of_lt hd)]
  rw [Rat.num_divInt, Rat.den_divInt, if_neg (show ¬ d = 0 by omega), Int.sign_eq_one_of_pos hd, Int.one_mul, e]
/-- a fraction in lowest terms is told as it stands -/
theorem two_low {n d a b : Int} (hb : 0 < b) (hd : d ≠ 0) (e : a * d = n * b) (g : Int.gcd a b = 1) : two (Rat.divInt n d) = [a, b] := by
  have h : Rat.divInt n d = Rat.divInt a b := (Rat.divInt_eq_divInt_iff hd (by omega)).2 e.symm
  rw [h, two_div hb, Int.gcd_comm, g]
  simp
/-- divided by any common measure that is the greatest -/
theorem two_by {n d k : Int} (hd : 0 < d) (hk : k = (Int.gcd n d : Int)) : two (Rat.divInt n d) = [n / k, d / k] := by
  rw [two_div hd, hk, Int.gcd_comm]
end My
namespace My
open LkFour LkDSpec
theorem frac_div (x y z e k : Int) : ((x * x + y - z : Rat) / (2 * e * k : Rat)) = Rat.divInt (x * x + y - z) (2 * e * k) := by
  rw [Rat.divInt_eq_div]
  simp only [Rat.intCast_sub, Rat.intCast_add, Rat.intCast_mul]
  rfl
theorem line_opp {f : Four} {pin : Nat} {fo : Bool} {o u v w z : Nat} {d : Int} (e : f.at_ pin = (u, v, w, z)) (ed : f.apart pin fo = d) (h : o = (pin + 2) % 4) :
    f.lineCosine pin fo o = some (Rat.divInt ((w : Int) * w + (z : Int) * z - d * d) (2 * w * z)) := by
  unfold Four.lineCosine
  rw [e, ed]
  simp only [if_pos h]
  rw [cosine_div]
theorem line_any {f : Four} {pin : Nat} {fo : Bool} {o u v w z : Nat} {d : Int} (e : f.at_ pin = (u, v, w, z)) (ed : f.apart pin fo = d) (h : o ≠ (pin + 2) % 4) (h0 : d = 0) :
    f.lineCosine pin fo o = none := by
  unfold Four.lineCosine
  rw [e, ed]
  simp only [if_neg h, if_pos h0]
theorem line_before {f : Four} {pin : Nat} {fo : Bool} {o u v w z : Nat} {d : Int} (e : f.at_ pin = (u, v, w, z)) (ed : f.apart pin fo = d) (h : o ≠ (pin + 2) % 4) (h0 : d ≠ 0) (h1 : o = (pin + 3) % 4) :
    f.lineCosine pin fo o = some (Rat.divInt (d * d + (w : Int) * w - (z : Int) * z) (2 * d * w)) := by
  unfold Four.lineCosine
  rw [e, ed]
  simp only [if_neg h, if_neg h0, if_pos h1]
  rw [← frac_div]
  simp only [Rat.intCast_mul, Rat.intCast_natCast, Rat.natCast_mul]
theorem line_behind {f : Four} {pin : Nat} {fo : Bool} {o u v w z : Nat} {d : Int} (e : f.at_ pin = (u, v, w, z)) (ed : f.apart pin fo = d) (h : o ≠ (pin + 2) % 4) (h0 : d ≠ 0) (h1 : o ≠ (pin + 3) % 4) :
    f.lineCosine pin fo o = some (Rat.divInt (d * d + (z : Int) * z - (w : Int) * w) (2 * (if fo = true then -d else d) * z)) := by
  unfold Four.lineCosine
  rw [e, ed]
  simp only [if_neg h, if_neg h0, if_neg h1]
  rw [← frac_div]
  simp only [Rat.intCast_mul, Rat.intCast_natCast, Rat.natCast_mul]
theorem range_step (G A C R p : Nat) : PyWqapbt.range_of G A C R p = Neutral.shown (LkDSpec.answer ⟨⟨G, A, C, R⟩, .range p⟩) := by
  have e : Neutral.callOf [[2, (G : Int), (A : Int), (C : Int), (R : Int), (p : Int)]] = some ⟨⟨G, A, C, R⟩, .range p⟩ := by
    show (if Neutral.whole [(G : Int), (A : Int), (C : Int), (R : Int), (p : Int)] = true then some _ else none) = _
    rw [if_pos (by simp [Neutral.whole])]
    rfl
  show (Neutral.step Neutral.start [[2, (G : Int), (A : Int), (C : Int), (R : Int), (p : Int)]]).2 = _
  unfold Neutral.step
  rw [e]
  rfl
theorem range_bad {G A C R p : Nat} (h : ¬ (Good G A C R ∧ p ≤ 3)) : PyWqapbt.range_of G A C R p = [-1] := by
  rw [range_step, LkDSpec.answer, if_pos]
  · rfl
  · by_cases g : Good G A C R
    · refine Or.inr ?_
      show decide (p ≤ 3) = false
      exact decide_eq_false (fun q => h ⟨g, q⟩)
    · exact Or.inl (lengths_bad g)
theorem range_good {G A C R p : Nat} (h : Good G A C R) (q : p ≤ 3) : PyWqapbt.range_of G A C R p =
    if Four.kind ⟨G, A, C, R⟩ = 0 then [-2] else 0 :: 4 :: (two (Four.range ⟨G, A, C, R⟩ p).1 ++ two (Four.range ⟨G, A, C, R⟩ p).2) := by
  rw [range_step, LkDSpec.answer, if_neg (by rw [lengths_good h]; simp [LkDSpec.fine, q])]
  show Neutral.shown (if Four.kind ⟨G, A, C, R⟩ = 0 then LkDSpec.says (-2) else ⟨0, [two (Four.range ⟨G, A, C, R⟩ p).1 ++ two (Four.range ⟨G, A, C, R⟩ p).2]⟩) = _
  split
  · rfl
  · simp [Neutral.shown, two]
theorem two_neg_one : two (-1) = [-1, 1] := by decide +kernel
theorem two_one : two 1 = [1, 1] := by decide +kernel
theorem range_at {G A C R p u v w z : Nat} (e : Four.at_ ⟨G, A, C, R⟩ p = (u, v, w, z)) : Four.range ⟨G, A, C, R⟩ p =
    (if u + v ≤ w + z then -1 else Rat.divInt ((u : Int) * u + (v : Int) * v - (((w + z) * (w + z) : Nat) : Int)) (2 * u * v), if gap w z ≤ gap u v then 1 else Rat.divInt ((u : Int) * u + (v : Int) * v - ((gap w z * gap w z : Nat) : Int)) (2 * u * v)) := by
  unfold Four.range
  rw [e]
  simp only [cosine_div]
theorem line_step (G A C R x y z : Nat) : PyWqapbt.line G A C R x y z = Neutral.shown (LkDSpec.answer ⟨⟨G, A, C, R⟩, .line x y z⟩) := by
  have e : Neutral.callOf [[3, (G : Int), (A : Int), (C : Int), (R : Int), (x : Int), (y : Int), (z : Int)]] = some ⟨⟨G, A, C, R⟩, .line x y z⟩ := by
    show (if Neutral.whole [(G : Int), (A : Int), (C : Int), (R : Int), (x : Int), (y : Int), (z : Int)] = true then some _ else none) = _
    rw [if_pos (by simp [Neutral.whole])]
    rfl
  show (Neutral.step Neutral.start [[3, (G : Int), (A : Int), (C : Int), (R : Int), (x : Int), (y : Int), (z : Int)]]).2 = _
  unfold Neutral.step
  rw [e]
  rfl
end My
namespace My
open LkFour LkDSpec
theorem fine_line (x y z : Nat) : LkDSpec.fine (.line x y z) = true ↔ x ≤ 3 ∧ z ≤ 3 ∧ y ≤ 1 ∧ z ≠ x := by
  show (decide (x ≤ 3) && (decide (z ≤ 3) && (decide (y ≤ 1) && z != x))) = true ↔ _
  rw [Bool.and_eq_true, Bool.and_eq_true, Bool.and_eq_true, decide_eq_true_iff, decide_eq_true_iff, decide_eq_true_iff, bne_iff_ne]
theorem line_bad {G A C R x y z : Nat} (h : ¬ (Good G A C R ∧ x ≤ 3 ∧ z ≤ 3 ∧ y ≤ 1 ∧ z ≠ x)) : PyWqapbt.line G A C R x y z = [-1] := by
  rw [line_step, LkDSpec.answer, if_pos]
  · rfl
  · by_cases g : Good G A C R
    · refine Or.inr ?_
      rw [Bool.eq_false_iff]
      exact fun e => h ⟨g, (fine_line ..).1 e⟩
    · exact Or.inl (lengths_bad g)
theorem line_good {G A C R x y z : Nat} (h : Good G A C R) (q : x ≤ 3 ∧ z ≤ 3 ∧ y ≤ 1 ∧ z ≠ x) : PyWqapbt.line G A C R x y z =
    if Four.kind ⟨G, A, C, R⟩ = 0 then [-2] else if Four.inLine ⟨G, A, C, R⟩ x (y == 1) = false then [0, 0] else
      match Four.lineCosine ⟨G, A, C, R⟩ x (y == 1) z with
      | some t => 1 :: 2 :: two t
      | none => [-5] := by
  rw [line_step, LkDSpec.answer, if_neg (by rw [lengths_good h, (fine_line ..).2 q]; simp)]
  show Neutral.shown (if Four.kind ⟨G, A, C, R⟩ = 0 then LkDSpec.says (-2) else if Four.inLine ⟨G, A, C, R⟩ x (y == 1) = false then ⟨0, [[]]⟩ else (match Four.lineCosine ⟨G, A, C, R⟩ x (y == 1) z with | some t => ⟨1, [two t]⟩ | none => LkDSpec.says (-5))) = _
  split
  · rfl
  · split
    · rfl
    · cases Four.lineCosine ⟨G, A, C, R⟩ x (y == 1) z with
      | none => rfl
      | some t => simp [Neutral.shown, two]
theorem inLine_at {f : Four} {pin : Nat} {fo : Bool} {u v w z : Nat} {d : Int} (e : f.at_ pin = (u, v, w, z)) (ed : f.apart pin fo = d) : f.inLine pin fo = true ↔ (((w : Int) - z).natAbs : Int) ≤ (d.natAbs : Int) ∧ (d.natAbs : Int) ≤ (w : Int) + z := by
  unfold Four.inLine
  rw [e, ed]
  show (decide (gap w z ≤ d.natAbs) && decide (d.natAbs ≤ w + z)) = true ↔ _
  rw [Bool.and_eq_true, decide_eq_true_iff, decide_eq_true_iff]
  have a := gap_is w z
  omega
theorem apart_at {f : Four} {pin : Nat} {fo : Bool} {u v w z : Nat} (e : f.at_ pin = (u, v, w, z)) : f.apart pin fo = if fo = true then (u : Int) - v else (u : Int) + v := by
  unfold Four.apart
  rw [e]
theorem circuits_step (G A C R : Nat) : PyWqapbt.circuits G A C R = Neutral.shown (LkDSpec.answer ⟨⟨G, A, C, R⟩, .circuits⟩) := by
  have e : Neutral.callOf [[4, (G : Int), (A : Int), (C : Int), (R : Int)]] = some ⟨⟨G, A, C, R⟩, .circuits⟩ := by
    show (if Neutral.whole [(G : Int), (A : Int), (C : Int), (R : Int)] = true then some _ else none) = _
    rw [if_pos (by simp [Neutral.whole])]
    rfl
  show (Neutral.step Neutral.start [[4, (G : Int), (A : Int), (C : Int), (R : Int)]]).2 = _
  unfold Neutral.step
  rw [e]
  rfl
theorem circuits_bad {G A C R : Nat} (h : ¬ Good G A C R) : PyWqapbt.circuits G A C R = [-1] := by
  rw [circuits_step, LkDSpec.answer, if_pos (Or.inl (lengths_bad h))]
  rfl
theorem circuits_good {G A C R : Nat} (h : Good G A C R) : PyWqapbt.circuits G A C R = [if Four.kind ⟨G, A, C, R⟩ = 0 then 0 else if 2 ≤ Four.kind ⟨G, A, C, R⟩ ∧ Four.kind ⟨G, A, C, R⟩ ≤ 5 then 2 else 1] := by
  rw [circuits_step, LkDSpec.answer, if_neg (by rw [lengths_good h]; simp [LkDSpec.fine])]
  show [((Four.circuits ⟨G, A, C, R⟩ : Nat) : Int)] = _
  unfold Four.circuits
  by_cases a : Four.kind ⟨G, A, C, R⟩ = 0
  · rw [if_pos a, if_pos a]
    rfl
  · rw [if_neg a, if_neg a]
    by_cases b : 2 ≤ Four.kind ⟨G, A, C, R⟩ ∧ Four.kind ⟨G, A, C, R⟩ ≤ 5
    · rw [if_pos b, if_pos b]
      rfl
    · rw [if_neg b, if_neg b]
      rfl
end My
namespace My
open LkFour LkDSpec
theorem div_lt_div {a b c d : Int} (hb : 0 < b) (hd : 0 < d) : Rat.divInt a b < Rat.divInt c d ↔ a * d < c * b := by
  rw [Rat.divInt_eq_div, Rat.divInt_eq_div]
  have hb' : (0 : Rat) < (b : Rat) := Rat.intCast_pos.2 hb
  have hd' : (0 : Rat) < (d : Rat) := Rat.intCast_pos.2 hd
  rw [Rat.div_lt_iff hb', Rat.div_def, Rat.mul_assoc, Rat.mul_comm _ (b : Rat), ← Rat.mul_assoc, ← Rat.div_def, Rat.lt_div_iff hd', ← Rat.intCast_mul, ← Rat.intCast_mul, Rat.intCast_lt_intCast]
theorem div_le_div {a b c d : Int} (hb : 0 < b) (hd : 0 < d) : Rat.divInt a b ≤ Rat.divInt c d ↔ a * d ≤ c * b := by
  rw [← Rat.not_lt, div_lt_div hd hb]
  omega
theorem div_eq_div {a b c d : Int} (hb : 0 < b) (hd : 0 < d) : Rat.divInt a b = Rat.divInt c d ↔ a * d = c * b := Rat.divInt_eq_divInt_iff (by omega) (by omega)
theorem one_div' : (1 : Rat) = Rat.divInt 1 1 := by decide +kernel
theorem neg_one_div' : (-1 : Rat) = Rat.divInt (-1) 1 := by decide +kernel
theorem zero_div' : (0 : Rat) = Rat.divInt 0 1 := by decide +kernel
theorem place_x (p q : Int) : (place p q).1 = Rat.divInt (q * q - p * p) (q * q + p * p) := by
  rw [Rat.divInt_eq_div]
  rfl
theorem place_y (p q : Int) : (place p q).2 = Rat.divInt (2 * p * q) (q * q + p * p) := by
  rw [Rat.divInt_eq_div]
  rfl
theorem square_nonneg (p : Int) : 0 ≤ p * p := by
  rw [← Int.natAbs_mul_self]
  exact Int.natCast_nonneg _
theorem square_pos {p : Int} (h : p ≠ 0) : 0 < p * p := by
  rcases Int.lt_or_gt_of_ne h with a | a
  · exact Int.mul_pos_of_neg_of_neg a a
  · exact Int.mul_pos a a
theorem square_zero {p : Int} (h : p * p = 0) : p = 0 := by
  by_cases a : p = 0
  · exact a
  · have := square_pos a
    omega
theorem square_sum_pos {p q : Int} (h : ¬ (p = 0 ∧ q = 0)) : 0 < q * q + p * p := by
  have a := square_nonneg p
  have b := square_nonneg q
  by_cases c : p = 0
  · have d := square_pos (p := q) (fun e => h ⟨c, e⟩)
    omega
  · have d := square_pos c
    omega
theorem atB_iff {G A C R : Nat} {p q : Int} (h : ¬ (p = 0 ∧ q = 0)) : Four.atB ⟨G, A, C, R⟩ (place p q).1 = true ↔ A = G ∧ p = 0 := by
  unfold Four.atB
  rw [Bool.and_eq_true, beq_iff_eq, beq_iff_eq, place_x, one_div', div_eq_div (square_sum_pos h) (by decide)]
  have k : ((q * q - p * p) * 1 = 1 * (q * q + p * p)) ↔ p = 0 := by
    constructor
    · intro e
      exact square_zero (by omega)
    · intro e
      subst e
      omega
  rw [k]
theorem limits_one (G A C R : Nat) : (Four.limits ⟨G, A, C, R⟩).1 = Rat.divInt ((G : Int) * G + (A : Int) * A - ((C : Int) + R) * ((C : Int) + R)) (2 * G * A) := by
  show cosine G A (((C + R) * (C + R) : Nat) : Int) = _
  rw [cosine_div, Int.natCast_mul, Int.natCast_add]
theorem limits_two (G A C R : Nat) : (Four.limits ⟨G, A, C, R⟩).2 = Rat.divInt ((G : Int) * G + (A : Int) * A - ((C : Int) - R) * ((C : Int) - R)) (2 * G * A) := by
  show cosine G A ((gap C R * gap C R : Nat) : Int) = _
  rw [cosine_div, Int.natCast_mul, gap_is, ← Int.natCast_mul, Int.natAbs_mul_self']
theorem closes_iff {G A C R : Nat} {p q : Int} (hG : 1 ≤ G) (hA : 1 ≤ A) (h : ¬ (p = 0 ∧ q = 0)) : Four.closes ⟨G, A, C, R⟩ (place p q).1 = true ↔
    ¬ (A = G ∧ p = 0) ∧ ((G : Int) * G + (A : Int) * A - ((C : Int) + R) * ((C : Int) + R)) * (q * q + p * p) ≤ (q * q - p * p) * (2 * G * A) ∧
      (q * q - p * p) * (2 * G * A) ≤ ((G : Int) * G + (A : Int) * A - ((C : Int) - R) * ((C : Int) - R)) * (q * q + p * p) := by
  have hd : (0 : Int) < 2 * G * A := Int.mul_pos (by omega) (by omega)
  unfold Four.closes
  rw [Bool.and_eq_true, Bool.and_eq_true, decide_eq_true_iff, decide_eq_true_iff, Bool.not_eq_true', limits_one, limits_two, place_x, div_le_div hd (square_sum_pos h), div_le_div (square_sum_pos h) hd, ← place_x, ← atB_iff (C := C) (R := R) h, Bool.not_eq_true]
theorem y_pos {p q : Int} (h : ¬ (p = 0 ∧ q = 0)) : (0 : Rat) < (place p q).2 ↔ 0 < p * q := by
  rw [place_y, zero_div', div_lt_div (by decide) (square_sum_pos h)]
  have e : 2 * p * q = 2 * (p * q) := Int.mul_assoc ..
  omega
theorem isPlace_iff (p q : Int) : LkDSpec.isPlace p q = true ↔ p.natAbs ≤ 99 ∧ q.natAbs ≤ 99 ∧ ¬ (p = 0 ∧ q = 0) := by
  unfold LkDSpec.isPlace
  rw [Bool.and_eq_true, Bool.and_eq_true, decide_eq_true_iff, decide_eq_true_iff, Bool.not_eq_true', Bool.and_eq_false_iff, beq_eq_false_iff_ne, beq_eq_false_iff_ne, Classical.not_and_iff_not_or_not]
  exact Iff.rfl
theorem circuit_step (G A C R s : Nat) (p q : Int) : PyWqapbt.circuit G A C R p q s = Neutral.shown (LkDSpec.answer ⟨⟨G, A, C, R⟩, .circuit p q s⟩) := by
  have e : Neutral.callOf [[5, (G : Int), (A : Int), (C : Int), (R : Int), p, q, (s : Int)]] = some ⟨⟨G, A, C, R⟩, .circuit p q s⟩ := by
    show (if Neutral.whole [(G : Int), (A : Int), (C : Int), (R : Int), (s : Int)] = true then some _ else none) = _
    rw [if_pos (by simp [Neutral.whole])]
    rfl
  show (Neutral.step Neutral.start [[5, (G : Int), (A : Int), (C : Int), (R : Int), p, q, (s : Int)]]).2 = _
  unfold Neutral.step
  rw [e]
  rfl
theorem circuit_bad {G A C R s : Nat} {p q : Int} (h : ¬ (Good G A C R ∧ LkDSpec.isPlace p q = true ∧ s ≤ 1)) : PyWqapbt.circuit G A C R p q s = [-1] := by
  rw [circuit_step, LkDSpec.answer, if_pos]
  · rfl
  · by_cases g : Good G A C R
    · refine Or.inr ?_
      show (LkDSpec.isPlace p q && decide (s ≤ 1)) = false
      rw [Bool.eq_false_iff, ne_eq, Bool.and_eq_true, decide_eq_true_iff]
      exact fun e => h ⟨g, e⟩
    · exact Or.inl (lengths_bad g)
theorem circuit_good {G A C R s : Nat} {p q : Int} (h : Good G A C R) (k : LkDSpec.isPlace p q = true) (l : s ≤ 1) : PyWqapbt.circuit G A C R p q s =
    [if Four.closes ⟨G, A, C, R⟩ (place p q).1 = false then -3 else ((Four.circuit ⟨G, A, C, R⟩ (place p q).2 s : Nat) : Int)] := by
  rw [circuit_step, LkDSpec.answer, if_neg]
  · show Neutral.shown (if Four.closes ⟨G, A, C, R⟩ (place p q).1 = false then LkDSpec.says (-3) else LkDSpec.says ((Four.circuit ⟨G, A, C, R⟩ (place p q).2 s : Nat) : Int)) = _
    split <;> rfl
  · have e : LkDSpec.fine (.circuit p q s) = true := by
      show (LkDSpec.isPlace p q && decide (s ≤ 1)) = true
      rw [k, decide_eq_true l]
      rfl
    rw [lengths_good h, e]
    simp
end My
namespace My
open LkFour LkDSpec
theorem drive_step (G A C R s l : Nat) (p q u v : Int) : PyWqapbt.drive G A C R p q s l u v = Neutral.shown (LkDSpec.answer ⟨⟨G, A, C, R⟩, .drive p q s l u v⟩) := by
  have e : Neutral.callOf [[6, (G : Int), (A : Int), (C : Int), (R : Int), p, q, (s : Int), (l : Int), u, v]] = some ⟨⟨G, A, C, R⟩, .drive p q s l u v⟩ := by
    show (if Neutral.whole [(G : Int), (A : Int), (C : Int), (R : Int), (s : Int), (l : Int)] = true then some _ else none) = _
    rw [if_pos (by simp [Neutral.whole])]
    rfl
  show (Neutral.step Neutral.start [[6, (G : Int), (A : Int), (C : Int), (R : Int), p, q, (s : Int), (l : Int), u, v]]).2 = _
  unfold Neutral.step
  rw [e]
  rfl
theorem fine_drive (p q u v : Int) (s l : Nat) : LkDSpec.fine (.drive p q s l u v) = true ↔ LkDSpec.isPlace p q = true ∧ LkDSpec.isPlace u v = true ∧ s ≤ 1 ∧ l ≤ 1 := by
  show (LkDSpec.isPlace p q && (LkDSpec.isPlace u v && (decide (s ≤ 1) && decide (l ≤ 1)))) = true ↔ _
  rw [Bool.and_eq_true, Bool.and_eq_true, Bool.and_eq_true, decide_eq_true_iff, decide_eq_true_iff]
theorem drive_bad {G A C R s l : Nat} {p q u v : Int} (h : ¬ (Good G A C R ∧ LkDSpec.isPlace p q = true ∧ LkDSpec.isPlace u v = true ∧ s ≤ 1 ∧ l ≤ 1)) : PyWqapbt.drive G A C R p q s l u v = [-1] := by
  rw [drive_step, LkDSpec.answer, if_pos]
  · rfl
  · by_cases g : Good G A C R
    · refine Or.inr ?_
      rw [Bool.eq_false_iff, ne_eq, fine_drive]
      exact fun e => h ⟨g, e⟩
    · exact Or.inl (lengths_bad g)
theorem drive_good {G A C R s l : Nat} {p q u v : Int} (h : Good G A C R) (k : LkDSpec.isPlace p q = true ∧ LkDSpec.isPlace u v = true ∧ s ≤ 1 ∧ l ≤ 1) : PyWqapbt.drive G A C R p q s l u v =
    [Four.drive ⟨G, A, C, R⟩ (place p q) s (l == 1) (place u v)] := by
  rw [drive_step, LkDSpec.answer, if_neg]
  · rfl
  · rw [lengths_good h, (fine_drive ..).2 k]
    simp
theorem swing_step (G A C R w m : Nat) : PyWqapbt.swing G A C R w m = Neutral.shown (LkDSpec.answer ⟨⟨G, A, C, R⟩, .swing w m⟩) := by
  have e : Neutral.callOf [[7, (G : Int), (A : Int), (C : Int), (R : Int), (w : Int), (m : Int)]] = some ⟨⟨G, A, C, R⟩, .swing w m⟩ := by
    show (if Neutral.whole [(G : Int), (A : Int), (C : Int), (R : Int), (w : Int), (m : Int)] = true then some _ else none) = _
    rw [if_pos (by simp [Neutral.whole])]
    rfl
  show (Neutral.step Neutral.start [[7, (G : Int), (A : Int), (C : Int), (R : Int), (w : Int), (m : Int)]]).2 = _
  unfold Neutral.step
  rw [e]
  rfl
theorem fine_swing (w m : Nat) : LkDSpec.fine (.swing w m) = true ↔ w ≤ 1 ∧ 1 ≤ m ∧ m ≤ 8 := by
  show (decide (w ≤ 1) && (decide (1 ≤ m) && decide (m ≤ 8))) = true ↔ _
  rw [Bool.and_eq_true, Bool.and_eq_true, decide_eq_true_iff, decide_eq_true_iff, decide_eq_true_iff]
theorem swing_bad {G A C R w m : Nat} (h : ¬ (Good G A C R ∧ w ≤ 1 ∧ 1 ≤ m ∧ m ≤ 8)) : PyWqapbt.swing G A C R w m = [-1] := by
  rw [swing_step, LkDSpec.answer, if_pos]
  · rfl
  · by_cases g : Good G A C R
    · refine Or.inr ?_
      rw [Bool.eq_false_iff, ne_eq, fine_swing]
      exact fun e => h ⟨g, e⟩
    · exact Or.inl (lengths_bad g)
theorem swing_good {G A C R w m : Nat} (h : Good G A C R) (k : w ≤ 1 ∧ 1 ≤ m ∧ m ≤ 8) : PyWqapbt.swing G A C R w m =
    if Four.kind ⟨G, A, C, R⟩ ≠ 3 then [-2] else [0, 1, ((Four.swing ⟨G, A, C, R⟩ w m : Nat) : Int)] := by
  rw [swing_step, LkDSpec.answer, if_neg]
  · show Neutral.shown (if Four.kind ⟨G, A, C, R⟩ ≠ 3 then LkDSpec.says (-2) else ⟨0, [[((Four.swing ⟨G, A, C, R⟩ w m : Nat) : Int)]]⟩) = _
    split <;> rfl
  · rw [lengths_good h, (fine_swing ..).2 k]
    simp
end My
namespace My
open LkFour LkDSpec
/-- a direction by two whole numbers over a common positive one -/
def dirOf (x y n : Int) : Rat × Rat := (Rat.divInt x n, Rat.divInt y n)
theorem place_dir (p q : Int) : place p q = dirOf (q * q - p * p) (2 * p * q) (q * q + p * p) := by
  show ((place p q).1, (place p q).2) = _
  rw [place_x, place_y]
  rfl
theorem dir_one : ((1 : Rat), (0 : Rat)) = dirOf 1 0 1 := by decide +kernel
theorem dir_minus : ((-1 : Rat), (0 : Rat)) = dirOf (-1) 0 1 := by decide +kernel
theorem back_dir {x y n u v m : Int} : back (dirOf x y n) (dirOf u v m) = dirOf (x * u + y * v) (y * u - x * v) (n * m) := by
  unfold back dirOf
  have e1 : Rat.divInt x n * Rat.divInt u m + Rat.divInt y n * Rat.divInt v m = Rat.divInt (x * u + y * v) (n * m) := by
    rw [Rat.divInt_mul_divInt, Rat.divInt_mul_divInt, Rat.divInt_eq_div, Rat.divInt_eq_div, Rat.divInt_eq_div]
    simp only [Rat.intCast_add, Rat.intCast_mul, Rat.div_def, Rat.add_mul]
  have e2 : Rat.divInt y n * Rat.divInt u m - Rat.divInt x n * Rat.divInt v m = Rat.divInt (y * u - x * v) (n * m) := by
    rw [Rat.divInt_mul_divInt, Rat.divInt_mul_divInt, Rat.divInt_eq_div, Rat.divInt_eq_div, Rat.divInt_eq_div]
    simp only [Rat.intCast_sub, Rat.intCast_mul, Rat.div_def]
    grind
  show (_, _) = (_, _)
  rw [← e1, ← e2]
theorem div_pos_iff {x n : Int} (h : 0 < n) : 0 < Rat.divInt x n ↔ 0 < x := by
  rw [zero_div', div_lt_div (by decide) h]
  omega
theorem div_zero_iff {x n : Int} (h : 0 < n) : Rat.divInt x n = 0 ↔ x = 0 := by
  rw [zero_div', div_eq_div h (by decide)]
  omega
/-- a direction lies from 0 on, before half a turn -/
def upZ (x y : Int) : Prop := 0 < y ∨ (y = 0 ∧ 0 < x)
instance (x y : Int) : Decidable (upZ x y) := inferInstanceAs (Decidable (_ ∨ _))
theorem upper_dir {x y n : Int} (h : 0 < n) : upper (dirOf x y n) = decide (upZ x y) := by
  unfold upper dirOf upZ
  simp only [div_pos_iff h, div_zero_iff h]
  by_cases a : 0 < y <;> by_cases b : y = 0 <;> by_cases c : 0 < x <;> simp [a, b, c]
def ltZ (x y u v : Int) : Prop := (upZ x y ∧ ¬ upZ u v) ∨ ((upZ x y ↔ upZ u v) ∧ 0 < x * v - y * u)
theorem less_dir {x y n u v m : Int} (h : 0 < n) (k : 0 < m) : lessTurn (dirOf x y n) (dirOf u v m) = true ↔ ltZ x y u v := by
  unfold lessTurn
  rw [upper_dir h, upper_dir k]
  have e : decide (0 < (dirOf x y n).1 * (dirOf u v m).2 - (dirOf x y n).2 * (dirOf u v m).1) = decide (0 < x * v - y * u) := by
    have e1 : (dirOf x y n).1 * (dirOf u v m).2 - (dirOf x y n).2 * (dirOf u v m).1 = Rat.divInt (x * v - y * u) (n * m) := by
      show Rat.divInt x n * Rat.divInt v m - Rat.divInt y n * Rat.divInt u m = _
      rw [Rat.divInt_mul_divInt, Rat.divInt_mul_divInt, Rat.divInt_eq_div, Rat.divInt_eq_div, Rat.divInt_eq_div]
      simp only [Rat.intCast_sub, Rat.intCast_mul, Rat.div_def]
      grind
    rw [e1]
    simp only [div_pos_iff (Int.mul_pos h k)]
  rw [e]
  unfold ltZ
  by_cases a : upZ x y <;> by_cases b : upZ u v <;> simp [a, b]
/-- strictly on the way to the left from the first direction to the second: the third -/
def betZ (x y u v a b : Int) : Prop := ltZ 1 0 (a * x + b * y) (b * x - a * y) ∧ ltZ (a * x + b * y) (b * x - a * y) (u * x + v * y) (v * x - u * y)
theorem between_dir {x y n u v m a b l : Int} (h : 0 < n) (k : 0 < m) (j : 0 < l) : between (dirOf x y n) (dirOf u v m) (dirOf a b l) = true ↔ betZ x y u v a b := by
  unfold between
  rw [back_dir, back_dir, dir_one]
  show (lessTurn (dirOf 1 0 1) (dirOf (a * x + b * y) (b * x - a * y) (l * n)) && lessTurn (dirOf (a * x + b * y) (b * x - a * y) (l * n)) (dirOf (u * x + v * y) (v * x - u * y) (m * n))) = true ↔ _
  rw [Bool.and_eq_true, less_dir (by decide) (Int.mul_pos j h), less_dir (Int.mul_pos j h) (Int.mul_pos k h)]
  rfl
/-- on the way, whichever way it goes: a direction by two whole numbers -/
def onZ (left : Bool) (p q u v a b : Int) : Prop := if left = true then betZ (q * q - p * p) (2 * p * q) (v * v - u * u) (2 * u * v) a b else betZ (v * v - u * u) (2 * u * v) (q * q - p * p) (2 * p * q) a b
theorem on_iff {left : Bool} {p q u v : Int} (hp : ¬ (p = 0 ∧ q = 0)) (hu : ¬ (u = 0 ∧ v = 0)) (a b : Int) :
    (if left = true then between (place p q) (place u v) (dirOf a b 1) else between (place u v) (place p q) (dirOf a b 1)) = true ↔ onZ left p q u v a b := by
  unfold onZ
  rw [place_dir, place_dir]
  cases left
  · exact between_dir (square_sum_pos hu) (square_sum_pos hp) (by decide)
  · exact between_dir (square_sum_pos hp) (square_sum_pos hu) (by decide)
/-- limits in whole numbers: L1 / D and L2 / D -/
def L1 (G A C R : Nat) : Int := (G : Int) * G + (A : Int) * A - ((C : Int) + R) * ((C : Int) + R)
def L2 (G A C R : Nat) : Int := (G : Int) * G + (A : Int) * A - ((C : Int) - R) * ((C : Int) - R)
def closesZ (G A C R : Nat) (p q : Int) : Prop := ¬ (A = G ∧ p = 0) ∧ L1 G A C R * (q * q + p * p) ≤ (q * q - p * p) * (2 * G * A) ∧ (q * q - p * p) * (2 * G * A) ≤ L2 G A C R * (q * q + p * p)
/-- somewhere on the way, its ends too, no figure closes and C isn't at B -/
def shutZ (G A C R : Nat) (on0 on1 : Prop) (p q u v : Int) : Prop :=
  ((on0 ∧ L2 G A C R < 2 * G * A) ∨ (¬ on0 ∧ (L2 G A C R * (q * q + p * p) < (q * q - p * p) * (2 * G * A) ∨ L2 G A C R * (v * v + u * u) < (v * v - u * u) * (2 * G * A)))) ∨
  ((on1 ∧ -(2 * G * A : Int) < L1 G A C R) ∨ (¬ on1 ∧ ((q * q - p * p) * (2 * G * A) < L1 G A C R * (q * q + p * p) ∨ (v * v - u * u) * (2 * G * A) < L1 G A C R * (v * v + u * u))))
/-- behind the beginning D may go to either side; or C is at B at the end -/
def forkZ (G A C R : Nat) (on0 on1 : Prop) (u : Int) : Prop :=
  (on0 ∧ (A = G ∨ L1 G A C R = 2 * G * A ∨ L2 G A C R = 2 * G * A)) ∨ (on1 ∧ (L1 G A C R = -(2 * G * A : Int) ∨ L2 G A C R = -(2 * G * A : Int))) ∨ (A = G ∧ u = 0)
def touchZ (G A C R : Nat) (u v : Int) : Prop := (v * v - u * u) * (2 * G * A) = L1 G A C R * (v * v + u * u) ∨ (v * v - u * u) * (2 * G * A) = L2 G A C R * (v * v + u * u)
theorem lt_max {x y z : Rat} : x < max y z ↔ x < y ∨ x < z := by
  rw [Rat.max_def]
  split
  · rename_i h
    refine ⟨Or.inr, fun k => k.elim (fun k => ?_) id⟩
    exact Rat.not_le.1 fun q => Rat.not_le.2 k (Rat.le_trans h q)
  · rename_i h
    have h' := Rat.le_of_lt (Rat.not_le.1 h)
    refine ⟨Or.inl, fun k => k.elim id (fun k => ?_)⟩
    exact Rat.not_le.1 fun q => Rat.not_le.2 k (Rat.le_trans h' q)
theorem min_lt {x y z : Rat} : min y z < x ↔ y < x ∨ z < x := by
  rw [Rat.min_def]
  split
  · rename_i h
    refine ⟨Or.inl, fun k => k.elim id (fun k => ?_)⟩
    exact Rat.not_le.1 fun q => Rat.not_le.2 k (Rat.le_trans q h)
  · rename_i h
    have h' := Rat.le_of_lt (Rat.not_le.1 h)
    refine ⟨Or.inr, fun k => k.elim (fun k => ?_) id⟩
    exact Rat.not_le.1 fun q => Rat.not_le.2 k (Rat.le_trans q h')
theorem touches_iff {G A C R : Nat} {x : Rat} {a n : Int} (hG : 1 ≤ G) (hA : 1 ≤ A) (hn : 0 < n) (hx : x = Rat.divInt a n) : Four.touches ⟨G, A, C, R⟩ x = true ↔ (a * (2 * G * A) = L1 G A C R * n ∨ a * (2 * G * A) = L2 G A C R * n) := by
  have hd : (0 : Int) < 2 * G * A := Int.mul_pos (by omega) (by omega)
  unfold Four.touches
  rw [Bool.or_eq_true, beq_iff_eq, beq_iff_eq, limits_one, limits_two, hx, div_eq_div hn hd, div_eq_div hn hd]
  rfl
theorem drive_told {G A C R s : Nat} {left : Bool} {p q u v : Int} (hG : 1 ≤ G) (hA : 1 ≤ A) (hp : ¬ (p = 0 ∧ q = 0)) (hu : ¬ (u = 0 ∧ v = 0)) {on0 on1 : Prop} (h0 : on0 ↔ onZ left p q u v 1 0) (h1 : on1 ↔ onZ left p q u v (-1) 0) {z : Int}
    (w3 : ¬ closesZ G A C R p q → z = -3) (w4 : closesZ G A C R p q → shutZ G A C R on0 on1 p q u v → z = -4)
    (w5 : closesZ G A C R p q → ¬ shutZ G A C R on0 on1 p q u v → forkZ G A C R on0 on1 u → z = -5)
    (w6 : closesZ G A C R p q → ¬ shutZ G A C R on0 on1 p q u v → ¬ forkZ G A C R on0 on1 u → touchZ G A C R u v → z = 0)
    (w7 : closesZ G A C R p q → ¬ shutZ G A C R on0 on1 p q u v → ¬ forkZ G A C R on0 on1 u → ¬ touchZ G A C R u v → z = s) :
    Four.drive ⟨G, A, C, R⟩ (place p q) s left (place u v) = z := by
  have hd : (0 : Int) < 2 * G * A := Int.mul_pos (by omega) (by omega)
  have n1 := square_sum_pos hp
  have n2 := square_sum_pos hu
  have c : Four.closes ⟨G, A, C, R⟩ (place p q).1 = true ↔ closesZ G A C R p q := closes_iff hG hA hp
  have o0 := on_iff (left := left) hp hu 1 0
  have o1 := on_iff (left := left) hp hu (-1) 0
  rw [← h0, ← dir_one] at o0
  rw [← h1, ← dir_minus] at o1
  unfold Four.drive
  simp only []
  by_cases k3' : ¬ closesZ G A C R p q
  · rw [if_pos (by rw [Bool.eq_false_iff]; exact fun e => k3' (c.1 e)), w3 k3']
  have k3 : closesZ G A C R p q := Classical.not_not.1 k3'
  rw [if_neg (by rw [c.2 k3]; decide)]
  have sh : ((Four.limits ⟨G, A, C, R⟩).2 < (if (if left = true then between (place p q) (place u v) (1, 0) else between (place u v) (place p q) (1, 0)) = true then 1 else max (place p q).1 (place u v).1) ∨
      (if (if left = true then between (place p q) (place u v) (-1, 0) else between (place u v) (place p q) (-1, 0)) = true then -1 else min (place p q).1 (place u v).1) < (Four.limits ⟨G, A, C, R⟩).1) ↔ shutZ G A C R on0 on1 p q u v := by
    unfold shutZ
    refine or_congr ?_ ?_
    · by_cases k : on0
      · rw [if_pos (o0.2 k), limits_two, one_div', div_lt_div hd (by decide)]
        unfold L2
        simp only [k, true_and, not_true_eq_false, false_and, or_false]
        omega
      · rw [if_neg (fun e => k (o0.1 e)), lt_max, limits_two, place_x, place_x, div_lt_div hd n1, div_lt_div hd n2]
        unfold L2
        simp only [k, false_and, not_false_eq_true, true_and, false_or]
    · by_cases k : on1
      · rw [if_pos (o1.2 k), limits_one, neg_one_div', div_lt_div (by decide) hd]
        unfold L1
        simp only [k, true_and, not_true_eq_false, false_and, or_false]
        omega
      · rw [if_neg (fun e => k (o1.1 e)), min_lt, limits_one, place_x, place_x, div_lt_div n1 hd, div_lt_div n2 hd]
        unfold L1
        simp only [k, false_and, not_false_eq_true, true_and, false_or]
  by_cases k4 : shutZ G A C R on0 on1 p q u v
  · rw [if_pos (sh.2 k4), w4 k3 k4]
  rw [if_neg (fun e => k4 (sh.1 e))]
  have t1 := touches_iff (C := C) (R := R) (x := 1) (a := 1) (n := 1) hG hA (by decide) one_div'
  have t2 := touches_iff (C := C) (R := R) (x := -1) (a := -1) (n := 1) hG hA (by decide) neg_one_div'
  have b1 : Four.atB ⟨G, A, C, R⟩ 1 = true ↔ A = G := by
    unfold Four.atB
    rw [Bool.and_eq_true, beq_iff_eq, beq_iff_eq]
    exact ⟨fun e => e.1, fun e => ⟨e, rfl⟩⟩
  have b2 := atB_iff (G := G) (A := A) (C := C) (R := R) hu
  have fk : (((if left = true then between (place p q) (place u v) (1, 0) else between (place u v) (place p q) (1, 0)) && (Four.atB ⟨G, A, C, R⟩ 1 || Four.touches ⟨G, A, C, R⟩ 1)) ||
      (((if left = true then between (place p q) (place u v) (-1, 0) else between (place u v) (place p q) (-1, 0)) && Four.touches ⟨G, A, C, R⟩ (-1)) || Four.atB ⟨G, A, C, R⟩ (place u v).1)) = true ↔ forkZ G A C R on0 on1 u := by
    rw [Bool.or_eq_true, Bool.or_eq_true, Bool.and_eq_true, Bool.and_eq_true, Bool.or_eq_true, o0, o1, t1, t2, b1, b2]
    unfold forkZ
    refine or_congr (and_congr Iff.rfl (or_congr Iff.rfl ?_)) (or_congr (and_congr Iff.rfl ?_) Iff.rfl) <;> omega
  by_cases k5 : forkZ G A C R on0 on1 u
  · rw [if_pos (fk.2 k5), w5 k3 k4 k5]
  rw [if_neg (fun e => k5 (fk.1 e))]
  have t := touches_iff (G := G) (A := A) (C := C) (R := R) hG hA n2 (place_x u v)
  by_cases k6 : touchZ G A C R u v
  · rw [if_pos (t.2 k6), w6 k3 k4 k5 k6]
  · rw [if_neg (fun e => k6 (t.1 e)), w7 k3 k4 k5 k6]
end My
namespace My
open LkFour LkDSpec
/-- the squares of the ways from C to B, as the program tells them -/
def foldZ (C R p q : Int) : Int := (C - R) * (C - R) * (q * q + p * p)
def wayZZ (G A p q : Int) : Int := (G - A) * (G - A) * (q * q) + (G + A) * (G + A) * (p * p)
def strZ (C R p q : Int) : Int := (C + R) * (C + R) * (q * q + p * p)
def meetB (G A C R p q : Int) : Bool := decide (foldZ C R p q ≤ wayZZ G A p q) && decide (wayZZ G A p q ≤ strZ C R p q)
def touchB (G A C R p q : Int) : Bool := decide (wayZZ G A p q = foldZ C R p q) || decide (wayZZ G A p q = strZ C R p q)
def atBB (G A p : Int) : Bool := decide (G = A) && decide (p = 0)
def closeB (G A C R p q : Int) : Bool := meetB G A C R p q && !atBB G A p
theorem meet_iff {G A C R : Nat} {p q : Int} : meetB G A C R p q = true ↔ L1 G A C R * (q * q + p * p) ≤ (q * q - p * p) * (2 * G * A) ∧ (q * q - p * p) * (2 * G * A) ≤ L2 G A C R * (q * q + p * p) := by
  unfold meetB
  rw [Bool.and_eq_true, decide_eq_true_iff, decide_eq_true_iff]
  have e1 : wayZZ G A p q - foldZ C R p q = L2 G A C R * (q * q + p * p) - (q * q - p * p) * (2 * G * A) := by
    unfold wayZZ foldZ L2
    grind
  have e2 : strZ C R p q - wayZZ G A p q = (q * q - p * p) * (2 * G * A) - L1 G A C R * (q * q + p * p) := by
    unfold wayZZ strZ L1
    grind
  omega
theorem touch_iff {G A C R : Nat} {p q : Int} : touchB G A C R p q = true ↔ touchZ G A C R p q := by
  unfold touchB touchZ
  rw [Bool.or_eq_true, decide_eq_true_iff, decide_eq_true_iff]
  have e1 : wayZZ G A p q - foldZ C R p q = L2 G A C R * (q * q + p * p) - (q * q - p * p) * (2 * G * A) := by
    unfold wayZZ foldZ L2
    grind
  have e2 : strZ C R p q - wayZZ G A p q = (q * q - p * p) * (2 * G * A) - L1 G A C R * (q * q + p * p) := by
    unfold wayZZ strZ L1
    grind
  omega
theorem atBB_iff {G A : Nat} {p : Int} : atBB G A p = true ↔ (A = G ∧ p = 0) := by
  unfold atBB
  rw [Bool.and_eq_true, decide_eq_true_iff, decide_eq_true_iff]
  omega
theorem close_iff {G A C R : Nat} {p q : Int} : closeB G A C R p q = true ↔ closesZ G A C R p q := by
  unfold closeB closesZ
  rw [Bool.and_eq_true, meet_iff, Bool.not_eq_true', Bool.eq_false_iff, ne_eq, atBB_iff]
  exact ⟨fun h => ⟨h.2, h.1⟩, fun h => ⟨h.2, h.1⟩⟩
/-- of kinds 4 and 5 no figure has C on the ground's line -/
theorem kind_late {G A C R : Nat} (h : Four.kind ⟨G, A, C, R⟩ = 4 ∨ Four.kind ⟨G, A, C, R⟩ = 5) : C + R < G + A ∧ ((C + G < R + A ∧ C + A < R + G) ∨ (R + G < C + A ∧ R + A < C + G)) := by
  simp only [Four.kind, Four.sum] at h
  have hl : Four.longest ⟨G, A, C, R⟩ = max (max G A) (max C R) := rfl
  have hs : Four.shortest ⟨G, A, C, R⟩ = min (min G A) (min C R) := rfl
  generalize Four.longest ⟨G, A, C, R⟩ = l at h hl
  generalize Four.shortest ⟨G, A, C, R⟩ = s at h hs
  by_cases c1 : s + (G + A + C + R - l - s) < l
  · rw [if_pos c1] at h
    omega
  rw [if_neg c1] at h
  by_cases c2 : s + (G + A + C + R - l - s) = l
  · rw [if_pos c2] at h
    omega
  rw [if_neg c2] at h
  by_cases c3 : s + l < G + A + C + R - l - s
  · rw [if_pos c3] at h
    by_cases c4 : G = s
    · rw [if_pos c4] at h
      omega
    rw [if_neg c4] at h
    by_cases c5 : A = s
    · rw [if_pos c5] at h
      omega
    rw [if_neg c5] at h
    by_cases c6 : C = s
    · omega
    · omega
  · rw [if_neg c3] at h
    by_cases c4 : s + l = G + A + C + R - l - s
    · simp [c4] at h
    · simp [c4] at h
theorem sq_lt {x y : Int} (h1 : -y < x) (h2 : x < y) : x * x < y * y := by
  have p : 0 < (y - x) * (y + x) := Int.mul_pos (by omega) (by omega)
  have q : (y - x) * (y + x) = y * y - x * x := by grind
  omega
theorem off_line {G A C R : Nat} {p q : Int} (h : Four.kind ⟨G, A, C, R⟩ = 4 ∨ Four.kind ⟨G, A, C, R⟩ = 5) (hp : ¬ (p = 0 ∧ q = 0)) (m : meetB G A C R p q = true) : p * q ≠ 0 := by
  obtain ⟨k1, k2⟩ := kind_late h
  unfold meetB at m
  rw [Bool.and_eq_true, decide_eq_true_iff, decide_eq_true_iff] at m
  obtain ⟨m1, m2⟩ := m
  unfold foldZ wayZZ at m1
  unfold wayZZ strZ at m2
  intro z
  rcases Int.mul_eq_zero.1 z with z | z
  · subst z
    have qq := square_pos (p := q) (fun e => hp ⟨rfl, e⟩)
    have lt : ((G : Int) - A) * (G - A) < ((C : Int) - R) * (C - R) := by
      rcases k2 with k2 | k2
      · have := sq_lt (x := (G : Int) - A) (y := (R : Int) - C) (by omega) (by omega)
        have e : ((R : Int) - C) * (R - C) = (C - R) * (C - R) := by grind
        omega
      · exact sq_lt (by omega) (by omega)
    have := Int.mul_lt_mul_of_pos_right lt qq
    grind
  · subst z
    have pp := square_pos (p := p) (fun e => hp ⟨e, rfl⟩)
    have lt : ((C : Int) + R) * (C + R) < ((G : Int) + A) * (G + A) := sq_lt (by omega) (by omega)
    have := Int.mul_lt_mul_of_pos_right lt pp
    grind
/-- circuit, as the program tells it -/
theorem circuit_told {G A C R s : Nat} {p q : Int} (hG : 1 ≤ G) (hA : 1 ≤ A) (hp : ¬ (p = 0 ∧ q = 0)) :
    (if Four.closes ⟨G, A, C, R⟩ (place p q).1 = false then -3 else ((Four.circuit ⟨G, A, C, R⟩ (place p q).2 s : Nat) : Int)) =
      if closeB G A C R p q = false then -3 else if Four.kind ⟨G, A, C, R⟩ = 2 ∨ Four.kind ⟨G, A, C, R⟩ = 3 then (s : Int) else if (Four.kind ⟨G, A, C, R⟩ = 4 ∨ Four.kind ⟨G, A, C, R⟩ = 5) ∧ p * q < 0 then 1 else 0 := by
  have c : Four.closes ⟨G, A, C, R⟩ (place p q).1 = closeB G A C R p q := by
    rw [Bool.eq_iff_iff, closes_iff hG hA hp, close_iff]
    rfl
  rw [c]
  by_cases k : closeB G A C R p q = false
  · rw [if_pos k, if_pos k]
  rw [if_neg k, if_neg k]
  have m : meetB G A C R p q = true := by
    have k := (Bool.not_eq_false _).mp k
    unfold closeB at k
    rw [Bool.and_eq_true] at k
    exact k.1
  unfold Four.circuit
  by_cases k2 : Four.kind ⟨G, A, C, R⟩ = 2 ∨ Four.kind ⟨G, A, C, R⟩ = 3
  · rw [if_pos k2, if_pos k2]
  rw [if_neg k2, if_neg k2]
  by_cases k4 : Four.kind ⟨G, A, C, R⟩ = 4 ∨ Four.kind ⟨G, A, C, R⟩ = 5
  · have o := off_line k4 hp m
    rw [if_pos k4]
    by_cases y : 0 < p * q
    · rw [if_pos ((y_pos hp).2 y), if_neg (fun z => by have := z.2; omega)]
      rfl
    · rw [if_neg (fun z => y ((y_pos hp).1 z)), if_pos ⟨k4, by omega⟩]
      rfl
  · rw [if_neg k4, if_neg (fun z => k4 z.1)]
    rfl
theorem pos_right {x y : Int} (h : 0 < y) : 0 < x * y ↔ 0 < x := by
  constructor
  · intro z
    by_cases c : 0 < x
    · exact c
    · have := Int.mul_nonneg (show 0 ≤ -x by omega) (Int.le_of_lt h)
      rw [Int.neg_mul] at this
      omega
  · intro z
    exact Int.mul_pos z h
theorem pos_left {x y : Int} (h : 0 < x) : 0 < x * y ↔ 0 < y := by
  rw [Int.mul_comm]
  exact pos_right h
/-- a direction by its half: c c - s s, 2 c s -/
theorem up_half {c s : Int} (hs : 0 < s) : upZ (c * c - s * s) (2 * (c * s)) ↔ 0 < c := by
  unfold upZ
  constructor
  · rintro (h | ⟨h1, h2⟩)
    · by_cases k : 0 < c
      · exact k
      · have := Int.mul_nonneg (show 0 ≤ -c by omega) (Int.le_of_lt hs)
        rw [Int.neg_mul] at this
        omega
    · have z : c * s = 0 := by omega
      rcases Int.mul_eq_zero.1 z with z | z
      · subst z
        have := Int.mul_pos hs hs
        omega
      · omega
  · intro h
    have := Int.mul_pos h hs
    exact Or.inl (by omega)
theorem lt_half {c s d t : Int} (hs : 0 < s) (ht : 0 < t) : ltZ (c * c - s * s) (2 * (c * s)) (d * d - t * t) (2 * (d * t)) ↔ 0 < c * t - d * s := by
  unfold ltZ
  rw [up_half hs, up_half ht]
  have e : (c * c - s * s) * (2 * (d * t)) - 2 * (c * s) * (d * d - t * t) = 2 * ((c * t - d * s) * (c * d + s * t)) := by grind
  rw [e]
  have st := Int.mul_pos hs ht
  by_cases a : 0 < c <;> by_cases b : 0 < d
  · have p := Int.mul_pos a b
    have w : 0 < c * d + s * t := by omega
    have iff : 0 < (c * t - d * s) * (c * d + s * t) ↔ 0 < c * t - d * s := pos_right w
    simp only [a, b, not_true_eq_false, and_false, true_and, false_or]
    rw [← iff]
    omega
  · have p := Int.mul_pos a ht
    have r := Int.mul_nonneg (show 0 ≤ -d by omega) (Int.le_of_lt hs)
    rw [Int.neg_mul] at r
    simp only [a, b, not_false_eq_true, and_self, true_or, true_iff]
    omega
  · have p := Int.mul_pos b hs
    have r := Int.mul_nonneg (show 0 ≤ -c by omega) (Int.le_of_lt ht)
    rw [Int.neg_mul] at r
    simp only [a, b, false_and, false_or, false_iff]
    simp
    omega
  · have p := Int.mul_nonneg (show 0 ≤ -c by omega) (show 0 ≤ -d by omega)
    rw [Int.neg_mul_neg] at p
    have w : 0 < c * d + s * t := by omega
    have iff : 0 < (c * t - d * s) * (c * d + s * t) ↔ 0 < c * t - d * s := pos_right w
    simp only [a, b, false_and, true_and, false_or]
    rw [← iff]
    omega
theorem half_flip (c s : Int) : (-c) * (-c) - (-s) * (-s) = c * c - s * s ∧ 2 * ((-c) * (-s)) = 2 * (c * s) := by
  rw [Int.neg_mul_neg, Int.neg_mul_neg, Int.neg_mul_neg]
  exact ⟨rfl, rfl⟩
/-- the order of two directions by their halves, the first not 0 -/
theorem lt_halves {c s d t : Int} (hs : s ≠ 0) (hd : ¬ (d = 0 ∧ t = 0)) : ltZ (c * c - s * s) (2 * (c * s)) (d * d - t * t) (2 * (d * t)) ↔ 0 < s * t * (c * t - d * s) := by
  by_cases ht : t = 0
  · subst ht
    have dd := square_pos (p := d) (fun e => hd ⟨e, rfl⟩)
    have u : upZ (d * d - 0 * 0) (2 * (d * 0)) := Or.inr ⟨by omega, by omega⟩
    unfold ltZ
    simp only [u, not_true_eq_false, and_false, false_or, iff_true]
    have z : s * 0 * (c * 0 - d * s) = 0 := by grind
    rw [z]
    constructor
    · rintro ⟨a, b⟩
      exfalso
      have y : 2 * (c * s) < 0 := by
        by_cases k : 2 * (c * s) < 0
        · exact k
        · have := Int.mul_nonneg (show 0 ≤ 2 * (c * s) by omega) (Int.le_of_lt dd)
          grind
      unfold upZ at a
      omega
    · intro a
      omega
  · have flip := half_flip
    rcases Int.lt_or_gt_of_ne hs with a | a <;> rcases Int.lt_or_gt_of_ne ht with b | b
    · have r := lt_half (c := -c) (s := -s) (d := -d) (t := -t) (by omega) (by omega)
      rw [(flip c s).1, (flip c s).2, (flip d t).1, (flip d t).2, Int.neg_mul_neg, Int.neg_mul_neg] at r
      rw [r, pos_left (Int.mul_pos_of_neg_of_neg a b)]
    · have r := lt_half (c := -c) (s := -s) (d := d) (t := t) (by omega) (by omega)
      rw [(flip c s).1, (flip c s).2] at r
      have w : 0 < -(s * t) := by
        have := Int.mul_neg_of_neg_of_pos a b
        omega
      rw [r, show s * t * (c * t - d * s) = -(s * t) * (-c * t - d * -s) by grind, pos_left w]
    · have r := lt_half (c := c) (s := s) (d := -d) (t := -t) (by omega) (by omega)
      rw [(flip d t).1, (flip d t).2] at r
      have w : 0 < -(s * t) := by
        have := Int.mul_neg_of_pos_of_neg a b
        omega
      rw [r, show s * t * (c * t - d * s) = -(s * t) * (c * -t - -d * s) by grind, pos_left w]
    · rw [lt_half a b, pos_left (Int.mul_pos a b)]
/-- strictly on the way to the left: the third direction by its half (k, j), turned back by the first's: (c, s); the second's: (d, t) -/
theorem bet_halves {c s d t : Int} (hc : ¬ (c = 0 ∧ s = 0)) (hd : ¬ (d = 0 ∧ t = 0)) : (ltZ 1 0 (c * c - s * s) (2 * (c * s)) ∧ ltZ (c * c - s * s) (2 * (c * s)) (d * d - t * t) (2 * (d * t))) ↔ 0 < s * t * (c * t - d * s) := by
  by_cases hs : s = 0
  · subst hs
    have cc := square_pos (p := c) (fun e => hc ⟨e, rfl⟩)
    have n : ¬ ltZ 1 0 (c * c - 0 * 0) (2 * (c * 0)) := by
      unfold ltZ upZ
      simp
      omega
    have z : 0 * t * (c * t - d * 0) = 0 := by grind
    rw [z]
    constructor
    · rintro ⟨a, _⟩
      exact absurd a n
    · intro a
      omega
  · rw [lt_halves hs hd]
    refine ⟨fun a => a.2, fun a => ⟨?_, a⟩⟩
    unfold ltZ
    have u1 : upZ 1 0 := Or.inr ⟨rfl, by decide⟩
    by_cases u2 : upZ (c * c - s * s) (2 * (c * s))
    · refine Or.inr ⟨⟨fun _ => u2, fun _ => u1⟩, ?_⟩
      unfold upZ at u2
      rcases u2 with u2 | ⟨u2, u3⟩
      · omega
      · have z : c * s = 0 := by omega
        rcases Int.mul_eq_zero.1 z with z | z
        · subst z
          have := square_nonneg s
          omega
        · exact absurd z hs
    · exact Or.inl ⟨u1, u2⟩
theorem turn_zero {p q u v : Int} (hp : ¬ (p = 0 ∧ q = 0)) (hu : ¬ (u = 0 ∧ v = 0)) : ¬ (v * q + u * p = 0 ∧ u * q - v * p = 0) := by
  intro ⟨a, b⟩
  have e : (v * q + u * p) * (v * q + u * p) + (u * q - v * p) * (u * q - v * p) = (q * q + p * p) * (v * v + u * u) := by grind
  rw [a, b] at e
  have := Int.mul_pos (square_sum_pos hp) (square_sum_pos hu)
  omega
/-- past the place where C is farthest on the ground's side -/
theorem bet_near {p q u v : Int} (hp : ¬ (p = 0 ∧ q = 0)) (hu : ¬ (u = 0 ∧ v = 0)) : betZ (q * q - p * p) (2 * p * q) (v * v - u * u) (2 * u * v) 1 0 ↔ (0 * q - p * 1) * (u * 1 - 0 * v) * (p * v - u * q) < 0 := by
  unfold betZ
  have b := bet_halves (c := q) (s := -p) (d := v * q + u * p) (t := u * q - v * p) (fun ⟨x, y⟩ => hp ⟨by omega, x⟩) (turn_zero hp hu)
  rw [show (1 : Int) * (q * q - p * p) + 0 * (2 * p * q) = q * q - -p * -p by grind, show (0 : Int) * (q * q - p * p) - 1 * (2 * p * q) = 2 * (q * -p) by grind,
    show (v * v - u * u) * (q * q - p * p) + 2 * u * v * (2 * p * q) = (v * q + u * p) * (v * q + u * p) - (u * q - v * p) * (u * q - v * p) by grind,
    show 2 * u * v * (q * q - p * p) - (v * v - u * u) * (2 * p * q) = 2 * ((v * q + u * p) * (u * q - v * p)) by grind, b]
  have n := square_sum_pos hp
  have e : -p * (u * q - v * p) * (q * (u * q - v * p) - (v * q + u * p) * -p) = -((0 * q - p * 1) * (u * 1 - 0 * v) * (p * v - u * q)) * (q * q + p * p) := by grind
  rw [e, pos_right n]
  omega
theorem bet_far {p q u v : Int} (hp : ¬ (p = 0 ∧ q = 0)) (hu : ¬ (u = 0 ∧ v = 0)) : betZ (q * q - p * p) (2 * p * q) (v * v - u * u) (2 * u * v) (-1) 0 ↔ (1 * q - p * 0) * (u * 0 - 1 * v) * (p * v - u * q) < 0 := by
  unfold betZ
  have b := bet_halves (c := p) (s := q) (d := v * q + u * p) (t := u * q - v * p) hp (turn_zero hp hu)
  rw [show (-1 : Int) * (q * q - p * p) + 0 * (2 * p * q) = p * p - q * q by grind, show (0 : Int) * (q * q - p * p) - -1 * (2 * p * q) = 2 * (p * q) by grind,
    show (v * v - u * u) * (q * q - p * p) + 2 * u * v * (2 * p * q) = (v * q + u * p) * (v * q + u * p) - (u * q - v * p) * (u * q - v * p) by grind,
    show 2 * u * v * (q * q - p * p) - (v * v - u * u) * (2 * p * q) = 2 * ((v * q + u * p) * (u * q - v * p)) by grind, b]
  have n := square_sum_pos hp
  have e : q * (u * q - v * p) * (p * (u * q - v * p) - (v * q + u * p) * q) = -((1 * q - p * 0) * (u * 0 - 1 * v) * (p * v - u * q)) * (q * q + p * p) := by grind
  rw [e, pos_right n]
  omega
/-- the crank passes the place (a, b), as the program tells it -/
def passB (p q a b u v l : Int) : Bool := if l = 1 then decide ((a * q - p * b) * (u * b - a * v) * (p * v - u * q) < 0) else decide ((a * q - p * b) * (u * b - a * v) * (p * v - u * q) > 0)
theorem beq_one {l : Nat} : (l == 1) = true ↔ (l : Int) = 1 := by
  rw [beq_iff_eq]
  omega
theorem pass_near {p q u v : Int} {l : Nat} (hp : ¬ (p = 0 ∧ q = 0)) (hu : ¬ (u = 0 ∧ v = 0)) : passB p q 0 1 u v l = true ↔ onZ (l == 1) p q u v 1 0 := by
  unfold passB onZ
  by_cases c : (l : Int) = 1
  · rw [if_pos c, if_pos (beq_one.2 c), bet_near hp hu, decide_eq_true_iff]
  · rw [if_neg c, if_neg (fun z => c (beq_one.1 z)), bet_near hu hp, decide_eq_true_iff]
    have e : (0 * q - p * 1) * (u * 1 - 0 * v) * (p * v - u * q) = -((0 * v - u * 1) * (p * 1 - 0 * q) * (u * q - p * v)) := by grind
    omega
theorem pass_far {p q u v : Int} {l : Nat} (hp : ¬ (p = 0 ∧ q = 0)) (hu : ¬ (u = 0 ∧ v = 0)) : passB p q 1 0 u v l = true ↔ onZ (l == 1) p q u v (-1) 0 := by
  unfold passB onZ
  by_cases c : (l : Int) = 1
  · rw [if_pos c, if_pos (beq_one.2 c), bet_far hp hu, decide_eq_true_iff]
  · rw [if_neg c, if_neg (fun z => c (beq_one.1 z)), bet_far hu hp, decide_eq_true_iff]
    have e : (1 * q - p * 0) * (u * 0 - 1 * v) * (p * v - u * q) = -((1 * v - u * 0) * (p * 0 - 1 * q) * (u * q - p * v)) := by grind
    omega
/-- drive, as the program tells it -/
def driveB (G A C R p q s l u v : Int) : Int :=
  let n := passB p q 0 1 u v l
  let f := passB p q 1 0 u v l
  if closeB G A C R p q = false then -3
  else if meetB G A C R u v = false ∨ (n = true ∧ meetB G A C R 0 1 = false) ∨ (f = true ∧ meetB G A C R 1 0 = false) then -4
  else if atBB G A u = true ∨ (n = true ∧ touchB G A C R 0 1 = true) ∨ (f = true ∧ touchB G A C R 1 0 = true) then -5
  else if touchB G A C R u v = true then 0 else s
theorem near_meet {G A C R : Nat} : meetB G A C R 0 1 = true ↔ L1 G A C R ≤ 2 * G * A ∧ (2 * G * A : Int) ≤ L2 G A C R := by
  rw [meet_iff]
  omega
theorem far_meet {G A C R : Nat} : meetB G A C R 1 0 = true ↔ L1 G A C R ≤ -(2 * G * A : Int) ∧ -(2 * G * A : Int) ≤ L2 G A C R := by
  rw [meet_iff]
  omega
theorem near_touch {G A C R : Nat} : touchB G A C R 0 1 = true ↔ L1 G A C R = 2 * G * A ∨ L2 G A C R = 2 * G * A := by
  rw [touch_iff]
  unfold touchZ
  omega
theorem far_touch {G A C R : Nat} : touchB G A C R 1 0 = true ↔ L1 G A C R = -(2 * G * A : Int) ∨ L2 G A C R = -(2 * G * A : Int) := by
  rw [touch_iff]
  unfold touchZ
  omega
theorem drive_rides {G A C R s l : Nat} {p q u v : Int} (hG : 1 ≤ G) (hA : 1 ≤ A) (hp : ¬ (p = 0 ∧ q = 0)) (hu : ¬ (u = 0 ∧ v = 0)) :
    Four.drive ⟨G, A, C, R⟩ (place p q) s (l == 1) (place u v) = driveB G A C R p q s l u v := by
  have D : (0 : Int) < 2 * G * A := Int.mul_pos (by omega) (by omega)
  have n1 := square_sum_pos hp
  have n2 := square_sum_pos hu
  have pp := square_nonneg p
  have qq := square_nonneg q
  have uu := square_nonneg u
  have vv := square_nonneg v
  -- what stands at the ends, against the bounds
  have hx1 : (q * q - p * p) * (2 * G * A) ≤ (q * q + p * p) * (2 * G * A) := Int.mul_le_mul_of_nonneg_right (by omega) (Int.le_of_lt D)
  have hx2 : -((q * q + p * p) * (2 * G * A)) ≤ (q * q - p * p) * (2 * G * A) := by
    rw [← Int.neg_mul]
    exact Int.mul_le_mul_of_nonneg_right (by omega) (Int.le_of_lt D)
  have hy1 : (v * v - u * u) * (2 * G * A) ≤ (v * v + u * u) * (2 * G * A) := Int.mul_le_mul_of_nonneg_right (by omega) (Int.le_of_lt D)
  have hy2 : -((v * v + u * u) * (2 * G * A)) ≤ (v * v - u * u) * (2 * G * A) := by
    rw [← Int.neg_mul]
    exact Int.mul_le_mul_of_nonneg_right (by omega) (Int.le_of_lt D)
  have mono : ∀ {x y n : Int}, 0 < n → x ≤ y → x * n ≤ y * n := fun hn h => Int.mul_le_mul_of_nonneg_right h (Int.le_of_lt hn)
  have canc : ∀ {x y n : Int}, 0 < n → x * n ≤ y * n → x ≤ y := fun hn h => Int.le_of_mul_le_mul_right h hn
  -- shut by the program's tests
  have sh : closesZ G A C R p q → (shutZ G A C R (passB p q 0 1 u v l = true) (passB p q 1 0 u v l = true) p q u v ↔ (meetB G A C R u v = false ∨ (passB p q 0 1 u v l = true ∧ meetB G A C R 0 1 = false) ∨ (passB p q 1 0 u v l = true ∧ meetB G A C R 1 0 = false))) := by
    intro k
    obtain ⟨_, k1, k2⟩ := k
    rw [Bool.eq_false_iff, Bool.eq_false_iff, Bool.eq_false_iff, ne_eq, ne_eq, ne_eq, meet_iff, near_meet, far_meet]
    have a1 : L1 G A C R ≤ 2 * G * A := canc n1 (by rw [Int.mul_comm (2 * (G : Int) * A)]; omega)
    have a2 : -(2 * G * A : Int) ≤ L2 G A C R := canc n1 (by rw [Int.neg_mul, Int.mul_comm (2 * (G : Int) * A)]; omega)
    have b1 : (2 * G * A : Int) ≤ L2 G A C R → (v * v - u * u) * (2 * G * A) ≤ L2 G A C R * (v * v + u * u) := fun h => by
      have := mono n2 h
      rw [Int.mul_comm (2 * (G : Int) * A)] at this
      omega
    have b2 : L1 G A C R ≤ -(2 * G * A : Int) → L1 G A C R * (v * v + u * u) ≤ (v * v - u * u) * (2 * G * A) := fun h => by
      have := mono n2 h
      rw [Int.neg_mul, Int.mul_comm (2 * (G : Int) * A)] at this
      omega
    unfold shutZ
    generalize (v * v - u * u) * (2 * G * A) = Y at *
    generalize L2 G A C R * (v * v + u * u) = Y2 at *
    generalize L1 G A C R * (v * v + u * u) = Y1 at *
    generalize (q * q - p * p) * (2 * G * A) = X at *
    generalize L2 G A C R * (q * q + p * p) = X2 at *
    generalize L1 G A C R * (q * q + p * p) = X1 at *
    generalize L1 G A C R = l1 at *
    generalize L2 G A C R = l2 at *
    generalize (2 * G * A : Int) = d at *
    by_cases on0 : passB p q 0 1 u v l = true <;> by_cases on1 : passB p q 1 0 u v l = true <;> simp only [on0, on1, true_and, false_and, not_true_eq_false, not_false_eq_true, false_or, or_false, Bool.false_eq_true] <;> omega
  have fk : ¬ shutZ G A C R (passB p q 0 1 u v l = true) (passB p q 1 0 u v l = true) p q u v → (forkZ G A C R (passB p q 0 1 u v l = true) (passB p q 1 0 u v l = true) u ↔ (atBB G A u = true ∨ (passB p q 0 1 u v l = true ∧ touchB G A C R 0 1 = true) ∨ (passB p q 1 0 u v l = true ∧ touchB G A C R 1 0 = true))) := by
    intro k
    rw [atBB_iff, near_touch, far_touch]
    unfold forkZ
    have z : passB p q 0 1 u v l = true → A = G → L2 G A C R = 2 * G * A := fun on0 e => by
      have a : ¬ L2 G A C R < 2 * G * A := fun w => k (Or.inl (Or.inl ⟨on0, w⟩))
      have b : L2 G A C R ≤ 2 * G * A := by
        subst e
        unfold L2
        have := square_nonneg ((C : Int) - R)
        grind
      omega
    constructor
    · rintro (⟨on0, h⟩ | ⟨on1, h⟩ | h)
      · refine Or.inr (Or.inl ⟨on0, ?_⟩)
        rcases h with h | h | h
        · exact Or.inr (z on0 h)
        · exact Or.inl h
        · exact Or.inr h
      · exact Or.inr (Or.inr ⟨on1, h⟩)
      · exact Or.inl h
    · rintro (h | ⟨on0, h⟩ | ⟨on1, h⟩)
      · exact Or.inr (Or.inr h)
      · exact Or.inl ⟨on0, Or.inr h⟩
      · exact Or.inr (Or.inl ⟨on1, h⟩)
  have cl := close_iff (G := G) (A := A) (C := C) (R := R) (p := p) (q := q)
  refine drive_told hG hA hp hu (pass_near hp hu) (pass_far hp hu) ?_ ?_ ?_ ?_ ?_
  · intro k
    unfold driveB
    rw [if_pos (by rw [Bool.eq_false_iff]; exact fun z => k (cl.1 z))]
  · intro k k4
    unfold driveB
    rw [if_neg (by rw [cl.2 k]; decide), if_pos ((sh k).1 k4)]
  · intro k k4 k5
    unfold driveB
    rw [if_neg (by rw [cl.2 k]; decide), if_neg (fun z => k4 ((sh k).2 z)), if_pos ((fk k4).1 k5)]
  · intro k k4 k5 k6
    unfold driveB
    rw [if_neg (by rw [cl.2 k]; decide), if_neg (fun z => k4 ((sh k).2 z)), if_neg (fun z => k5 ((fk k4).2 z)), if_pos (touch_iff.2 k6)]
  · intro k k4 k5 k6
    unfold driveB
    rw [if_neg (by rw [cl.2 k]; decide), if_neg (fun z => k4 ((sh k).2 z)), if_neg (fun z => k5 ((fk k4).2 z)), if_neg (fun z => k6 (touch_iff.1 z))]
/-- the places that the crank passes, as a list of what bears them -/
def passed {T : Type} (t0 t1 : T) : List (T × Int × Int) := [(t0, 0, 1), (t1, 1, 0)]
theorem drive_list {T : Type} (t0 t1 : T) (G A C R p q s l u v : Int) : driveB G A C R p q s l u v =
    if closeB G A C R p q = false then -3
    else if meetB G A C R u v = false ∨ ((((passed t0 t1).filter fun z => passB p q z.2.1 z.2.2 u v l).map fun z => meetB G A C R z.2.1 z.2.2).all id) = false then -4
    else if atBB G A u = true ∨ ((((passed t0 t1).filter fun z => passB p q z.2.1 z.2.2 u v l).map fun z => touchB G A C R z.2.1 z.2.2).any id) = true then -5
    else if touchB G A C R u v = true then 0 else s := by
  unfold driveB passed
  cases n : passB p q 0 1 u v l <;> cases f : passB p q 1 0 u v l <;> simp [n, f]
  cases meetB G A C R 0 1 <;> simp
end My
namespace My
open PySem PySem.Spec PyProof.Rows L2
open PySem.W (Codec)
def top (i : Nat) : Stmt := PySem.Challenge.pw_fourbars_s07_drive.main.body.getD i (.Pass ⟨0, 0, 0, 0⟩)
theorem Same.new {H : Hp} {p : Addr} {o : HO} (h : H p = none) : Same H (upd H p o) := fun b u e => by
  rw [upd_ne (ne_of_none e h)]
  exact e
theorem at_map {ns : List Int} {i : Nat} {x : V} (h : (ns.map V.int)[i]? = some x) : ∃ z, ns[i]? = some z ∧ x = V.int z := by
  rw [List.getElem?_map] at h
  cases e : ns[i]? with
  | none =>
    rw [e] at h
    cases h
  | some z =>
    rw [e] at h
    exact ⟨z, rfl, (Option.some.inj h).symm⟩
theorem take_more {α : Type} : ∀ {l : List α} {i : Nat} {x : α}, l[i]? = some x → l.take (i + 1) = l.take i ++ [x]
  | [], i, x, h => by simp at h
  | a :: l, 0, x, h => by
    have e : a = x := Option.some.inj h
    subst e
    rfl
  | a :: l, i + 1, x, h => by
    have ih := take_more (l := l) (i := i) (x := x) h
    show a :: l.take (i + 1) = a :: l.take i ++ [x]
    rw [ih]
    rfl
theorem idx_ne {a h : Int} {l : List Int} (e : ¬ a = h) : (a :: l).idxOf h = l.idxOf h + 1 := by
  rw [List.idxOf_cons, beq_eq_false_iff_ne.2 e]
  rfl
theorem index_at : ∀ {ns : List Int} {h : Int}, h ∈ ns → (ns.map V.int)[ns.idxOf h]? = some (V.int h)
  | [], h, m => by simp at m
  | a :: l, h, m => by
    by_cases e : a = h
    · subst e
      rw [List.idxOf_cons_self]
      rfl
    · have m' : h ∈ l := by
        rcases List.mem_cons.1 m with q | q
        · exact absurd q.symm e
        · exact q
      rw [idx_ne e]
      exact index_at m'
theorem index_ahead : ∀ {ns : List Int} {h : Int} {m : Nat} {z : V}, m < ns.idxOf h → (ns.map V.int)[m]? = some z → eqV z (V.int h) = false
  | [], h, m, z, l, e => by simp at e
  | a :: r, h, 0, z, l, e => by
    have ez : V.int a = z := Option.some.inj e
    subst ez
    show (a == h) = false
    rw [beq_eq_false_iff_ne]
    intro q
    subst q
    rw [List.idxOf_cons_self] at l
    exact absurd l (Nat.lt_irrefl 0)
  | a :: r, h, m + 1, z, l, e => by
    by_cases q : a = h
    · subst q
      rw [List.idxOf_cons_self] at l
      exact absurd l (Nat.not_lt_zero _)
    · rw [idx_ne q] at l
      exact index_ahead (ns := r) (Nat.lt_of_succ_lt_succ l) e
theorem flat_ints : ∀ ns : List Int, (ns.map V.int).all flatV = true
  | [] => rfl
  | _ :: r => by
    show (true && (r.map V.int).all flatV) = true
    rw [flat_ints r]
    rfl
theorem not_t {p : Prop} [Decidable p] (c : (!decide p) = true) : ¬ p := by
  intro h
  rw [decide_eq_true h] at c
  exact Bool.noConfusion c
theorem not_f {p : Prop} [Decidable p] (c : ¬ (!decide p) = true) : p := by
  by_cases h : p
  · exact h
  · refine absurd ?_ c
    rw [decide_eq_false h]
    rfl
def okLen (n : Int) : Bool := decide (1 ≤ n) && decide (n ≤ 999)
theorem okLen_iff (n : Int) : okLen n = true ↔ 1 ≤ n ∧ n ≤ 999 := by
  unfold okLen
  rw [Bool.and_eq_true, decide_eq_true_iff, decide_eq_true_iff]
/-- a place: a list or a tuple of two whole numbers -/
def Two (K : PySem.W.Frag) (H : Hp) (a : Addr) (x y : Int) : Prop := SqL K H a [V.int x, V.int y] ∨ SqT K H a [V.int x, V.int y]
theorem two_at0 {K : PySem.W.Frag} {H : Hp} {a : Addr} {x y : Int} {Q : VK} (h : Two K H a x y) (q : Q (.int x) H) : rIx K (.ref a) (.int 0) H Q := by
  rcases h with h | h
  · exact Or.inl ⟨a, _, 0, _, rfl, rfl, h, atI_nat (j := 0) rfl, q⟩
  · exact Or.inr (Or.inl ⟨a, _, 0, _, rfl, rfl, h, atI_nat (j := 0) rfl, q⟩)
theorem two_at1 {K : PySem.W.Frag} {H : Hp} {a : Addr} {x y : Int} {Q : VK} (h : Two K H a x y) (q : Q (.int y) H) : rIx K (.ref a) (.int 1) H Q := by
  rcases h with h | h
  · exact Or.inl ⟨a, _, 1, _, rfl, rfl, h, atI_nat (j := 1) rfl, q⟩
  · exact Or.inr (Or.inl ⟨a, _, 1, _, rfl, rfl, h, atI_nat (j := 1) rfl, q⟩)
theorem same_tup {K : PySem.W.Frag} {H H' : Hp} {a : Addr} {xs : List V} (e : Same H H') (h : SqT K H a xs) : SqT K H' a xs := by
  rcases h with (h | ⟨o, h⟩) | h
  · exact .inl (.inl (e _ _ h))
  · exact .inl (.inr ⟨o, e _ _ h⟩)
  · exact .inr h
theorem Two.same {K : PySem.W.Frag} {H H' : Hp} {a : Addr} {x y : Int} (h : Two K H a x y) (s : Same H H') : Two K H' a x y := by
  rcases h with h | h
  · exact Or.inl (s.seq h)
  · exact Or.inr (same_tup s h)
/-- the four lengths, a list -/
def Bars (K : PySem.W.Frag) (H : Hp) (a : Addr) (G A C R : Nat) : Prop := SqL K H a (([(G : Int), (A : Int), (C : Int), (R : Int)]).map V.int)
theorem Bars.same {K : PySem.W.Frag} {H H' : Hp} {a : Addr} {G A C R : Nat} (h : Bars K H a G A C R) (s : Same H H') : Bars K H' a G A C R := s.seq h
def Low (G A C R : Nat) (p q : Int) : Prop := (G ≤ 999 ∧ A ≤ 999 ∧ C ≤ 999 ∧ R ≤ 999) ∧ p.natAbs ≤ 99 ∧ q.natAbs ≤ 99
theorem mul_small {x y : Int} {m n : Nat} (hx : x.natAbs ≤ m) (hy : y.natAbs ≤ n) : (x * y).natAbs ≤ m * n := by
  rw [Int.natAbs_mul]
  exact Nat.mul_le_mul hx hy
theorem all_good (G A C R : Nat) : ([(G : Int), (A : Int), (C : Int), (R : Int)]).all okLen = true ↔ Good G A C R := by
  show (okLen G && (okLen A && (okLen C && (okLen R && true)))) = true ↔ _
  unfold Good
  rw [Bool.and_eq_true, Bool.and_eq_true, Bool.and_eq_true, Bool.and_eq_true, okLen_iff, okLen_iff, okLen_iff, okLen_iff]
  refine ⟨fun ⟨h1, h2, h3, h4, _⟩ => ?_, fun h => ?_⟩
  · omega
  · exact ⟨by omega, by omega, by omega, by omega, rfl⟩
theorem in1' {n : Nat} : (decide (0 ≤ (n : Int)) && decide ((n : Int) ≤ 1)) = decide (n ≤ 1) := by
  rw [decide_eq_true (show (0 : Int) ≤ n by omega), Bool.true_and]
  by_cases c : n ≤ 1
  · rw [decide_eq_true c, decide_eq_true (by omega)]
  · rw [decide_eq_false c, decide_eq_false (by omega)]
abbrev sLens : Stmt := top 3
theorem scLens : FnScope ["lengths", "length"] ["lengths"] (defScope sLens) := ⟨rfl, rfl, rfl, by decide +kernel, rfl, by decide +kernel, by decide +kernel⟩
def spLens (K : PySem.W.Frag) : Sp := fun vs H Q _ => ∃ (a : Addr) (ns : List Int), vs = [.ref a] ∧ SqL K H a (ns.map V.int) ∧ ns.length ≤ 1000 ∧ ∀ H' : Hp, Same H H' → Q (.bl (ns.all okLen)) H'
section
variable {P : Program} {w : World} {K : PySem.W.Frag} {mg : Str → Option Value} {base : Heap}
theorem ok_Lens {f : Addr} {fd : FuncData} (F : Fun K "are_lengths" "are_lengths" sLens f fd) (nAll : mg "all" = none) : FnOk P w K mg base CX0 1 f fd ["lengths"] (spLens K) := by
  refine F.ok scLens (fun vs H Q E h => ?_) (fun cdv A outer s H vs Q E hr h => ?_)
  · obtain ⟨a, ns, rfl, _⟩ := h
    rfl
  · obtain ⟨a, ns, rfl, hS, hlen, k⟩ := h
    refine ⟨_, pss_one (ps_ret (pe_callB (cr_all rfl) (by rfl) nAll (by decide +kernel) (pa_cons
      (pe_lc (own := [("length", 1)]) (g := gName 1) (tt := tYes) rfl scLens.nd (pi_list (pv 0)) (blkOk_by (N := ["lengths", "length"]) (sc := defScope sLens) (by decide +kernel))
        (fun _ _ _ _ _ => pg_name (i := 1) scLens.nd rfl (Or.inl rfl)) (fun _ _ _ _ _ => pts_nil) (fun _ _ _ _ _ => pe_chain op_le op_le pe_int (pv 1) pe_int)) pa_nil))), ?_⟩
    refine ⟨_, rfl, a, rfl, ⟨_, hS⟩, fun D hD => lc_list (K := K) (a := a) (xs := ns.map V.int) (fun i H' => Same H H' ∧ H' D = some (.lst (((ns.take i).map okLen).map V.bl)))
      ⟨Same.new hD, upd_same⟩ (fun i H' _ q => q.1.seq hS) ?_ ?_⟩
    · rintro i x H' hi ⟨sm, hd⟩
      obtain ⟨z, hz, rfl⟩ := at_map hi
      have il : i < ns.length := (List.getElem?_eq_some_iff.mp hz).1
      have fin : ∀ b : Bool, b = okLen z → ∃ acc, H' D = some (.lst acc) ∧ acc.length < sizeLine ∧ (Same H (upd H' D (.lst (acc ++ [V.bl b]))) ∧ (upd H' D (.lst (acc ++ [V.bl b]))) D = some (.lst (((ns.take (i + 1)).map okLen).map V.bl))) := fun b e => by
        refine ⟨_, hd, ?_, fun c o q => ?_, ?_⟩
        · rw [List.length_map, List.length_map, List.length_take]
          exact small1000 (Nat.le_trans (Nat.min_le_right _ _) hlen)
        · rw [upd_ne (ne_of_none q hD)]
          exact sm c o q
        · rw [upd_same, take_more hz, List.map_append, List.map_append, e]
          rfl
      refine ⟨rfl, _, rfl, _, _, rfl, rfl, _, rfl, ?_⟩
      by_cases c : 1 ≤ z
      · rw [decide_eq_true c]
        refine iteT ⟨_, _, rfl, rfl, fin _ ?_⟩
        unfold okLen
        rw [decide_eq_true c]
        rfl
      · rw [decide_eq_false c]
        refine iteF (fin _ ?_)
        unfold okLen
        rw [decide_eq_false c]
        rfl
    · rintro H' ⟨sm, hd⟩
      rw [List.length_map, List.take_length] at hd
      refine ⟨D, ns.map okLen, rfl, SqL.of hd, ?_⟩
      have e : (ns.map okLen).all id = ns.all okLen := by
        rw [List.all_map]
        rfl
      rw [e]
      exact k H' sm
end
abbrev sChoice : Stmt := top 4
theorem scChoice : FnScope ["number"] ["number"] (defScope sChoice) := ⟨rfl, rfl, rfl, by decide +kernel, rfl, by decide +kernel, by decide +kernel⟩
def spChoice : Sp := fun vs H Q _ => ∃ n : Int, vs = [.int n] ∧ Q (.bl (decide (0 ≤ n) && decide (n ≤ 1))) H
section
variable {P : Program} {w : World} {K : PySem.W.Frag} {mg : Str → Option Value} {base : Heap}
theorem ok_Choice {f : Addr} {fd : FuncData} (F : Fun K "is_choice" "is_choice" sChoice f fd) : FnOk P w K mg base CX0 1 f fd ["number"] spChoice := by
  refine F.ok scChoice (fun vs H Q E h => ?_) (fun cdv A outer s H vs Q E hr h => ?_)
  · obtain ⟨n, rfl, _⟩ := h
    rfl
  · obtain ⟨n, rfl, k⟩ := h
    refine ⟨_, pss_one (ps_ret (pe_chain op_le op_le pe_int (pv 0) pe_int)), ?_⟩
    refine ⟨_, rfl, _, _, rfl, rfl, _, rfl, ?_⟩
    by_cases c : 0 ≤ n
    · rw [decide_eq_true c] at k ⊢
      exact iteT ⟨_, _, rfl, rfl, k⟩
    · rw [decide_eq_false c] at k ⊢
      exact iteF k
end
abbrev sPlace : Stmt := top 5
theorem scPlace : FnScope ["place", "number"] ["place"] (defScope sPlace) := ⟨rfl, rfl, rfl, by decide +kernel, rfl, by decide +kernel, by decide +kernel⟩
def okPl (n : Int) : Bool := decide (-99 ≤ n) && decide (n ≤ 99)
def placeB (p q : Int) : Bool := ([p, q]).all okPl && !(decide (p = 0) && decide (q = 0))
theorem placeB_is (p q : Int) : placeB p q = LkDSpec.isPlace p q := by
  rw [Bool.eq_iff_iff, isPlace_iff]
  unfold placeB okPl
  simp only [List.all_cons, List.all_nil, Bool.and_true, Bool.and_eq_true, Bool.not_eq_true', Bool.and_eq_false_iff, decide_eq_true_eq, decide_eq_false_iff_not]
  omega
theorem eqv_two (p q : Int) : PyData.eqv (.list [.int p, .int q]) (.list [.int 0, .int 0]) = (decide (p = 0) && decide (q = 0)) := by
  simp only [PyData.eqv, PyData.eqvAll, Bool.and_true]
  rw [Bool.eq_iff_iff]
  simp
def spPlace (K : PySem.W.Frag) : Sp := fun vs H Q _ => ∃ (a : Addr) (p q : Int), vs = [.ref a] ∧ SqL K H a (([p, q]).map V.int) ∧ ∀ H' : Hp, Same H H' → Q (.bl (placeB p q)) H'
section
variable {P : Program} {w : World} {K : PySem.W.Frag} {mg : Str → Option Value} {base : Heap}
theorem ok_Place {f : Addr} {fd : FuncData} (F : Fun K "is_place" "is_place" sPlace f fd) (nAll : mg "all" = none) : FnOk P w K mg base CX0 1 f fd ["place"] (spPlace K) := by
  refine F.ok scPlace (fun vs H Q E h => ?_) (fun cdv A outer s H vs Q E hr h => ?_)
  · obtain ⟨a, p, q, rfl, _⟩ := h
    rfl
  · obtain ⟨a, p, q, rfl, hS, k⟩ := h
    refine ⟨_, pss_one (ps_ret (pe_and (pe_callB (cr_all rfl) (by rfl) nAll (by decide +kernel) (pa_cons
      (pe_lc (own := [("number", 1)]) (g := gName 1) (tt := tYes) rfl scPlace.nd (pi_list (pv 0)) (blkOk_by (N := ["place", "number"]) (sc := defScope sPlace) (by decide +kernel))
        (fun _ _ _ _ _ => pg_name (i := 1) scPlace.nd rfl (Or.inl rfl)) (fun _ _ _ _ _ => pts_nil) (fun _ _ _ _ _ => pe_chain op_le op_le (pe_un un_neg pe_int) (pv 1) pe_int)) pa_nil))
      (pe_one (pe_cmpR (op_neD hr.units) (pv 0) (pe_lst (pa_cons pe_int (pa_cons pe_int pa_nil))) (nomark _))))), ?_⟩
    refine ⟨_, rfl, a, rfl, ⟨_, hS⟩, fun D hD => lc_list (K := K) (a := a) (xs := ([p, q]).map V.int) (fun i H' => Same H H' ∧ H' D = some (.lst (((([p, q]).take i).map okPl).map V.bl)))
      ⟨Same.new hD, upd_same⟩ (fun i H' _ q => q.1.seq hS) ?_ ?_⟩
    · rintro i x H' hi ⟨sm, hd⟩
      obtain ⟨z, hz, rfl⟩ := at_map hi
      have fin : ∀ b : Bool, b = okPl z → ∃ acc, H' D = some (.lst acc) ∧ acc.length < sizeLine ∧ (Same H (upd H' D (.lst (acc ++ [V.bl b]))) ∧ (upd H' D (.lst (acc ++ [V.bl b]))) D = some (.lst (((([p, q]).take (i + 1)).map okPl).map V.bl))) := fun b e => by
        refine ⟨_, hd, ?_, fun c o q => ?_, ?_⟩
        · rw [List.length_map, List.length_map, List.length_take]
          exact Nat.lt_of_le_of_lt (Nat.min_le_right _ _) (by show 2 < sizeLine; decide)
        · rw [upd_ne (ne_of_none q hD)]
          exact sm c o q
        · rw [upd_same, take_more hz, List.map_append, List.map_append, e]
          rfl
      refine ⟨rfl, _, rfl, _, rfl, _, _, rfl, rfl, _, rfl, ?_⟩
      by_cases c : -99 ≤ z
      · rw [decide_eq_true c]
        refine iteT ⟨_, _, rfl, rfl, fin _ ?_⟩
        unfold okPl
        rw [decide_eq_true c]
        rfl
      · rw [decide_eq_false c]
        refine iteF (fin _ ?_)
        unfold okPl
        rw [decide_eq_false c]
        rfl
    · rintro H' ⟨sm, hd⟩
      rw [List.length_map, List.take_length] at hd
      refine ⟨D, ([p, q]).map okPl, rfl, SqL.of hd, ?_⟩
      have e : (([p, q]).map okPl).all id = ([p, q]).all okPl := by
        rw [List.all_map]
        rfl
      rw [e]
      refine ⟨_, rfl, ?_⟩
      unfold placeB at k
      cases c : ([p, q]).all okPl
      · rw [c] at k
        exact k H' sm
      · rw [c, Bool.true_and] at k
        refine ⟨_, rfl, (by show 2 ≤ sizeLine; decide), fun t ht => ?_⟩
        have sm2 := sm.trans (Same.new (o := .lst [V.int 0, V.int 0]) ht)
        refine ⟨.list [.int p, .int q], .list [.int 0, .int 0], Dp.lst (sm2.seq hS) (.cons (.int p) (.cons (.int q) .nil)), Dp.lst (SqL.of upd_same) (.cons (.int 0) (.cons (.int 0) .nil)), rfl, rfl, ?_⟩
        rw [eqv_two]
        exact k _ sm2
end
abbrev sSquare : Stmt := top 12
theorem scSquare : FnScope ["number"] ["number"] (defScope sSquare) := ⟨rfl, rfl, rfl, by decide +kernel, rfl, by decide +kernel, by decide +kernel⟩
def spSquare : Sp := fun vs H Q _ => ∃ (n : Int) (k : Nat), vs = [.int n] ∧ 0 < k ∧ k ≤ 8000 ∧ n.natAbs < 2 ^ k ∧ Q (.int (n * n)) H
section
variable {P : Program} {w : World} {K : PySem.W.Frag} {mg : Str → Option Value} {base : Heap}
theorem ok_Square {f : Addr} {fd : FuncData} (F : Fun K "square" "square" sSquare f fd) : FnOk P w K mg base CX0 1 f fd ["number"] spSquare := by
  refine F.ok scSquare (fun vs H Q E h => ?_) (fun cdv A outer s H vs Q E hr h => ?_)
  · obtain ⟨n, k, rfl, _⟩ := h
    rfl
  · obtain ⟨n, k, rfl, k0, k8, hn, q⟩ := h
    refine ⟨_, pss_one (ps_ret (pe_op op_mulW (pv 0) (pv 0))), ?_⟩
    exact ⟨_, rfl, _, rfl, _, _, rfl, rfl, wide_mul hn hn k0 k0 (by omega), q⟩
end
abbrev sWayIn : Stmt := top 6
theorem scWayIn : FnScope ["bar", "another", "folded"] ["bar", "another", "folded"] (defScope sWayIn) := ⟨rfl, rfl, rfl, by decide +kernel, rfl, by decide +kernel, by decide +kernel⟩
def wayZ (x y f : Int) : Int := if f = 1 then x - y else x + y
def spWayIn : Sp := fun vs H Q _ => ∃ x y f : Int, vs = [.int x, .int y, .int f] ∧ Q (.int (wayZ x y f)) H
section
variable {P : Program} {w : World} {K : PySem.W.Frag} {mg : Str → Option Value} {base : Heap}
theorem ok_WayIn {f : Addr} {fd : FuncData} (F : Fun K "way_in_line" "way_in_line" sWayIn f fd) : FnOk P w K mg base CX0 1 f fd ["bar", "another", "folded"] spWayIn := by
  refine F.ok scWayIn (fun vs H Q E h => ?_) (fun cdv A outer s H vs Q E hr h => ?_)
  · obtain ⟨x, y, f, rfl, _⟩ := h
    rfl
  · obtain ⟨x, y, f, rfl, k⟩ := h
    refine ⟨_, pss_cons (ps_if (pt_cmpR op_eq (pv 2) pe_int (nomark _)) (pss_one (ps_ret (pe_op op_sub (pv 0) (pv 1)))) pss_nil)
      (pss_one (ps_ret (pe_op op_add (pv 0) (pv 1)))), ?_⟩
    unfold wayZ at k
    refine ⟨_, rfl, rfl, _, rfl, ite2 (fun c => ?_) fun c => ?_⟩
    · rw [if_pos (V.int.inj (of_decide_eq_true c))] at k
      exact ⟨_, rfl, _, rfl, _, _, rfl, rfl, k⟩
    · rw [if_neg (fun q => c (decide_eq_true (congrArg V.int q)))] at k
      exact ⟨_, rfl, _, rfl, _, _, rfl, rfl, k⟩
end
abbrev sSquares : Stmt := top 11
theorem scSquares : FnScope ["lengths", "place", "along", "against", "folded", "stretched", "nearest", "farthest", "way"] ["lengths", "place"] (defScope sSquares) := ⟨rfl, rfl, rfl, by decide +kernel, rfl, by decide +kernel, by decide +kernel⟩
def spSquares (K : PySem.W.Frag) : Sp := fun vs H Q _ => ∃ (a b : Addr) (G A C R : Nat) (p q : Int), vs = [.ref a, .ref b] ∧ Bars K H a G A C R ∧ Two K H b p q ∧ Low G A C R p q ∧
  ∀ (H' : Hp) (l : Addr), Same H H' → H' l = some (.lst [V.int (foldZ C R p q), V.int (wayZZ G A p q), V.int (strZ C R p q)]) → Q (.ref l) H'
section
variable {P : Program} {w : World} {K : PySem.W.Frag} {mg : Str → Option Value} {base : Heap}
theorem ok_Squares {f fSquare fWayIn : Addr} {fd fdSquare fdWayIn : FuncData} (F : Fun K "squares_at" "squares_at" sSquares f fd)
    (FSquare : Fun K "square" "square" sSquare fSquare fdSquare) (bSquare : Binds K fdSquare ["number"] []) (gSquare : mg "square" = some (.ref fSquare))
    (FWayIn : Fun K "way_in_line" "way_in_line" sWayIn fWayIn fdWayIn) (bWayIn : Binds K fdWayIn ["bar", "another", "folded"] []) (gWayIn : mg "way_in_line" = some (.ref fWayIn)) : FnOk P w K mg base CX0 2 f fd ["lengths", "place"] (spSquares K) := by
  have OSquare : FnOk P w K mg base CX0 1 fSquare fdSquare ["number"] spSquare := ok_Square FSquare
  have OWayIn : FnOk P w K mg base CX0 1 fWayIn fdWayIn ["bar", "another", "folded"] spWayIn := ok_WayIn FWayIn
  refine F.ok scSquares (fun vs H Q E h => ?_) (fun cdv A outer s H vs Q E hr h => ?_)
  · obtain ⟨a, b, G, A, C, R, p, q, rfl, _⟩ := h
    rfl
  · obtain ⟨a, b, G, A, C, R, p, q, rfl, hL, hP, ⟨⟨b1, b2, b3, b4⟩, b5, b6⟩, k⟩ := h
    refine ⟨_, pss_cons (ps_set (i := 2) scSquares.nd rfl (Or.inl rfl) (pe_op op_mul (pe_ix ix_seq (pv 1) pe_int (fun _ _ => rfl)) (pe_ix ix_seq (pv 1) pe_int (fun _ _ => rfl))))
      (pss_cons (ps_set (i := 3) scSquares.nd rfl (Or.inl rfl) (pe_op op_mul (pe_ix ix_seq (pv 1) pe_int (fun _ _ => rfl)) (pe_ix ix_seq (pv 1) pe_int (fun _ _ => rfl))))
      (pss_cons (ps_set (i := 4) scSquares.nd rfl (Or.inl rfl) (pe_call OSquare hr rfl gSquare FSquare.kp bSquare .nil pass0 (pa_cons (pe_call OWayIn hr rfl gWayIn FWayIn.kp bWayIn .nil pass0 (pa_cons (pe_ix ix_list (pv 0) pe_int (fun _ _ => rfl)) (pa_cons (pe_ix ix_list (pv 0) pe_int (fun _ _ => rfl)) (pa_cons pe_int pa_nil)))) pa_nil)))
      (pss_cons (ps_set (i := 5) scSquares.nd rfl (Or.inl rfl) (pe_call OSquare hr rfl gSquare FSquare.kp bSquare .nil pass0 (pa_cons (pe_call OWayIn hr rfl gWayIn FWayIn.kp bWayIn .nil pass0 (pa_cons (pe_ix ix_list (pv 0) pe_int (fun _ _ => rfl)) (pa_cons (pe_ix ix_list (pv 0) pe_int (fun _ _ => rfl)) (pa_cons pe_int pa_nil)))) pa_nil)))
      (pss_cons (ps_set (i := 6) scSquares.nd rfl (Or.inl rfl) (pe_call OSquare hr rfl gSquare FSquare.kp bSquare .nil pass0 (pa_cons (pe_call OWayIn hr rfl gWayIn FWayIn.kp bWayIn .nil pass0 (pa_cons (pe_ix ix_list (pv 0) pe_int (fun _ _ => rfl)) (pa_cons (pe_ix ix_list (pv 0) pe_int (fun _ _ => rfl)) (pa_cons pe_int pa_nil)))) pa_nil)))
      (pss_cons (ps_set (i := 7) scSquares.nd rfl (Or.inl rfl) (pe_call OSquare hr rfl gSquare FSquare.kp bSquare .nil pass0 (pa_cons (pe_call OWayIn hr rfl gWayIn FWayIn.kp bWayIn .nil pass0 (pa_cons (pe_ix ix_list (pv 0) pe_int (fun _ _ => rfl)) (pa_cons (pe_ix ix_list (pv 0) pe_int (fun _ _ => rfl)) (pa_cons pe_int pa_nil)))) pa_nil)))
      (pss_cons (ps_set (i := 8) scSquares.nd rfl (Or.inl rfl) (pe_op op_add (pe_op op_mul (pv 6) (pv 2)) (pe_op op_mul (pv 7) (pv 3))))
      (pss_one (ps_ret (pe_lst (pa_cons (pe_op op_mul (pv 4) (pe_op op_add (pv 2) (pv 3))) (pa_cons (pv 8) (pa_cons (pe_op op_mul (pv 5) (pe_op op_add (pv 2) (pv 3))) pa_nil)))))))))))), ?_⟩
    have f1 : ((C : Int) - R).natAbs ≤ 1998 := by omega
    have f2 : ((C : Int) + R).natAbs ≤ 1998 := by omega
    have f3 : ((G : Int) - A).natAbs ≤ 1998 := by omega
    have f4 : ((G : Int) + A).natAbs ≤ 1998 := by omega
    have w1 : ∀ x y : Int, wayZ x y 1 = x - y := fun x y => if_pos rfl
    have w0 : ∀ x y : Int, wayZ x y 0 = x + y := fun x y => if_neg (by decide)
    have s1 := mul_small f1 f1
    have s2 := mul_small f2 f2
    have s3 := mul_small f3 f3
    have s4 := mul_small f4 f4
    refine ⟨_, rfl, two_at1 hP ⟨_, rfl, two_at1 hP ⟨_, _, rfl, rfl, .inl (by omega), ?_⟩⟩⟩
    refine ⟨_, rfl, two_at0 hP ⟨_, rfl, two_at0 hP ⟨_, _, rfl, rfl, .inl (by omega), ?_⟩⟩⟩
    refine ⟨_, rfl, a, _, 2, _, rfl, rfl, hL, atI_nat (j := 2) rfl, _, rfl, a, _, 3, _, rfl, rfl, hL, atI_nat (j := 3) rfl, _, _, _, rfl, ?_⟩
    rw [w1]
    refine ⟨_, 12, rfl, by decide, by decide, (by show _ < 4096; omega), ?_⟩
    refine ⟨_, rfl, a, _, 2, _, rfl, rfl, hL, atI_nat (j := 2) rfl, _, rfl, a, _, 3, _, rfl, rfl, hL, atI_nat (j := 3) rfl, _, _, _, rfl, ?_⟩
    rw [w0]
    refine ⟨_, 12, rfl, by decide, by decide, (by show _ < 4096; omega), ?_⟩
    refine ⟨_, rfl, a, _, 0, _, rfl, rfl, hL, atI_nat (j := 0) rfl, _, rfl, a, _, 1, _, rfl, rfl, hL, atI_nat (j := 1) rfl, _, _, _, rfl, ?_⟩
    rw [w1]
    refine ⟨_, 12, rfl, by decide, by decide, (by show _ < 4096; omega), ?_⟩
    refine ⟨_, rfl, a, _, 0, _, rfl, rfl, hL, atI_nat (j := 0) rfl, _, rfl, a, _, 1, _, rfl, rfl, hL, atI_nat (j := 1) rfl, _, _, _, rfl, ?_⟩
    rw [w0]
    refine ⟨_, 12, rfl, by decide, by decide, (by show _ < 4096; omega), ?_⟩
    refine ⟨_, rfl, _, rfl, _, _, rfl, rfl, .inl (by omega), ?_⟩
    refine ⟨_, rfl, _, rfl, _, _, rfl, rfl, .inl (by omega), ?_⟩
    refine ⟨_, _, rfl, rfl, ?_⟩
    refine ⟨_, rfl, _, rfl, _, rfl, _, _, rfl, rfl, _, _, rfl, rfl, .inl (by omega), ?_⟩
    refine ⟨_, rfl, ?_⟩
    refine ⟨_, rfl, _, rfl, _, rfl, _, _, rfl, rfl, _, _, rfl, rfl, .inl (by omega), ?_⟩
    refine ⟨(by show 3 ≤ sizeLine; decide), fun l hl => k _ l (Same.new hl) ?_⟩
    rw [upd_same]
    rfl
end
abbrev sMeets : Stmt := top 8
theorem scMeets : FnScope ["lengths", "place", "squares"] ["lengths", "place"] (defScope sMeets) := ⟨rfl, rfl, rfl, by decide +kernel, rfl, by decide +kernel, by decide +kernel⟩
def spMeets (K : PySem.W.Frag) : Sp := fun vs H Q _ => ∃ (a b : Addr) (G A C R : Nat) (p q : Int), vs = [.ref a, .ref b] ∧ Bars K H a G A C R ∧ Two K H b p q ∧ Low G A C R p q ∧ ∀ H' : Hp, Same H H' → Q (.bl (meetB G A C R p q)) H'
section
variable {P : Program} {w : World} {K : PySem.W.Frag} {mg : Str → Option Value} {base : Heap}
theorem ok_Meets {f fSquare fWayIn fSquares : Addr} {fd fdSquare fdWayIn fdSquares : FuncData} (F : Fun K "meets" "meets" sMeets f fd)
    (FSquare : Fun K "square" "square" sSquare fSquare fdSquare) (bSquare : Binds K fdSquare ["number"] []) (gSquare : mg "square" = some (.ref fSquare))
    (FWayIn : Fun K "way_in_line" "way_in_line" sWayIn fWayIn fdWayIn) (bWayIn : Binds K fdWayIn ["bar", "another", "folded"] []) (gWayIn : mg "way_in_line" = some (.ref fWayIn))
    (FSquares : Fun K "squares_at" "squares_at" sSquares fSquares fdSquares) (bSquares : Binds K fdSquares ["lengths", "place"] []) (gSquares : mg "squares_at" = some (.ref fSquares)) : FnOk P w K mg base CX0 3 f fd ["lengths", "place"] (spMeets K) := by
  have OSquares : FnOk P w K mg base CX0 2 fSquares fdSquares ["lengths", "place"] (spSquares K) := ok_Squares FSquares FSquare bSquare gSquare FWayIn bWayIn gWayIn
  refine F.ok scMeets (fun vs H Q E h => ?_) (fun cdv A outer s H vs Q E hr h => ?_)
  · obtain ⟨a, b, G, A, C, R, p, q, rfl, _⟩ := h
    rfl
  · obtain ⟨a, b, G, A, C, R, p, q, rfl, hL, hP, hW, k⟩ := h
    refine ⟨_, pss_cons (ps_set (i := 2) scMeets.nd rfl (Or.inl rfl) (pe_call OSquares hr rfl gSquares FSquares.kp bSquares .nil pass0 (pa_cons (pv 0) (pa_cons (pv 1) pa_nil))))
      (pss_one (ps_ret (pe_chain op_le op_le (pe_ix ix_list (pv 2) pe_int (fun _ _ => rfl)) (pe_ix ix_list (pv 2) pe_int (fun _ _ => rfl)) (pe_ix ix_list (pv 2) pe_int (fun _ _ => rfl))))), ?_⟩
    refine ⟨_, rfl, _, rfl, a, b, G, A, C, R, p, q, rfl, hL, hP, hW, fun H1 l s1 hl => ?_⟩
    have k1 := k _ s1
    unfold meetB at k1
    refine ⟨_, rfl, l, _, 0, _, rfl, rfl, SqL.of hl, atI_nat (j := 0) rfl, _, rfl, l, _, 1, _, rfl, rfl, SqL.of hl, atI_nat (j := 1) rfl, _, _, rfl, rfl, _, rfl, ?_⟩
    cases c : decide (foldZ C R p q ≤ wayZZ G A p q)
    · rw [c] at k1
      exact k1
    · rw [c] at k1
      exact ⟨_, rfl, l, _, 2, _, rfl, rfl, SqL.of hl, atI_nat (j := 2) rfl, _, _, rfl, rfl, k1⟩
end
abbrev sAtB : Stmt := top 10
theorem scAtB : FnScope ["lengths", "place"] ["lengths", "place"] (defScope sAtB) := ⟨rfl, rfl, rfl, by decide +kernel, rfl, by decide +kernel, by decide +kernel⟩
def spAtB (K : PySem.W.Frag) : Sp := fun vs H Q _ => ∃ (a b : Addr) (G A C R : Nat) (p q : Int), vs = [.ref a, .ref b] ∧ Bars K H a G A C R ∧ Two K H b p q ∧ Q (.bl (atBB G A p)) H
section
variable {P : Program} {w : World} {K : PySem.W.Frag} {mg : Str → Option Value} {base : Heap}
theorem ok_AtB {f : Addr} {fd : FuncData} (F : Fun K "is_at_b" "is_at_b" sAtB f fd) : FnOk P w K mg base CX0 1 f fd ["lengths", "place"] (spAtB K) := by
  refine F.ok scAtB (fun vs H Q E h => ?_) (fun cdv A outer s H vs Q E hr h => ?_)
  · obtain ⟨a, b, G, A, C, R, p, q, rfl, _⟩ := h
    rfl
  · obtain ⟨a, b, G, A, C, R, p, q, rfl, hL, hP, k⟩ := h
    refine ⟨_, pss_one (ps_ret (pe_and (pe_cmpR op_eq (pe_ix ix_list (pv 0) pe_int (fun _ _ => rfl)) (pe_ix ix_list (pv 0) pe_int (fun _ _ => rfl)) (nomark _))
      (pe_one (pe_cmpR op_eq (pe_ix ix_seq (pv 1) pe_int (fun _ _ => rfl)) pe_int (nomark _))))), ?_⟩
    refine ⟨_, rfl, a, _, 0, _, rfl, rfl, hL, atI_nat (j := 0) rfl, _, rfl, a, _, 1, _, rfl, rfl, hL, atI_nat (j := 1) rfl, rfl, _, rfl, ?_⟩
    unfold atBB at k
    have e1 : decide (V.int (G : Int) = V.int (A : Int)) = decide ((G : Int) = A) := decide_eq_decide.2 ⟨V.int.inj, congrArg V.int⟩
    have e2 : decide (V.int p = V.int 0) = decide (p = 0) := decide_eq_decide.2 ⟨V.int.inj, congrArg V.int⟩
    rw [e1]
    cases c : decide ((G : Int) = A)
    · rw [c] at k
      exact k
    · rw [c] at k
      refine ⟨_, rfl, two_at0 hP ⟨rfl, ?_⟩⟩
      rw [e2]
      exact k
end
abbrev sCloses : Stmt := top 7
theorem scCloses : FnScope ["lengths", "place"] ["lengths", "place"] (defScope sCloses) := ⟨rfl, rfl, rfl, by decide +kernel, rfl, by decide +kernel, by decide +kernel⟩
def spCloses (K : PySem.W.Frag) : Sp := fun vs H Q _ => ∃ (a b : Addr) (G A C R : Nat) (p q : Int), vs = [.ref a, .ref b] ∧ Bars K H a G A C R ∧ Two K H b p q ∧ Low G A C R p q ∧ ∀ H' : Hp, Same H H' → Q (.bl (closeB G A C R p q)) H'
section
variable {P : Program} {w : World} {K : PySem.W.Frag} {mg : Str → Option Value} {base : Heap}
theorem ok_Closes {f fSquare fWayIn fSquares fMeets fAtB : Addr} {fd fdSquare fdWayIn fdSquares fdMeets fdAtB : FuncData} (F : Fun K "closes" "closes" sCloses f fd)
    (FSquare : Fun K "square" "square" sSquare fSquare fdSquare) (bSquare : Binds K fdSquare ["number"] []) (gSquare : mg "square" = some (.ref fSquare))
    (FWayIn : Fun K "way_in_line" "way_in_line" sWayIn fWayIn fdWayIn) (bWayIn : Binds K fdWayIn ["bar", "another", "folded"] []) (gWayIn : mg "way_in_line" = some (.ref fWayIn))
    (FSquares : Fun K "squares_at" "squares_at" sSquares fSquares fdSquares) (bSquares : Binds K fdSquares ["lengths", "place"] []) (gSquares : mg "squares_at" = some (.ref fSquares))
    (FMeets : Fun K "meets" "meets" sMeets fMeets fdMeets) (bMeets : Binds K fdMeets ["lengths", "place"] []) (gMeets : mg "meets" = some (.ref fMeets))
    (FAtB : Fun K "is_at_b" "is_at_b" sAtB fAtB fdAtB) (bAtB : Binds K fdAtB ["lengths", "place"] []) (gAtB : mg "is_at_b" = some (.ref fAtB)) : FnOk P w K mg base CX0 4 f fd ["lengths", "place"] (spCloses K) := by
  have OMeets : FnOk P w K mg base CX0 3 fMeets fdMeets ["lengths", "place"] (spMeets K) := ok_Meets FMeets FSquare bSquare gSquare FWayIn bWayIn gWayIn FSquares bSquares gSquares
  have OAtB : FnOk P w K mg base CX0 1 fAtB fdAtB ["lengths", "place"] (spAtB K) := ok_AtB FAtB
  refine F.ok scCloses (fun vs H Q E h => ?_) (fun cdv A outer s H vs Q E hr h => ?_)
  · obtain ⟨a, b, G, A, C, R, p, q, rfl, _⟩ := h
    rfl
  · obtain ⟨a, b, G, A, C, R, p, q, rfl, hL, hP, hW, k⟩ := h
    refine ⟨_, pss_one (ps_ret (pe_and (pe_call OMeets hr rfl gMeets FMeets.kp bMeets .nil pass0 (pa_cons (pv 0) (pa_cons (pv 1) pa_nil))) (pe_one (pe_not (pe_call OAtB (hr.mono (by decide)) rfl gAtB FAtB.kp bAtB .nil pass0 (pa_cons (pv 0) (pa_cons (pv 1) pa_nil))))))), ?_⟩
    refine ⟨_, rfl, _, rfl, a, b, G, A, C, R, p, q, rfl, hL, hP, hW, fun H1 s1 => ⟨_, rfl, ?_⟩⟩
    have k1 := k _ s1
    unfold closeB at k1
    cases c : meetB G A C R p q
    · rw [c] at k1
      exact k1
    · rw [c] at k1
      exact ⟨_, rfl, _, rfl, a, b, G, A, C, R, p, q, rfl, hL.same s1, hP.same s1, _, rfl, k1⟩
end
abbrev sHalf : Stmt := top 14
theorem scHalf : FnScope ["place", "another"] ["place", "another"] (defScope sHalf) := ⟨rfl, rfl, rfl, by decide +kernel, rfl, by decide +kernel, by decide +kernel⟩
def spHalf (K : PySem.W.Frag) : Sp := fun vs H Q _ => ∃ (a b : Addr) (x y u v : Int), vs = [.ref a, .ref b] ∧ Two K H a x y ∧ Two K H b u v ∧ (x.natAbs ≤ 99 ∧ u.natAbs ≤ 99) ∧ Q (.int (u * y - x * v)) H
section
variable {P : Program} {w : World} {K : PySem.W.Frag} {mg : Str → Option Value} {base : Heap}
theorem ok_Half {f : Addr} {fd : FuncData} (F : Fun K "half_angle_rise" "half_angle_rise" sHalf f fd) : FnOk P w K mg base CX0 1 f fd ["place", "another"] (spHalf K) := by
  refine F.ok scHalf (fun vs H Q E h => ?_) (fun cdv A outer s H vs Q E hr h => ?_)
  · obtain ⟨a, b, x, y, u, v, rfl, _⟩ := h
    rfl
  · obtain ⟨a, b, x, y, u, v, rfl, hA, hB, ⟨b1, b2⟩, k⟩ := h
    refine ⟨_, pss_one (ps_ret (pe_op op_sub (pe_op op_mul (pe_ix ix_seq (pv 1) pe_int (fun _ _ => rfl)) (pe_ix ix_seq (pv 0) pe_int (fun _ _ => rfl)))
      (pe_op op_mul (pe_ix ix_seq (pv 0) pe_int (fun _ _ => rfl)) (pe_ix ix_seq (pv 1) pe_int (fun _ _ => rfl))))), ?_⟩
    refine ⟨_, rfl, two_at0 hB ⟨_, rfl, two_at1 hA ⟨_, _, rfl, rfl, .inl (by omega), ?_⟩⟩⟩
    refine ⟨_, rfl, two_at0 hA ⟨_, rfl, two_at1 hB ⟨_, _, rfl, rfl, .inl (by omega), ?_⟩⟩⟩
    exact ⟨_, _, rfl, rfl, k⟩
end
abbrev sPasses : Stmt := top 13
theorem scPasses : FnScope ["start", "place", "end", "left", "rises"] ["start", "place", "end", "left"] (defScope sPasses) := ⟨rfl, rfl, rfl, by decide +kernel, rfl, by decide +kernel, by decide +kernel⟩
def spPasses (K : PySem.W.Frag) : Sp := fun vs H Q _ => ∃ (a b c : Addr) (p q x y u v l : Int), vs = [.ref a, .ref b, .ref c, .int l] ∧ Two K H a p q ∧ Two K H b x y ∧ Two K H c u v ∧
  ((p.natAbs ≤ 99 ∧ q.natAbs ≤ 99) ∧ (x.natAbs ≤ 99 ∧ y.natAbs ≤ 99) ∧ (u.natAbs ≤ 99 ∧ v.natAbs ≤ 99)) ∧ Q (.bl (passB p q x y u v l)) H
section
variable {P : Program} {w : World} {K : PySem.W.Frag} {mg : Str → Option Value} {base : Heap}
theorem ok_Passes {f fHalf : Addr} {fd fdHalf : FuncData} (F : Fun K "passes" "passes" sPasses f fd)
    (FHalf : Fun K "half_angle_rise" "half_angle_rise" sHalf fHalf fdHalf) (bHalf : Binds K fdHalf ["place", "another"] []) (gHalf : mg "half_angle_rise" = some (.ref fHalf)) : FnOk P w K mg base CX0 2 f fd ["start", "place", "end", "left"] (spPasses K) := by
  have OHalf : FnOk P w K mg base CX0 1 fHalf fdHalf ["place", "another"] (spHalf K) := ok_Half FHalf
  refine F.ok scPasses (fun vs H Q E h => ?_) (fun cdv A outer s H vs Q E hr h => ?_)
  · obtain ⟨a, b, c, p, q, x, y, u, v, l, rfl, _⟩ := h
    rfl
  · obtain ⟨a, b, c, p, q, x, y, u, v, l, rfl, hA, hB, hC, ⟨⟨b1, b2⟩, ⟨b3, b4⟩, b5, b6⟩, k⟩ := h
    refine ⟨_, pss_cons (ps_set (i := 4) scPasses.nd rfl (Or.inl rfl) (pe_op op_mul (pe_op op_mul (pe_call OHalf hr rfl gHalf FHalf.kp bHalf .nil pass0 (pa_cons (pv 0) (pa_cons (pv 1) pa_nil))) (pe_call OHalf hr rfl gHalf FHalf.kp bHalf .nil pass0 (pa_cons (pv 1) (pa_cons (pv 2) pa_nil)))) (pe_call OHalf hr rfl gHalf FHalf.kp bHalf .nil pass0 (pa_cons (pv 2) (pa_cons (pv 0) pa_nil)))))
      (pss_cons (ps_if (pt_cmpR op_eq (pv 3) pe_int (nomark _)) (pss_one (ps_ret (pe_cmpR op_lt (pv 4) pe_int (nomark _)))) pss_nil)
      (pss_one (ps_ret (pe_cmpR op_gt (pv 4) pe_int (nomark _))))), ?_⟩
    have m1 : (x * q - p * y).natAbs ≤ 19602 := by
      have := mul_small b3 b2
      have := mul_small b1 b4
      omega
    have m2 : (u * y - x * v).natAbs ≤ 19602 := by
      have := mul_small b5 b4
      have := mul_small b3 b6
      omega
    have m3 := mul_small m1 m2
    refine ⟨_, rfl, _, rfl, a, b, p, q, x, y, rfl, hA, hB, ⟨b1, b3⟩, ?_⟩
    refine ⟨_, rfl, _, rfl, b, c, x, y, u, v, rfl, hB, hC, ⟨b3, b5⟩, _, _, rfl, rfl, .inl (by omega), ?_⟩
    refine ⟨_, rfl, _, rfl, c, a, u, v, p, q, rfl, hC, hA, ⟨b5, b1⟩, _, _, rfl, rfl, .inl (by omega), ?_⟩
    unfold passB at k
    refine ⟨_, rfl, rfl, _, rfl, ite2 (fun d => ?_) fun d => ?_⟩
    · rw [if_pos (V.int.inj (of_decide_eq_true d))] at k
      exact ⟨_, rfl, _, _, rfl, rfl, k⟩
    · rw [if_neg (fun z => d (decide_eq_true (congrArg V.int z)))] at k
      exact ⟨_, rfl, _, _, rfl, rfl, k⟩
end
abbrev sTouches : Stmt := top 9
theorem scTouches : FnScope ["lengths", "place", "squares"] ["lengths", "place"] (defScope sTouches) := ⟨rfl, rfl, rfl, by decide +kernel, rfl, by decide +kernel, by decide +kernel⟩
def spTouches (K : PySem.W.Frag) : Sp := fun vs H Q _ => ∃ (a b : Addr) (G A C R : Nat) (p q : Int), vs = [.ref a, .ref b] ∧ Bars K H a G A C R ∧ Two K H b p q ∧ Low G A C R p q ∧ ∀ H' : Hp, Same H H' → Q (.bl (touchB G A C R p q)) H'
section
variable {P : Program} {w : World} {K : PySem.W.Frag} {mg : Str → Option Value} {base : Heap}
theorem ok_Touches {f fSquare fWayIn fSquares : Addr} {fd fdSquare fdWayIn fdSquares : FuncData} (F : Fun K "touches" "touches" sTouches f fd)
    (FSquare : Fun K "square" "square" sSquare fSquare fdSquare) (bSquare : Binds K fdSquare ["number"] []) (gSquare : mg "square" = some (.ref fSquare))
    (FWayIn : Fun K "way_in_line" "way_in_line" sWayIn fWayIn fdWayIn) (bWayIn : Binds K fdWayIn ["bar", "another", "folded"] []) (gWayIn : mg "way_in_line" = some (.ref fWayIn))
    (FSquares : Fun K "squares_at" "squares_at" sSquares fSquares fdSquares) (bSquares : Binds K fdSquares ["lengths", "place"] []) (gSquares : mg "squares_at" = some (.ref fSquares)) : FnOk P w K mg base CX0 3 f fd ["lengths", "place"] (spTouches K) := by
  have OSquares : FnOk P w K mg base CX0 2 fSquares fdSquares ["lengths", "place"] (spSquares K) := ok_Squares FSquares FSquare bSquare gSquare FWayIn bWayIn gWayIn
  refine F.ok scTouches (fun vs H Q E h => ?_) (fun cdv A outer s H vs Q E hr h => ?_)
  · obtain ⟨a, b, G, A, C, R, p, q, rfl, _⟩ := h
    rfl
  · obtain ⟨a, b, G, A, C, R, p, q, rfl, hL, hP, hW, k⟩ := h
    refine ⟨_, pss_cons (ps_set (i := 2) scTouches.nd rfl (Or.inl rfl) (pe_call OSquares hr rfl gSquares FSquares.kp bSquares .nil pass0 (pa_cons (pv 0) (pa_cons (pv 1) pa_nil))))
      (pss_one (ps_ret (pe_or (pe_cmpR op_eq (pe_ix ix_list (pv 2) pe_int (fun _ _ => rfl)) (pe_ix ix_list (pv 2) pe_int (fun _ _ => rfl)) (nomark _)) (pe_one (pe_cmpR op_eq (pe_ix ix_list (pv 2) pe_int (fun _ _ => rfl)) (pe_ix ix_list (pv 2) pe_int (fun _ _ => rfl)) (nomark _)))))), ?_⟩
    refine ⟨_, rfl, _, rfl, a, b, G, A, C, R, p, q, rfl, hL, hP, hW, fun H1 l s1 hl => ?_⟩
    have k1 := k _ s1
    unfold touchB at k1
    have e : ∀ x y : Int, decide (V.int x = V.int y) = decide (x = y) := fun x y => decide_eq_decide.2 ⟨V.int.inj, congrArg V.int⟩
    refine ⟨_, rfl, l, _, 1, _, rfl, rfl, SqL.of hl, atI_nat (j := 1) rfl, _, rfl, l, _, 0, _, rfl, rfl, SqL.of hl, atI_nat (j := 0) rfl, rfl, _, rfl, ?_⟩
    rw [e]
    cases c : decide (wayZZ G A p q = foldZ C R p q)
    · rw [c] at k1
      refine ⟨_, rfl, l, _, 1, _, rfl, rfl, SqL.of hl, atI_nat (j := 1) rfl, _, rfl, l, _, 2, _, rfl, rfl, SqL.of hl, atI_nat (j := 2) rfl, rfl, ?_⟩
      rw [e]
      exact k1
    · rw [c] at k1
      exact k1
end
abbrev sDrive : Stmt := top 2
theorem scDrive : FnScope ["g", "a", "c", "r", "p", "q", "s", "left", "p2", "q2", "lengths", "start", "end", "passed", "place"] ["g", "a", "c", "r", "p", "q", "s", "left", "p2", "q2"] (defScope sDrive) := ⟨rfl, rfl, rfl, by decide +kernel, rfl, by decide +kernel, by decide +kernel⟩
def spDrive : Sp := fun vs H Q _ => ∃ (G A C R : Nat) (p q : Int) (s l : Nat) (u v : Int), vs = [.int (G : Int), .int (A : Int), .int (C : Int), .int (R : Int), .int p, .int q, .int (s : Int), .int (l : Int), .int u, .int v] ∧
  ∀ (H' : Hp) (a : Addr), H' a = some (.lst ((PyWqapbt.drive G A C R p q s l u v).map V.int)) → Q (.ref a) H'
theorem at_map' {T : Type} {f : T → V} {ns : List T} {i : Nat} {x : V} (h : (ns.map f)[i]? = some x) : ∃ z, ns[i]? = some z ∧ x = f z := by
  rw [List.getElem?_map] at h
  cases e : ns[i]? with
  | none =>
    rw [e] at h
    cases h
  | some z =>
    rw [e] at h
    exact ⟨z, rfl, (Option.some.inj h).symm⟩
theorem mem_at {T : Type} : ∀ {l : List T} {i : Nat} {x : T}, l[i]? = some x → x ∈ l
  | [], i, x, h => by simp at h
  | a :: l, 0, x, h => by
    have e : a = x := Option.some.inj h
    subst e
    exact List.mem_cons_self
  | a :: l, i + 1, x, h => List.mem_cons_of_mem _ (mem_at (l := l) (i := i) h)
theorem take_len {T : Type} {l : List T} {i n : Nat} (h : l.length ≤ n) : (l.take i).length ≤ n := by
  rw [List.length_take]
  omega
section
variable {P : Program} {w : World} {K : PySem.W.Frag} {mg : Str → Option Value} {base : Heap}
theorem ok_Drive {f fLens fChoice fPlace fSquare fWayIn fSquares fMeets fAtB fCloses fHalf fPasses fTouches tN t0 t1 : Addr} {fd fdLens fdChoice fdPlace fdSquare fdWayIn fdSquares fdMeets fdAtB fdCloses fdHalf fdPasses fdTouches : FuncData} (F : Fun K "drive" "drive" sDrive f fd)
    (FLens : Fun K "are_lengths" "are_lengths" sLens fLens fdLens) (bLens : Binds K fdLens ["lengths"] []) (gLens : mg "are_lengths" = some (.ref fLens))
    (FChoice : Fun K "is_choice" "is_choice" sChoice fChoice fdChoice) (bChoice : Binds K fdChoice ["number"] []) (gChoice : mg "is_choice" = some (.ref fChoice))
    (FPlace : Fun K "is_place" "is_place" sPlace fPlace fdPlace) (bPlace : Binds K fdPlace ["place"] []) (gPlace : mg "is_place" = some (.ref fPlace))
    (FSquare : Fun K "square" "square" sSquare fSquare fdSquare) (bSquare : Binds K fdSquare ["number"] []) (gSquare : mg "square" = some (.ref fSquare))
    (FWayIn : Fun K "way_in_line" "way_in_line" sWayIn fWayIn fdWayIn) (bWayIn : Binds K fdWayIn ["bar", "another", "folded"] []) (gWayIn : mg "way_in_line" = some (.ref fWayIn))
    (FSquares : Fun K "squares_at" "squares_at" sSquares fSquares fdSquares) (bSquares : Binds K fdSquares ["lengths", "place"] []) (gSquares : mg "squares_at" = some (.ref fSquares))
    (FMeets : Fun K "meets" "meets" sMeets fMeets fdMeets) (bMeets : Binds K fdMeets ["lengths", "place"] []) (gMeets : mg "meets" = some (.ref fMeets))
    (FAtB : Fun K "is_at_b" "is_at_b" sAtB fAtB fdAtB) (bAtB : Binds K fdAtB ["lengths", "place"] []) (gAtB : mg "is_at_b" = some (.ref fAtB))
    (FCloses : Fun K "closes" "closes" sCloses fCloses fdCloses) (bCloses : Binds K fdCloses ["lengths", "place"] []) (gCloses : mg "closes" = some (.ref fCloses))
    (FHalf : Fun K "half_angle_rise" "half_angle_rise" sHalf fHalf fdHalf) (bHalf : Binds K fdHalf ["place", "another"] []) (gHalf : mg "half_angle_rise" = some (.ref fHalf))
    (FPasses : Fun K "passes" "passes" sPasses fPasses fdPasses) (bPasses : Binds K fdPasses ["start", "place", "end", "left"] []) (gPasses : mg "passes" = some (.ref fPasses))
    (FTouches : Fun K "touches" "touches" sTouches fTouches fdTouches) (bTouches : Binds K fdTouches ["lengths", "place"] []) (gTouches : mg "touches" = some (.ref fTouches)) (nAll : mg "all" = none) (nAny : mg "any" = none)
    (gtN : mg "NEAREST_AND_FARTHEST" = some (.ref tN)) (htN : ∀ H : Hp, SqT K H tN [V.ref t0, V.ref t1]) (ht0 : ∀ H : Hp, SqT K H t0 [V.int 0, V.int 1]) (ht1 : ∀ H : Hp, SqT K H t1 [V.int 1, V.int 0]) : FnOk P w K mg base CX0 5 f fd ["g", "a", "c", "r", "p", "q", "s", "left", "p2", "q2"] spDrive := by
  have OLens : FnOk P w K mg base CX0 1 fLens fdLens ["lengths"] (spLens K) := ok_Lens FLens nAll
  have OChoice : FnOk P w K mg base CX0 1 fChoice fdChoice ["number"] spChoice := ok_Choice FChoice
  have OPlace : FnOk P w K mg base CX0 1 fPlace fdPlace ["place"] (spPlace K) := ok_Place FPlace nAll
  have OCloses : FnOk P w K mg base CX0 4 fCloses fdCloses ["lengths", "place"] (spCloses K) := ok_Closes FCloses FSquare bSquare gSquare FWayIn bWayIn gWayIn FSquares bSquares gSquares FMeets bMeets gMeets FAtB bAtB gAtB
  have OPasses : FnOk P w K mg base CX0 2 fPasses fdPasses ["start", "place", "end", "left"] (spPasses K) := ok_Passes FPasses FHalf bHalf gHalf
  have OMeets : FnOk P w K mg base CX0 3 fMeets fdMeets ["lengths", "place"] (spMeets K) := ok_Meets FMeets FSquare bSquare gSquare FWayIn bWayIn gWayIn FSquares bSquares gSquares
  have OTouches : FnOk P w K mg base CX0 3 fTouches fdTouches ["lengths", "place"] (spTouches K) := ok_Touches FTouches FSquare bSquare gSquare FWayIn bWayIn gWayIn FSquares bSquares gSquares
  have OAtB : FnOk P w K mg base CX0 1 fAtB fdAtB ["lengths", "place"] (spAtB K) := ok_AtB FAtB
  refine F.ok scDrive (fun vs H Q E h => ?_) (fun cdv A outer s H vs Q E hr h => ?_)
  · obtain ⟨G, A, C, R, p, q, s, l, u, v, rfl, _⟩ := h
    rfl
  · obtain ⟨G, A, C, R, p, q, si, l, u, v, rfl, k⟩ := h
    refine ⟨_, pss_cons (ps_set (i := 10) scDrive.nd rfl (Or.inr rfl) (pe_lst (pa_cons (pv 0) (pa_cons (pv 1) (pa_cons (pv 2) (pa_cons (pv 3) pa_nil))))))
      (pss_cons (ps_set (i := 11) scDrive.nd rfl (Or.inr rfl) (pe_lst (pa_cons (pv 4) (pa_cons (pv 5) pa_nil))))
      (pss_cons (ps_set (i := 12) scDrive.nd rfl (Or.inr rfl) (pe_lst (pa_cons (pv 8) (pa_cons (pv 9) pa_nil))))
      (pss_cons (ps_if (PW.pt (pw_or (pt_not (pt_val (pe_call OLens (hr.mono (by decide)) rfl gLens FLens.kp bLens .nil pass0 (pa_cons (pv 10) pa_nil)))) (pw_or (pt_not (pt_val (pe_call OChoice (hr.mono (by decide)) rfl gChoice FChoice.kp bChoice .nil pass0 (pa_cons (pv 6) pa_nil)))) (pw_or1 (pt_not (pt_val (pe_call OChoice (hr.mono (by decide)) rfl gChoice FChoice.kp bChoice .nil pass0 (pa_cons (pv 7) pa_nil))))))))
        (pss_one (ps_ret (pe_lst (pa_cons (pe_un un_neg pe_int) pa_nil)))) pss_nil)
      (pss_cons (ps_if (PW.pt (pw_or (pt_not (pt_val (pe_call OPlace (hr.mono (by decide)) rfl gPlace FPlace.kp bPlace .nil pass0 (pa_cons (pv 11) pa_nil)))) (pw_or1 (pt_not (pt_val (pe_call OPlace (hr.mono (by decide)) rfl gPlace FPlace.kp bPlace .nil pass0 (pa_cons (pv 12) pa_nil)))))))
        (pss_one (ps_ret (pe_lst (pa_cons (pe_un un_neg pe_int) pa_nil)))) pss_nil)
      (pss_cons (ps_if (pt_not (pt_val (pe_call OCloses hr rfl gCloses FCloses.kp bCloses .nil pass0 (pa_cons (pv 10) (pa_cons (pv 11) pa_nil))))) (pss_one (ps_ret (pe_lst (pa_cons (pe_un un_neg pe_int) pa_nil)))) pss_nil)
      (pss_cons (ps_setLc (i := 13) (own := [("place", 14)]) (g := gName 14) rfl scDrive.nd rfl rfl (sw_true rfl rfl rfl (by decide +kernel)) (pi_tup (pe_glob (v := V.ref tN) rfl gtN rfl)) (blkOk_by (own := [("place", 14)]) (N := ["g", "a", "c", "r", "p", "q", "s", "left", "p2", "q2", "lengths", "start", "end", "passed", "place"]) (sc := defScope sDrive) (by decide +kernel))
        (fun _ _ _ _ _ => pg_name (i := 14) scDrive.nd rfl (Or.inl rfl)) (fun _ _ _ _ _ => pts_one (pt_val (pe_call OPasses (hr.mono (by decide)) rfl gPasses FPasses.kp bPasses .nil pass0 (pa_cons (pv 11) (pa_cons (pv 14) (pa_cons (pv 12) (pa_cons (pv 7) pa_nil))))))) (fun _ _ _ _ _ => pv 14))
      (pss_cons (ps_if (PW.pt (pw_or (pt_not (pt_val (pe_call OMeets (hr.mono (by decide)) rfl gMeets FMeets.kp bMeets .nil pass0 (pa_cons (pv 10) (pa_cons (pv 12) pa_nil))))) (pw_or1 (pt_not (pt_val (pe_callB (cr_all rfl) (by rfl) nAll (by decide +kernel) (pa_cons
        (pe_lc (own := [("place", 14)]) (g := gName 14) (tt := tYes) rfl scDrive.nd (pi_list (pv 13)) (blkOk_by (N := ["g", "a", "c", "r", "p", "q", "s", "left", "p2", "q2", "lengths", "start", "end", "passed", "place"]) (sc := defScope sDrive) (by decide +kernel))
          (fun _ _ _ _ _ => pg_name (i := 14) scDrive.nd rfl (Or.inl rfl)) (fun _ _ _ _ _ => pts_nil) (fun _ _ _ _ _ => pe_call OMeets (hr.mono (by decide)) rfl gMeets FMeets.kp bMeets .nil pass0 (pa_cons (pv 10) (pa_cons (pv 14) pa_nil)))) pa_nil)))))))
        (pss_one (ps_ret (pe_lst (pa_cons (pe_un un_neg pe_int) pa_nil)))) pss_nil)
      (pss_cons (ps_if (PW.pt (pw_or (pt_val (pe_call OAtB (hr.mono (by decide)) rfl gAtB FAtB.kp bAtB .nil pass0 (pa_cons (pv 10) (pa_cons (pv 12) pa_nil)))) (pw_or1 (pt_val (pe_callB (cr_any rfl) (by rfl) nAny (by decide +kernel) (pa_cons
        (pe_lc (own := [("place", 14)]) (g := gName 14) (tt := tYes) rfl scDrive.nd (pi_list (pv 13)) (blkOk_by (N := ["g", "a", "c", "r", "p", "q", "s", "left", "p2", "q2", "lengths", "start", "end", "passed", "place"]) (sc := defScope sDrive) (by decide +kernel))
          (fun _ _ _ _ _ => pg_name (i := 14) scDrive.nd rfl (Or.inl rfl)) (fun _ _ _ _ _ => pts_nil) (fun _ _ _ _ _ => pe_call OTouches (hr.mono (by decide)) rfl gTouches FTouches.kp bTouches .nil pass0 (pa_cons (pv 10) (pa_cons (pv 14) pa_nil)))) pa_nil))))))
        (pss_one (ps_ret (pe_lst (pa_cons (pe_un un_neg pe_int) pa_nil)))) pss_nil)
      (pss_cons (ps_if (pt_val (pe_call OTouches (hr.mono (by decide)) rfl gTouches FTouches.kp bTouches .nil pass0 (pa_cons (pv 10) (pa_cons (pv 12) pa_nil)))) (pss_one (ps_ret (pe_lst (pa_cons pe_int pa_nil)))) pss_nil)
      (pss_one (ps_ret (pe_lst (pa_cons (pv 6) pa_nil))))))))))))), ?_⟩
    have bad : ¬ (Good G A C R ∧ LkDSpec.isPlace p q = true ∧ LkDSpec.isPlace u v = true ∧ si ≤ 1 ∧ l ≤ 1) → ∀ (H' : Hp) (l : Addr), H' l = some (.lst [V.int (-1)]) → Q (.ref l) H' := fun h H' l e => k H' l (by rw [drive_bad h]; exact e)
    refine ⟨_, rfl, _, rfl, _, rfl, _, rfl, (by show 4 ≤ sizeLine; decide), fun a ha => ?_⟩
    refine ⟨_, rfl, _, rfl, (by show 2 ≤ sizeLine; decide), fun b hb => ?_⟩
    refine ⟨_, rfl, _, rfl, (by show 2 ≤ sizeLine; decide), fun e he => ?_⟩
    have hA := (Same.new (o := .lst [V.int u, V.int v]) he) _ _ ((Same.new (o := .lst [V.int p, V.int q]) hb) _ _ (upd_same : (upd H a (.lst [V.int G, V.int A, V.int C, V.int R])) a = _))
    have hB := (Same.new (o := .lst [V.int u, V.int v]) he) _ _ (upd_same : (upd (upd H a (.lst [V.int G, V.int A, V.int C, V.int R])) b (.lst [V.int p, V.int q])) b = _)
    have hE : (upd (upd (upd H a (.lst [V.int G, V.int A, V.int C, V.int R])) b (.lst [V.int p, V.int q])) e (.lst [V.int u, V.int v])) e = some (.lst [V.int u, V.int v]) := upd_same
    generalize (upd (upd (upd H a (.lst [V.int G, V.int A, V.int C, V.int R])) b (.lst [V.int p, V.int q])) e (.lst [V.int u, V.int v])) = H0 at hA hB hE ⊢
    refine ⟨_, rfl, a, [(G : Int), (A : Int), (C : Int), (R : Int)], rfl, SqL.of hA, (by show 4 ≤ 1000; decide), fun H1 s1 => ⟨_, rfl, ?_⟩⟩
    by_cases g : Good G A C R
    · rw [(all_good ..).2 g]
      refine iteF ⟨_, rfl, _, rfl, _, rfl, ?_⟩
      rw [in1']
      refine ite2 (fun c => ?_) fun c => ?_
      · have hs : ¬ si ≤ 1 := not_t c
        exact ⟨_, rfl, (by show 1 ≤ sizeLine; decide), fun t ht => bad (fun z => hs z.2.2.2.1) _ t upd_same⟩
      have hs : si ≤ 1 := not_f c
      refine ⟨_, rfl, _, rfl, _, rfl, ?_⟩
      rw [in1']
      refine ite2 (fun c => ?_) fun c => ?_
      · have hl : ¬ l ≤ 1 := not_t c
        exact ⟨_, rfl, (by show 1 ≤ sizeLine; decide), fun t ht => bad (fun z => hl z.2.2.2.2) _ t upd_same⟩
      have hl : l ≤ 1 := not_f c
      refine ⟨_, rfl, b, p, q, rfl, s1.seq (SqL.of hB), fun H2 s2 => ⟨_, rfl, ?_⟩⟩
      rw [placeB_is]
      cases hpl : LkDSpec.isPlace p q
      · exact iteT ⟨_, rfl, (by show 1 ≤ sizeLine; decide), fun t ht => bad (fun z => by rw [hpl] at z; exact Bool.noConfusion z.2.1) _ t upd_same⟩
      have s02 := s1.trans s2
      refine iteF ⟨_, rfl, e, u, v, rfl, s02.seq (SqL.of hE), fun H3 s3 => ⟨_, rfl, ?_⟩⟩
      rw [placeB_is]
      cases hpu : LkDSpec.isPlace u v
      · exact iteT ⟨_, rfl, (by show 1 ≤ sizeLine; decide), fun t ht => bad (fun z => by rw [hpu] at z; exact Bool.noConfusion z.2.2.1) _ t upd_same⟩
      have s03 := s02.trans s3
      obtain ⟨p1, p2, p3⟩ := (isPlace_iff p q).1 hpl
      obtain ⟨u1, u2, u3⟩ := (isPlace_iff u v).1 hpu
      obtain ⟨⟨g1, g2⟩, ⟨g3, g4⟩, ⟨g5, g6⟩, g7, g8⟩ := g
      rw [drive_good ⟨⟨g1, g2⟩, ⟨g3, g4⟩, ⟨g5, g6⟩, g7, g8⟩ ⟨hpl, hpu, hs, hl⟩, drive_rides g1 g3 p3 u3, drive_list t0 t1] at k
      have lowS : Low G A C R p q := ⟨⟨g2, g4, g6, g8⟩, p1, p2⟩
      have lowE : Low G A C R u v := ⟨⟨g2, g4, g6, g8⟩, u1, u2⟩
      refine iteF ⟨_, rfl, _, rfl, a, b, G, A, C, R, p, q, rfl, s03.seq (SqL.of hA), Or.inl (s03.seq (SqL.of hB)), lowS, fun H4 s4 => ⟨_, rfl, ?_⟩⟩
      have s04 := s03.trans s4
      cases cl : closeB G A C R p q
      · rw [if_pos cl] at k
        exact iteT ⟨_, rfl, (by show 1 ≤ sizeLine; decide), fun t ht => k _ t upd_same⟩
      rw [if_neg (show ¬ closeB G A C R p q = false by rw [cl]; decide)] at k
      refine iteF ⟨tN, rfl, ⟨_, htN _⟩, fun D hD => lc_tup (K := K) (a := tN) (xs := (passed t0 t1).map fun z => V.ref z.1)
        (fun i H' => Same H4 H' ∧ H' D = some (.lst ((((passed t0 t1).take i).filter fun z => passB p q z.2.1 z.2.2 u v l).map fun z => V.ref z.1)))
        ⟨Same.new hD, upd_same⟩ (fun i H' _ q => htN _) ?_ ?_⟩
      · rintro i x H' hi ⟨sm, hd⟩
        obtain ⟨z, hz, rfl⟩ := at_map' hi
        have hzT : Two K H' z.1 z.2.1 z.2.2 ∧ z.2.1.natAbs ≤ 99 ∧ z.2.2.natAbs ≤ 99 := by
          have m := mem_at hz
          unfold passed at m
          rcases List.mem_cons.1 m with rfl | m
          · exact ⟨Or.inr (ht0 _), (by show (0 : Int).natAbs ≤ 99; decide), (by show (1 : Int).natAbs ≤ 99; decide)⟩
          · rcases List.mem_cons.1 m with rfl | m
            · exact ⟨Or.inr (ht1 _), (by show (1 : Int).natAbs ≤ 99; decide), (by show (0 : Int).natAbs ≤ 99; decide)⟩
            · cases m
        have s0' := s04.trans sm
        refine ⟨rfl, _, rfl, _, rfl, _, rfl, _, rfl, b, z.1, e, p, q, z.2.1, z.2.2, u, v, l, rfl, Or.inl (s0'.seq (SqL.of hB)), hzT.1, Or.inl (s0'.seq (SqL.of hE)), ⟨⟨p1, p2⟩, hzT.2, u1, u2⟩, _, rfl, ?_⟩
        cases c : passB p q z.2.1 z.2.2 u v l
        · refine iteF ⟨sm, ?_⟩
          rw [hd, take_more hz, List.filter_append, List.filter_cons, if_neg (by rw [c]; decide), List.filter_nil, List.append_nil]
        · refine iteT ⟨_, rfl, _, hd, ?_, fun c' o q => ?_, ?_⟩
          · rw [List.length_map]
            exact Nat.lt_of_le_of_lt (Nat.le_trans (List.length_filter_le ..) (take_len (n := 2) (by show 2 ≤ 2; decide))) (by show 2 < sizeLine; decide)
          · rw [upd_ne (ne_of_none q hD)]
            exact sm c' o q
          · rw [upd_same, take_more hz, List.filter_append, List.filter_cons, if_pos c, List.filter_nil, List.map_append]
            rfl
      rintro H5 ⟨s5, hd⟩
      rw [List.length_map, List.take_length] at hd
      have hfl : ∀ z ∈ (passed t0 t1).filter fun z => passB p q z.2.1 z.2.2 u v l, (∀ H' : Hp, Two K H' z.1 z.2.1 z.2.2) ∧ z.2.1.natAbs ≤ 99 ∧ z.2.2.natAbs ≤ 99 := fun z m => by
        have m := (List.mem_filter.1 m).1
        unfold passed at m
        rcases List.mem_cons.1 m with rfl | m
        · exact ⟨fun _ => Or.inr (ht0 _), (by show (0 : Int).natAbs ≤ 99; decide), (by show (1 : Int).natAbs ≤ 99; decide)⟩
        · rcases List.mem_cons.1 m with rfl | m
          · exact ⟨fun _ => Or.inr (ht1 _), (by show (1 : Int).natAbs ≤ 99; decide), (by show (0 : Int).natAbs ≤ 99; decide)⟩
          · cases m
      have hlen : ((passed t0 t1).filter fun z => passB p q z.2.1 z.2.2 u v l).length ≤ 2 := List.length_filter_le ..
      generalize ((passed t0 t1).filter fun z => passB p q z.2.1 z.2.2 u v l) = fl at k hd hfl hlen
      have s05 := s04.trans s5
      refine ⟨_, rfl, _, rfl, a, e, G, A, C, R, u, v, rfl, s05.seq (SqL.of hA), Or.inl (s05.seq (SqL.of hE)), lowE, fun H6 s6 => ⟨_, rfl, ?_⟩⟩
      have s06 := s05.trans s6
      have hd6 := s6 _ _ hd
      cases m1 : meetB G A C R u v
      · rw [if_pos (Or.inl m1)] at k
        exact iteT ⟨_, rfl, (by show 1 ≤ sizeLine; decide), fun t ht => k _ t upd_same⟩
      refine iteF ⟨_, rfl, D, rfl, ⟨_, SqL.of hd6⟩, fun B hB' => lc_list (K := K) (a := D) (xs := fl.map fun z => V.ref z.1) (fun i H' => Same H6 H' ∧ H' B = some (.lst (((fl.take i).map fun z => meetB G A C R z.2.1 z.2.2).map V.bl)))
        ⟨Same.new hB', upd_same⟩ (fun i H' _ q => q.1.seq (SqL.of hd6)) ?_ ?_⟩
      · rintro i x H' hi ⟨sm, hd'⟩
        obtain ⟨z, hz, rfl⟩ := at_map' hi
        obtain ⟨z1, z2, z3⟩ := hfl z (mem_at hz)
        have s0' := s06.trans sm
        refine ⟨rfl, _, rfl, _, rfl, a, z.1, G, A, C, R, z.2.1, z.2.2, rfl, s0'.seq (SqL.of hA), z1 _, ⟨⟨g2, g4, g6, g8⟩, z2, z3⟩, fun H7 s7 => ?_⟩
        refine ⟨_, s7 _ _ hd', ?_, fun c' o q => ?_, ?_⟩
        · rw [List.length_map, List.length_map]
          exact Nat.lt_of_le_of_lt (take_len hlen) (by show 2 < sizeLine; decide)
        · rw [upd_ne (ne_of_none q hB')]
          exact s7 _ _ (sm c' o q)
        · rw [upd_same, take_more hz, List.map_append, List.map_append]
          rfl
      rintro H7 ⟨s7, hd7⟩
      rw [List.length_map, List.take_length] at hd7
      have s07 := s06.trans s7
      refine ⟨B, _, rfl, SqL.of hd7, _, rfl, ?_⟩
      cases m2 : (fl.map fun z => meetB G A C R z.2.1 z.2.2).all id
      · rw [if_pos (Or.inr m2)] at k
        exact iteT ⟨_, rfl, (by show 1 ≤ sizeLine; decide), fun t ht => k _ t upd_same⟩
      rw [if_neg (show ¬ (meetB G A C R u v = false ∨ ((fl.map fun z => meetB G A C R z.2.1 z.2.2).all id) = false) by rw [m1, m2]; decide)] at k
      refine iteF ⟨_, rfl, _, rfl, a, e, G, A, C, R, u, v, rfl, s07.seq (SqL.of hA), Or.inl (s07.seq (SqL.of hE)), _, rfl, ?_⟩
      cases m3 : atBB G A u
      · have hd77 := s7 _ _ hd6
        refine iteF ⟨_, rfl, D, rfl, ⟨_, SqL.of hd77⟩, fun B' hB' => lc_list (K := K) (a := D) (xs := fl.map fun z => V.ref z.1) (fun i H' => Same H7 H' ∧ H' B' = some (.lst (((fl.take i).map fun z => touchB G A C R z.2.1 z.2.2).map V.bl)))
          ⟨Same.new hB', upd_same⟩ (fun i H' _ q => q.1.seq (SqL.of hd77)) ?_ ?_⟩
        · rintro i x H' hi ⟨sm, hd'⟩
          obtain ⟨z, hz, rfl⟩ := at_map' hi
          obtain ⟨z1, z2, z3⟩ := hfl z (mem_at hz)
          have s0' := s07.trans sm
          refine ⟨rfl, _, rfl, _, rfl, a, z.1, G, A, C, R, z.2.1, z.2.2, rfl, s0'.seq (SqL.of hA), z1 _, ⟨⟨g2, g4, g6, g8⟩, z2, z3⟩, fun H8 s8 => ?_⟩
          refine ⟨_, s8 _ _ hd', ?_, fun c' o q => ?_, ?_⟩
          · rw [List.length_map, List.length_map]
            exact Nat.lt_of_le_of_lt (take_len hlen) (by show 2 < sizeLine; decide)
          · rw [upd_ne (ne_of_none q hB')]
            exact s8 _ _ (sm c' o q)
          · rw [upd_same, take_more hz, List.map_append, List.map_append]
            rfl
        rintro H8 ⟨s8, hd8⟩
        rw [List.length_map, List.take_length] at hd8
        have s08 := s07.trans s8
        refine ⟨B', _, rfl, SqL.of hd8, _, rfl, ?_⟩
        cases m4 : (fl.map fun z => touchB G A C R z.2.1 z.2.2).any id
        · rw [if_neg (show ¬ (atBB G A u = true ∨ ((fl.map fun z => touchB G A C R z.2.1 z.2.2).any id) = true) by rw [m3, m4]; decide)] at k
          refine iteF ⟨_, rfl, _, rfl, a, e, G, A, C, R, u, v, rfl, s08.seq (SqL.of hA), Or.inl (s08.seq (SqL.of hE)), lowE, fun H9 s9 => ⟨_, rfl, ?_⟩⟩
          cases m5 : touchB G A C R u v
          · rw [if_neg (show ¬ touchB G A C R u v = true by rw [m5]; decide)] at k
            exact iteF ⟨_, rfl, (by show 1 ≤ sizeLine; decide), fun t ht => k _ t upd_same⟩
          · rw [if_pos m5] at k
            exact iteT ⟨(by show 1 ≤ sizeLine; decide), fun t ht => k _ t upd_same⟩
        · rw [if_pos (Or.inr m4)] at k
          exact iteT ⟨_, rfl, (by show 1 ≤ sizeLine; decide), fun t ht => k _ t upd_same⟩
      · rw [if_pos (Or.inl m3)] at k
        exact iteT ⟨_, rfl, (by show 1 ≤ sizeLine; decide), fun t ht => k _ t upd_same⟩
    · have e : ([(G : Int), (A : Int), (C : Int), (R : Int)]).all okLen = false := by
        rw [Bool.eq_false_iff]
        exact fun q => g ((all_good ..).1 q)
      rw [e]
      exact iteT (iteT ⟨_, rfl, (by show 1 ≤ sizeLine; decide), fun t ht => bad (fun z => g z.1) _ t upd_same⟩)
end
section
variable {P : Program} {w : World} {K : PySem.W.Frag} {mg : Str → Option Value}
theorem all_mk {h : Heap} {fa f0 fLens fChoice fPlace fWayIn fCloses fMeets fTouches fAtB fSquares fSquare fPasses fHalf : Addr} (X : K.In h) (Gm : h.Ns mainGlobals mg) (hfa : mg "drive" = some (.ref fa))
    {od1 an1 od2 an2 od3 an3 od4 an4 od5 an5 od6 an6 od7 an7 od8 an8 od9 an9 od10 an10 od11 an11 od12 an12 od13 an13 : Option Addr} {sl1 sl2 sl3 sl4 sl5 sl6 sl7 sl8 sl9 sl10 sl11 sl12 sl13 : Array (Option Value)} {oc1 kV1 dc1 pm1 cd1 ct1 oc2 kV2 dc2 pm2 cd2 ct2 oc3 kV3 dc3 pm3 cd3 ct3 oc4 kV4 dc4 pm4 cd4 ct4 oc5 kV5 dc5 pm5 cd5 ct5 oc6 kV6 dc6 pm6 cd6 ct6 oc7 kV7 dc7 pm7 cd7 ct7 oc8 kV8 dc8 pm8 cd8 ct8 oc9 kV9 dc9 pm9 cd9 ct9 oc10 kV10 dc10 pm10 cd10 ct10 oc11 kV11 dc11 pm11 cd11 ct11 oc12 kV12 dc12 pm12 cd12 ct12 oc13 kV13 dc13 pm13 cd13 ct13 : Value}
    (a1 : PySem.W.nsIn K mainGlobals "drive" = some (some (.ref f0))) (l1 : K.lookup f0 = some ⟨oc1, od1, .func (PySem.W.fnOf "drive" "drive" (defArgs sDrive) (defBody sDrive) (defScope sDrive) .none kV1 dc1 pm1 an1 cd1 ct1), sl1⟩) (c1 : PySem.W.codeIn K cd1 "drive" = true) (k1 : PySem.W.keepIn K (.ref f0) = true)
    (a2 : PySem.W.nsIn K mainGlobals "are_lengths" = some (some (.ref fLens))) (l2 : K.lookup fLens = some ⟨oc2, od2, .func (PySem.W.fnOf "are_lengths" "are_lengths" (defArgs sLens) (defBody sLens) (defScope sLens) .none kV2 dc2 pm2 an2 cd2 ct2), sl2⟩) (c2 : PySem.W.codeIn K cd2 "are_lengths" = true) (k2 : PySem.W.keepIn K (.ref fLens) = true)
    (a3 : PySem.W.nsIn K mainGlobals "is_choice" = some (some (.ref fChoice))) (l3 : K.lookup fChoice = some ⟨oc3, od3, .func (PySem.W.fnOf "is_choice" "is_choice" (defArgs sChoice) (defBody sChoice) (defScope sChoice) .none kV3 dc3 pm3 an3 cd3 ct3), sl3⟩) (c3 : PySem.W.codeIn K cd3 "is_choice" = true) (k3 : PySem.W.keepIn K (.ref fChoice) = true)
    (a4 : PySem.W.nsIn K mainGlobals "is_place" = some (some (.ref fPlace))) (l4 : K.lookup fPlace = some ⟨oc4, od4, .func (PySem.W.fnOf "is_place" "is_place" (defArgs sPlace) (defBody sPlace) (defScope sPlace) .none kV4 dc4 pm4 an4 cd4 ct4), sl4⟩) (c4 : PySem.W.codeIn K cd4 "is_place" = true) (k4 : PySem.W.keepIn K (.ref fPlace) = true)
    (a5 : PySem.W.nsIn K mainGlobals "way_in_line" = some (some (.ref fWayIn))) (l5 : K.lookup fWayIn = some ⟨oc5, od5, .func (PySem.W.fnOf "way_in_line" "way_in_line" (defArgs sWayIn) (defBody sWayIn) (defScope sWayIn) .none kV5 dc5 pm5 an5 cd5 ct5), sl5⟩) (c5 : PySem.W.codeIn K cd5 "way_in_line" = true) (k5 : PySem.W.keepIn K (.ref fWayIn) = true)
    (a6 : PySem.W.nsIn K mainGlobals "closes" = some (some (.ref fCloses))) (l6 : K.lookup fCloses = some ⟨oc6, od6, .func (PySem.W.fnOf "closes" "closes" (defArgs sCloses) (defBody sCloses) (defScope sCloses) .none kV6 dc6 pm6 an6 cd6 ct6), sl6⟩) (c6 : PySem.W.codeIn K cd6 "closes" = true) (k6 : PySem.W.keepIn K (.ref fCloses) = true)
    (a7 : PySem.W.nsIn K mainGlobals "meets" = some (some (.ref fMeets))) (l7 : K.lookup fMeets = some ⟨oc7, od7, .func (PySem.W.fnOf "meets" "meets" (defArgs sMeets) (defBody sMeets) (defScope sMeets) .none kV7 dc7 pm7 an7 cd7 ct7), sl7⟩) (c7 : PySem.W.codeIn K cd7 "meets" = true) (k7 : PySem.W.keepIn K (.ref fMeets) = true)
    (a8 : PySem.W.nsIn K mainGlobals "touches" = some (some (.ref fTouches))) (l8 : K.lookup fTouches = some ⟨oc8, od8, .func (PySem.W.fnOf "touches" "touches" (defArgs sTouches) (defBody sTouches) (defScope sTouches) .none kV8 dc8 pm8 an8 cd8 ct8), sl8⟩) (c8 : PySem.W.codeIn K cd8 "touches" = true) (k8 : PySem.W.keepIn K (.ref fTouches) = true)
    (a9 : PySem.W.nsIn K mainGlobals "is_at_b" = some (some (.ref fAtB))) (l9 : K.lookup fAtB = some ⟨oc9, od9, .func (PySem.W.fnOf "is_at_b" "is_at_b" (defArgs sAtB) (defBody sAtB) (defScope sAtB) .none kV9 dc9 pm9 an9 cd9 ct9), sl9⟩) (c9 : PySem.W.codeIn K cd9 "is_at_b" = true) (k9 : PySem.W.keepIn K (.ref fAtB) = true)
    (a10 : PySem.W.nsIn K mainGlobals "squares_at" = some (some (.ref fSquares))) (l10 : K.lookup fSquares = some ⟨oc10, od10, .func (PySem.W.fnOf "squares_at" "squares_at" (defArgs sSquares) (defBody sSquares) (defScope sSquares) .none kV10 dc10 pm10 an10 cd10 ct10), sl10⟩) (c10 : PySem.W.codeIn K cd10 "squares_at" = true) (k10 : PySem.W.keepIn K (.ref fSquares) = true)
    (a11 : PySem.W.nsIn K mainGlobals "square" = some (some (.ref fSquare))) (l11 : K.lookup fSquare = some ⟨oc11, od11, .func (PySem.W.fnOf "square" "square" (defArgs sSquare) (defBody sSquare) (defScope sSquare) .none kV11 dc11 pm11 an11 cd11 ct11), sl11⟩) (c11 : PySem.W.codeIn K cd11 "square" = true) (k11 : PySem.W.keepIn K (.ref fSquare) = true)
    (a12 : PySem.W.nsIn K mainGlobals "passes" = some (some (.ref fPasses))) (l12 : K.lookup fPasses = some ⟨oc12, od12, .func (PySem.W.fnOf "passes" "passes" (defArgs sPasses) (defBody sPasses) (defScope sPasses) .none kV12 dc12 pm12 an12 cd12 ct12), sl12⟩) (c12 : PySem.W.codeIn K cd12 "passes" = true) (k12 : PySem.W.keepIn K (.ref fPasses) = true)
    (a13 : PySem.W.nsIn K mainGlobals "half_angle_rise" = some (some (.ref fHalf))) (l13 : K.lookup fHalf = some ⟨oc13, od13, .func (PySem.W.fnOf "half_angle_rise" "half_angle_rise" (defArgs sHalf) (defBody sHalf) (defScope sHalf) .none kV13 dc13 pm13 an13 cd13 ct13), sl13⟩) (c13 : PySem.W.codeIn K cd13 "half_angle_rise" = true) (k13 : PySem.W.keepIn K (.ref fHalf) = true)
    (nAll : PySem.W.nsIn K mainGlobals "all" = some none) (nAny : PySem.W.nsIn K mainGlobals "any" = some none)
    {tN t0 t1 : Addr} {odtN odt0 odt1 : Option Addr} {nntN nnt0 nnt1 : Nat} {sltN slt0 slt1 : Array (Option Value)} {kt00 kt01 kt10 kt11 : Tok} (atN : PySem.W.nsIn K mainGlobals "NEAREST_AND_FARTHEST" = some (some (.ref tN))) (ltN : K.lookup tN = some ⟨.type "tuple", odtN, .seq #[.ref t0, .ref t1] nntN, sltN⟩) (lt0 : K.lookup t0 = some ⟨.type "tuple", odt0, .seq #[.int 0 kt00, .int 1 kt01] nnt0, slt0⟩) (lt1 : K.lookup t1 = some ⟨.type "tuple", odt1, .seq #[.int 1 kt10, .int 0 kt11] nnt1, slt1⟩) :
    ∃ fd : FuncData, (∀ (s : Shared) (us : List Value), us.length = (["g", "a", "c", "r", "p", "q", "s", "left", "p2", "q2"] : List Str).length → BindsTo s fd ⟨us, []⟩ ((["g", "a", "c", "r", "p", "q", "s", "left", "p2", "q2"] : List Str).zip us)) ∧ ∀ base : Heap, K.In base → base.Ns mainGlobals mg → FnOk P w K mg base CX0 5 fa fd ["g", "a", "c", "r", "p", "q", "s", "left", "p2", "q2"] spDrive := by
  have e := hfa.symm.trans (PySem.W.mg_of X Gm a1)
  cases e
  have F := fun_mk (st := sDrive) l1 c1 k1
  have FLens := fun_mk (st := sLens) l2 c2 k2
  have bLens := FLens.binds (ps := ["lengths"]) fun _ _ _ _ _ _ us hl => match us, hl with | [_], _ => rfl
  have gLens := PySem.W.mg_of X Gm a2
  have FChoice := fun_mk (st := sChoice) l3 c3 k3
  have bChoice := FChoice.binds (ps := ["number"]) fun _ _ _ _ _ _ us hl => match us, hl with | [_], _ => rfl
  have gChoice := PySem.W.mg_of X Gm a3
  have FPlace := fun_mk (st := sPlace) l4 c4 k4
  have bPlace := FPlace.binds (ps := ["place"]) fun _ _ _ _ _ _ us hl => match us, hl with | [_], _ => rfl
  have gPlace := PySem.W.mg_of X Gm a4
  have FWayIn := fun_mk (st := sWayIn) l5 c5 k5
  have bWayIn := FWayIn.binds (ps := ["bar", "another", "folded"]) fun _ _ _ _ _ _ us hl => match us, hl with | [_, _, _], _ => rfl
  have gWayIn := PySem.W.mg_of X Gm a5
  have FCloses := fun_mk (st := sCloses) l6 c6 k6
  have bCloses := FCloses.binds (ps := ["lengths", "place"]) fun _ _ _ _ _ _ us hl => match us, hl with | [_, _], _ => rfl
  have gCloses := PySem.W.mg_of X Gm a6
  have FMeets := fun_mk (st := sMeets) l7 c7 k7
  have bMeets := FMeets.binds (ps := ["lengths", "place"]) fun _ _ _ _ _ _ us hl => match us, hl with | [_, _], _ => rfl
  have gMeets := PySem.W.mg_of X Gm a7
  have FTouches := fun_mk (st := sTouches) l8 c8 k8
  have bTouches := FTouches.binds (ps := ["lengths", "place"]) fun _ _ _ _ _ _ us hl => match us, hl with | [_, _], _ => rfl
  have gTouches := PySem.W.mg_of X Gm a8
  have FAtB := fun_mk (st := sAtB) l9 c9 k9
  have bAtB := FAtB.binds (ps := ["lengths", "place"]) fun _ _ _ _ _ _ us hl => match us, hl with | [_, _], _ => rfl
  have gAtB := PySem.W.mg_of X Gm a9
  have FSquares := fun_mk (st := sSquares) l10 c10 k10
  have bSquares := FSquares.binds (ps := ["lengths", "place"]) fun _ _ _ _ _ _ us hl => match us, hl with | [_, _], _ => rfl
  have gSquares := PySem.W.mg_of X Gm a10
  have FSquare := fun_mk (st := sSquare) l11 c11 k11
  have bSquare := FSquare.binds (ps := ["number"]) fun _ _ _ _ _ _ us hl => match us, hl with | [_], _ => rfl
  have gSquare := PySem.W.mg_of X Gm a11
  have FPasses := fun_mk (st := sPasses) l12 c12 k12
  have bPasses := FPasses.binds (ps := ["start", "place", "end", "left"]) fun _ _ _ _ _ _ us hl => match us, hl with | [_, _, _, _], _ => rfl
  have gPasses := PySem.W.mg_of X Gm a12
  have FHalf := fun_mk (st := sHalf) l13 c13 k13
  have bHalf := FHalf.binds (ps := ["place", "another"]) fun _ _ _ _ _ _ us hl => match us, hl with | [_, _], _ => rfl
  have gHalf := PySem.W.mg_of X Gm a13
  have nAll := PySem.W.mg_none_of X Gm nAll
  have nAny := PySem.W.mg_none_of X Gm nAny
  have gtN := PySem.W.mg_of X Gm atN
  have htN : ∀ H : Hp, SqT K H tN [V.ref t0, V.ref t1] := fun H => Or.inr ⟨_, _, _, ltN, rfl, rfl, (by show 2 ≤ sizeLine; decide), .cons rfl (.cons rfl (.nil))⟩
  have ht0 : ∀ H : Hp, SqT K H t0 [V.int 0, V.int 1] := fun H => Or.inr ⟨_, _, _, lt0, rfl, rfl, (by show 2 ≤ sizeLine; decide), .cons ⟨_, rfl⟩ (.cons ⟨_, rfl⟩ (.nil))⟩
  have ht1 : ∀ H : Hp, SqT K H t1 [V.int 1, V.int 0] := fun H => Or.inr ⟨_, _, _, lt1, rfl, rfl, (by show 2 ≤ sizeLine; decide), .cons ⟨_, rfl⟩ (.cons ⟨_, rfl⟩ (.nil))⟩
  exact ⟨PySem.W.fnOf "drive" "drive" (defArgs sDrive) (defBody sDrive) (defScope sDrive) .none kV1 dc1 pm1 an1 cd1 ct1, fun s us hu => match us, hu with | [_, _, _, _, _, _, _, _, _, _], _ => .of_eq rfl,
    fun base _ _ => ok_Drive F FLens bLens gLens FChoice bChoice gChoice FPlace bPlace gPlace FSquare bSquare gSquare FWayIn bWayIn gWayIn FSquares bSquares gSquares FMeets bMeets gMeets FAtB bAtB gAtB FCloses bCloses gCloses FHalf bHalf gHalf FPasses bPasses gPasses FTouches bTouches gTouches nAll nAny gtN htN ht0 ht1⟩
end
end My
open PySem PySem.W PyProof.Rows
set_option maxRecDepth 100000 in
set_option maxHeartbeats 0 in
theorem PySem.Challenge.cw_fourbars_s07_drive_holds : PySem.Challenge.rw_fourbars_s07_drive.Holds := by
  w_on; k_headS; (case hw => exact ⟨[.int 0, .int 0, .int 0, .int 0, .int 0, .int 0, .int 0, .int 0, .int 0, .int 0], by decide +kernel, by decide +kernel⟩)
  k_fillS
  refine L2.walk_specK (r := PySem.Challenge.rw_fourbars_s07_drive) (k := 5) (CX := L2.CX0) (ps := ["g", "a", "c", "r", "p", "q", "s", "left", "p2", "q2"]) (sp := fun _ => My.spDrive) (by decide +kernel) rfl rfl ⟨rfl, by decide, by decide⟩ (fun w h Y => PySem.W.kIn_of Y) ?F ?S (fun _ _ _ _ z => z)
  case F =>
    intro w mg fa h Y KX G hmg
    refine' My.all_mk KX G hmg ?a1 ?l1 ?c1 ?k1 ?a2 ?l2 ?c2 ?k2 ?a3 ?l3 ?c3 ?k3 ?a4 ?l4 ?c4 ?k4 ?a5 ?l5 ?c5 ?k5 ?a6 ?l6 ?c6 ?k6 ?a7 ?l7 ?c7 ?k7 ?a8 ?l8 ?c8 ?k8 ?a9 ?l9 ?c9 ?k9 ?a10 ?l10 ?c10 ?k10 ?a11 ?l11 ?c11 ?k11 ?a12 ?l12 ?c12 ?k12 ?a13 ?l13 ?c13 ?k13 ?nAll ?nAny ?atN ?ltN ?lt0 ?lt1
    (case a1 => k_is); (case l1 => k_is); (case c1 => k_is); (case k1 => k_is)
    (case a2 => k_is); (case l2 => k_is); (case c2 => k_is); (case k2 => k_is)
    (case a3 => k_is); (case l3 => k_is); (case c3 => k_is); (case k3 => k_is)
    (case a4 => k_is); (case l4 => k_is); (case c4 => k_is); (case k4 => k_is)
    (case a5 => k_is); (case l5 => k_is); (case c5 => k_is); (case k5 => k_is)
    (case a6 => k_is); (case l6 => k_is); (case c6 => k_is); (case k6 => k_is)
    (case a7 => k_is); (case l7 => k_is); (case c7 => k_is); (case k7 => k_is)
    (case a8 => k_is); (case l8 => k_is); (case c8 => k_is); (case k8 => k_is)
    (case a9 => k_is); (case l9 => k_is); (case c9 => k_is); (case k9 => k_is)
    (case a10 => k_is); (case l10 => k_is); (case c10 => k_is); (case k10 => k_is)
    (case a11 => k_is); (case l11 => k_is); (case c11 => k_is); (case k11 => k_is)
    (case a12 => k_is); (case l12 => k_is); (case c12 => k_is); (case k12 => k_is)
    (case a13 => k_is); (case l13 => k_is); (case c13 => k_is); (case k13 => k_is)
    (case nAll => k_is); (case nAny => k_is); (case atN => k_is); (case ltN => k_is); (case lt0 => k_is); (case lt1 => k_is)
  case S =>
    intro K H xs a hO hwi hask hx
    obtain ⟨v0, v1, v2, v3, v4, v5, v6, v7, v8, v9, u⟩ := a
    cases hx with
    | cons h0 hx =>
      cases hx with
      | cons h1 hx =>
        cases hx with
        | cons h2 hx =>
          cases hx with
          | cons h3 hx =>
            cases hx with
            | cons h4 hx =>
              cases hx with
              | cons h5 hx =>
                cases hx with
                | cons h6 hx =>
                  cases hx with
                  | cons h7 hx =>
                    cases hx with
                    | cons h8 hx =>
                      cases hx with
                      | cons h9 hx =>
                        cases hx
                        cases h0
                        cases h1
                        cases h2
                        cases h3
                        cases h4
                        cases h5
                        cases h6
                        cases h7
                        cases h8
                        cases h9
                        have q : (Codec.inInt 0 9223372036854775807 v0 && (Codec.inInt 0 9223372036854775807 v1 && (Codec.inInt 0 9223372036854775807 v2 && (Codec.inInt 0 9223372036854775807 v3 && (Codec.inInt (-9223372036854775807) 9223372036854775807 v4 && (Codec.inInt (-9223372036854775807) 9223372036854775807 v5 && (Codec.inInt 0 9223372036854775807 v6 && (Codec.inInt 0 9223372036854775807 v7 && (Codec.inInt (-9223372036854775807) 9223372036854775807 v8 && (Codec.inInt (-9223372036854775807) 9223372036854775807 v9 && true)))))))))) = true := hwi
                        simp only [Codec.inInt, Bool.and_eq_true, decide_eq_true_eq] at q
                        obtain ⟨⟨q0, _⟩, ⟨q1, _⟩, ⟨q2, _⟩, ⟨q3, _⟩, ⟨q4, _⟩, ⟨q5, _⟩, ⟨q6, _⟩, ⟨q7, _⟩, ⟨q8, _⟩, ⟨q9, _⟩, _⟩ := q
                        obtain ⟨V0, rfl⟩ := Int.eq_ofNat_of_zero_le q0
                        obtain ⟨V1, rfl⟩ := Int.eq_ofNat_of_zero_le q1
                        obtain ⟨V2, rfl⟩ := Int.eq_ofNat_of_zero_le q2
                        obtain ⟨V3, rfl⟩ := Int.eq_ofNat_of_zero_le q3
                        obtain ⟨V6, rfl⟩ := Int.eq_ofNat_of_zero_le q6
                        obtain ⟨V7, rfl⟩ := Int.eq_ofNat_of_zero_le q7
                        exact ⟨V0, V1, V2, V3, v4, v5, V6, V7, v8, v9, rfl, fun H' l hp => .lst (L2.SqL.of hp) (L2.dw_ints _)⟩
#print axioms PySem.Challenge.cw_fourbars_s07_drive_holds
