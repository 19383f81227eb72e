/- The places of all pixels, as both sides lay them. -/
import Derived.Test.YtfdnjblbhbkndaaDoorLcMath
namespace Go.Proofs.YtfdnjblbhbkndaaDoor
namespace Lc
def gl (l : Int) (p x y : Nat) : Bool := if l = 1 then pt x y == p else p == 0
/-- The reference's, before pass p, row y, column x. -/
def cur (wd ht : Nat) (l : Int) (p y x : Nat) : List Nat := ((List.range p).flatMap fun q => rlst wd (gl l q) ht) ++ rlst wd (gl l p) y ++ rrow wd (gl l p) y x
theorem rrow_succ (wd : Nat) (g : Nat → Nat → Bool) (y x : Nat) : rrow wd g y (x + 1) = rrow wd g y x ++ (if g x y then [y * wd + x] else []) := by
  unfold rrow; rw [List.range_succ, List.flatMap_append]; simp
theorem rlst_succ (wd : Nat) (g : Nat → Nat → Bool) (y : Nat) : rlst wd g (y + 1) = rlst wd g y ++ rrow wd g y wd := by
  unfold rlst; rw [List.range_succ, List.flatMap_append]; simp
theorem cur_x (wd ht : Nat) (l : Int) (p y x : Nat) : cur wd ht l p y (x + 1) = cur wd ht l p y x ++ (if gl l p x y then [y * wd + x] else []) := by
  unfold cur; rw [rrow_succ, ← List.append_assoc]
theorem cur_y (wd ht : Nat) (l : Int) (p y : Nat) : cur wd ht l p y wd = cur wd ht l p (y + 1) 0 := by
  unfold cur; rw [rlst_succ]; simp [rrow]
theorem cur_p (wd ht : Nat) (l : Int) (p : Nat) : cur wd ht l p ht 0 = cur wd ht l (p + 1) 0 0 := by
  unfold cur; rw [List.range_succ, List.flatMap_append]; simp [rrow, rlst]
theorem cur_0 (wd ht : Nat) (l : Int) : cur wd ht l 0 0 0 = [] := by simp [cur, rlst, rrow]
theorem rrow_len (wd : Nat) (g : Nat → Nat → Bool) (y : Nat) : ∀ x, (rrow wd g y x).length ≤ x
  | 0 => by simp [rrow]
  | x + 1 => by rw [rrow_succ, List.length_append]; have := rrow_len wd g y x; split <;> simp <;> omega
theorem rlst_len (wd : Nat) (g : Nat → Nat → Bool) : ∀ y, (rlst wd g y).length ≤ y * wd
  | 0 => by simp [rlst]
  | y + 1 => by rw [rlst_succ, List.length_append, Nat.succ_mul]; have := rlst_len wd g y; have := rrow_len wd g y wd; omega
theorem flat_len (wd ht : Nat) (l : Int) : ∀ p, ((List.range p).flatMap fun q => rlst wd (gl l q) ht).length ≤ p * (ht * wd)
  | 0 => by simp
  | p + 1 => by
    rw [List.range_succ, List.flatMap_append, List.length_append, Nat.succ_mul]
    have h1 := flat_len wd ht l p
    have h2 := rlst_len wd (gl l p) ht
    have e : ([p].flatMap fun q => rlst wd (gl l q) ht) = rlst wd (gl l p) ht := by simp
    rw [e]
    omega
theorem cur_len (wd ht : Nat) (l : Int) (p y x : Nat) (hp : p ≤ 7) (hy : y ≤ ht) (hx : x ≤ wd) (hb : wd * ht ≤ 262144) (hw : wd ≤ 262144) : (cur wd ht l p y x).length ≤ 2621440 := by
  unfold cur
  rw [List.length_append, List.length_append]
  have h1 := flat_len wd ht l p
  have h2 := rlst_len wd (gl l p) y
  have h3 := rrow_len wd (gl l p) y x
  have h4 : p * (ht * wd) ≤ 7 * (ht * wd) := Nat.mul_le_mul_right _ hp
  have h5 : y * wd ≤ ht * wd := Nat.mul_le_mul_right _ hy
  rw [Nat.mul_comm wd ht] at hb
  omega
theorem cur_all (wd ht : Nat) (l : Int) (hl : l = 0 ∨ l = 1) : cur wd ht l 7 0 0 = all (parts wd ht l) wd := by
  unfold cur
  simp only [rlst, rrow, List.range_zero, List.flatMap_nil, List.append_nil]
  rcases hl with rfl | rfl
  · rw [all_plain]
    have e0 : gl 0 0 = fun _ _ => true := by funext x y; simp [gl]
    have e1 : ∀ p, 0 < p → rlst wd (gl 0 p) ht = [] := fun p hp => by
      have : gl 0 p = fun _ _ => false := by funext x y; simp [gl]; omega
      rw [this]; simp [rlst, rrow]
    show ((List.range 7).flatMap fun q => rlst wd (gl 0 q) ht) = _
    have : List.range 7 = [0, 1, 2, 3, 4, 5, 6] := by decide
    rw [this]
    simp only [List.flatMap_cons, List.flatMap_nil, e1 1 (by omega), e1 2 (by omega), e1 3 (by omega), e1 4 (by omega), e1 5 (by omega), e1 6 (by omega), List.append_nil, e0]
  · rw [all_laced wd ht 1 (by omega)]
    show ((List.range 7).flatMap fun q => rlst wd (gl 1 q) ht) = _
    congr 1
theorem plain_rrow (w y : Nat) : ∀ n, (rrow w (fun _ _ => true) y n).length = n
  | 0 => by simp [rrow]
  | n + 1 => by rw [rrow_succ, List.length_append, plain_rrow w y n]; rfl
theorem plain_rlst (w : Nat) : ∀ n, (rlst w (fun _ _ => true) n).length = n * w
  | 0 => by simp [rlst]
  | n + 1 => by rw [rlst_succ, List.length_append, plain_rlst w n, plain_rrow, Nat.succ_mul]
theorem all_len (wd ht : Nat) (l : Int) : (all (parts wd ht l) wd).length = wd * ht := by
  by_cases hl : l = 0
  · subst hl; rw [all_plain, plain_rlst, Nat.mul_comm]
  · exact laced_len wd ht l hl
/-- The program's, before row r, column c of a part. -/
def curS (wd : Nat) (pre : List (Nat × Pa)) (a : Pa) (r c : Nat) : List Nat := all pre wd ++ ((List.range r).flatMap (a.row wd)) ++ ((List.range c).map fun c => (a.y + r * a.dy) * wd + (a.x + c * a.dx))
theorem curS_c (wd : Nat) (pre : List (Nat × Pa)) (a : Pa) (r c : Nat) : curS wd pre a r (c + 1) = curS wd pre a r c ++ [(a.y + r * a.dy) * wd + (a.x + c * a.dx)] := by
  unfold curS; rw [List.range_succ, List.map_append, ← List.append_assoc]; rfl
theorem curS_r (wd : Nat) (pre : List (Nat × Pa)) (a : Pa) (r : Nat) : curS wd pre a r a.c = curS wd pre a (r + 1) 0 := by
  unfold curS; rw [List.range_succ, List.flatMap_append]; simp [Pa.row]
theorem curS_end (wd p : Nat) (pre : List (Nat × Pa)) (a : Pa) : curS wd pre a a.r 0 = all (pre ++ [(p, a)]) wd := by
  unfold curS all Pa.lst; simp
theorem curS_0 (wd : Nat) (pre : List (Nat × Pa)) (a : Pa) : curS wd pre a 0 0 = all pre wd := by simp [curS]
theorem all_app (w : Nat) (s t : List (Nat × Pa)) : all (s ++ t) w = all s w ++ all t w := by unfold all; rw [List.flatMap_append]
/-- A place is one of the picture's. -/
theorem curS_in (wd ht p : Nat) (l : Int) (pre s : List (Nat × Pa)) (a : Pa) (r c : Nat) (e : parts wd ht l = pre ++ (p, a) :: s) (hr : r < a.r) (hc : c < a.c) : ∃ t, all (parts wd ht l) wd = curS wd pre a r (c + 1) ++ t := by
  have h1 : ∃ t, a.row wd r = ((List.range (c + 1)).map fun c => (a.y + r * a.dy) * wd + (a.x + c * a.dx)) ++ t := by
    unfold Pa.row
    have : List.range a.c = List.range (c + 1) ++ (List.range (a.c - (c + 1))).map (c + 1 + ·) := by rw [← List.range_add]; congr 1; omega
    rw [this, List.map_append]
    exact ⟨_, rfl⟩
  have h2 : ∃ t, a.lst wd = ((List.range r).flatMap (a.row wd)) ++ (a.row wd r ++ t) := by
    unfold Pa.lst
    have : List.range a.r = List.range r ++ (List.range (a.r - r)).map (r + ·) := by rw [← List.range_add]; congr 1; omega
    rw [this, List.flatMap_append]
    obtain ⟨k, hk⟩ : ∃ k, a.r - r = k + 1 := ⟨a.r - r - 1, by omega⟩
    rw [hk, List.range_succ_eq_map]
    simp only [List.map_cons, List.flatMap_cons, Nat.add_zero]
    exact ⟨_, rfl⟩
  obtain ⟨t1, h1⟩ := h1
  obtain ⟨t2, h2⟩ := h2
  rw [e, all_app, all_cons]
  unfold curS
  rw [h2, h1]
  exact ⟨t1 ++ (t2 ++ all s wd), by simp only [List.append_assoc]⟩
def il (l : List Nat) : List Int := l.map fun (v : Nat) => (v : Int)
theorem il_length (l : List Nat) : (il l).length = l.length := by simp [il]
theorem il_app (s t : List Nat) : il (s ++ t) = il s ++ il t := by simp [il]
end Lc
end Go.Proofs.YtfdnjblbhbkndaaDoor
