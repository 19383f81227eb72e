/- burnishref15.Spread: its contract. -/
import Derived.Test.YtfdnjblbhbkndaaDoorLcSpMath
import Derived.Test.YtfdnjblbhbkndaaDoorLcRefPass
import Derived.Test.YtfdnjblbhbkndaaDoorInts
import Derived.Deep.LoopGhost
namespace Go.Proofs.YtfdnjblbhbkndaaDoor
open Go.RowKit

namespace Lc
/-- Sides and a lace whose places are told. -/
def goodS (a b l : Int) : Prop := 1 ≤ a ∧ 1 ≤ b ∧ a ≤ 262144 ∧ b ≤ 262144 ∧ a * b ≤ 262144 ∧ (l = 0 ∨ l = 1)
def RsPost (w : World) (L : List Int) (ok : Bool) (e : Ending) (w' : World) : Prop := ∃ v, e = .returned (.tuple #[v, .bool ok]) ∧ w'.ownsRow w.heap.size 3 1 v L.length (ivs L) ∧ Below w.heap.size w w'
theorem prod_small {a b : Nat} (ha : a ≤ 262144) (hb : b ≤ 262144) : a * b ≤ 68719476736 := by
  have := Nat.mul_le_mul ha hb
  omega
theorem w_nat {n : Nat} (h : n ≤ 1000000000000) : wrap64 (n : Int) = (n : Int) := IntWalk.wrap64_in _ ⟨by omega, by omega⟩
theorem w_mul {a b c : Nat} (h : a * b = c) (hc : c ≤ 1000000000000) : wrap64 ((a : Int) * (b : Int)) = (c : Int) := by rw [← Int.natCast_mul, h]; exact w_nat hc
theorem w_add {a b c : Nat} (h : a + b = c) (hc : c ≤ 1000000000000) : wrap64 ((a : Int) + (b : Int)) = (c : Int) := by rw [← Int.natCast_add, h]; exact w_nat hc
theorem refSp_bad (a b l : Int) (w : World) (hg : ¬ goodS a b l) : Calls Tryd.prog 9 #[.int .i64 a, .int .i64 b, .int .i64 l] w (RsPost w [] false) := by
  by_cases h1 : a < 1
  · have d1 : decide (a < 1) = true := by simpa using h1
    clear hg h1
    go_enter Tryd.func9, Tryd.ntmps9
    go_wp2
    go_ret2
    exact ⟨_, rfl, World.ownsRow_nil _ _ _ _, Below.refl _ _⟩
  have d1 : decide (a < 1) = false := by simpa using h1
  by_cases h2 : b < 1
  · have d2 : decide (b < 1) = true := by simpa using h2
    clear hg h1 h2
    go_enter Tryd.func9, Tryd.ntmps9
    go_wp2
    go_ret2
    exact ⟨_, rfl, World.ownsRow_nil _ _ _ _, Below.refl _ _⟩
  have d2 : decide (b < 1) = false := by simpa using h2
  by_cases h3 : 262144 < a
  · have d3 : decide ((262144 : Int) < a) = true := by simpa using h3
    clear hg h1 h2 h3
    go_enter Tryd.func9, Tryd.ntmps9
    go_wp2
    go_ret2
    exact ⟨_, rfl, World.ownsRow_nil _ _ _ _, Below.refl _ _⟩
  have d3 : decide ((262144 : Int) < a) = false := by simpa using h3
  by_cases h4 : 262144 < b
  · have d4 : decide ((262144 : Int) < b) = true := by simpa using h4
    clear hg h1 h2 h3 h4
    go_enter Tryd.func9, Tryd.ntmps9
    go_wp2
    go_ret2
    exact ⟨_, rfl, World.ownsRow_nil _ _ _ _, Below.refl _ _⟩
  have d4 : decide ((262144 : Int) < b) = false := by simpa using h4
  obtain ⟨m, rfl⟩ : ∃ m : Nat, a = (m : Int) := ⟨a.toNat, by omega⟩
  obtain ⟨n, rfl⟩ : ∃ n : Nat, b = (n : Int) := ⟨b.toNat, by omega⟩
  have hpr := prod_small (a := m) (b := n) (by omega) (by omega)
  have hgp : ¬ ((m * n : Nat) ≤ 262144 ∧ (l = 0 ∨ l = 1)) := fun h => hg ⟨by omega, by omega, by omega, by omega, by rw [← Int.natCast_mul]; omega, h.2⟩
  obtain ⟨q, hq⟩ : ∃ q, m * n = q := ⟨_, rfl⟩
  have e1 := w_mul hq (by omega)
  rw [hq] at hgp hpr
  by_cases h5 : 262144 < q
  · have d5 : decide ((262144 : Int) < (q : Int)) = true := by simp; omega
    clear hg hgp h1 h2 h3 h4 h5 hq hpr
    go_enter Tryd.func9, Tryd.ntmps9
    go_wp2
    go_ret2
    exact ⟨_, rfl, World.ownsRow_nil _ _ _ _, Below.refl _ _⟩
  have d5 : decide ((262144 : Int) < (q : Int)) = false := by simp; omega
  have d6 : (l != 0) = true := by simp; intro h; exact hgp ⟨by omega, .inl h⟩
  have d7 : (l != 1) = true := by simp; intro h; exact hgp ⟨by omega, .inr h⟩
  clear hg hgp h1 h2 h3 h4 h5 hq hpr
  go_enter Tryd.func9, Tryd.ntmps9
  go_wp2
  go_ret2
  exact ⟨_, rfl, World.ownsRow_nil _ _ _ _, Below.refl _ _⟩
set_option maxRecDepth 100000 in
set_option maxHeartbeats 4000000 in
theorem refSp_good (m n : Nat) (l : Int) (w : World) (hg : goodS m n l) : Calls Tryd.prog 9 #[.int .i64 (m : Nat), .int .i64 (n : Nat), .int .i64 l] w (RsPost w (il (all (parts m n l) m)) true) := by
  obtain ⟨g1, g2, g3, g4, g5, g6⟩ := hg
  rw [← Int.natCast_mul] at g5
  obtain ⟨q, hq⟩ : ∃ q, m * n = q := ⟨_, rfl⟩
  have e1 := w_mul hq (by omega)
  rw [hq] at g5
  have HLE := Lib.hid (fun p y x (hp : p ≤ 7) (hy : y ≤ n) (hx : x ≤ m) => cur_len m n l p y x hp hy hx (by rw [hq]; omega) (by omega))
  have HPL := Lib.hid (fun x y (hx : x < m) (hy : y < n) => (show y * m + x < q from by
    have h1 : (y + 1) * m ≤ n * m := Nat.mul_le_mul_right _ hy
    rw [Nat.succ_mul, Nat.mul_comm n m, hq] at h1
    omega))
  have HAL := Lib.hid (cur_all m n l g6)
  have d1 : decide ((m : Int) < 1) = false := by simp; omega
  have d2 : decide ((n : Int) < 1) = false := by simp; omega
  have d3 : decide ((262144 : Int) < (m : Int)) = false := by simp; omega
  have d4 : decide ((262144 : Int) < (n : Int)) = false := by simp; omega
  have d5 : decide ((262144 : Int) < (q : Int)) = false := by simp; omega
  have hm : m ≤ 262144 := by omega
  have hn : n ≤ 262144 := by omega
  have hq2 : q ≤ 262144 := by omega
  have HRF := Lib.hid (fun x y w => refPass_any x y w)
  clear g1 g2 g3 g4 g5 hq
  have hl2 : (l != 0) = false ∨ ((l != 0) = true ∧ (l != 1) = false) := by
    rcases g6 with rfl | rfl
    · exact .inl rfl
    · exact .inr ⟨rfl, rfl⟩
  rcases g6 with rfl | rfl
  · go_enter Tryd.func9, Tryd.ntmps9
    go_wp2
    clear d1 d2 d3 d4 d5 hl2 e1
    go_loopg [8, 9] 7 (fun gk v8 v9 wr => ∃ p : Nat, p ≤ 7 ∧ gk = 7 - p ∧ v9 = .int .i64 (p : Nat) ∧ Hid (Below w.heap.size w wr) ∧ Hid (wr.ownsRow w.heap.size 3 1 v8 (il (cur m n 0 p 0 0)).length (ivs (il (cur m n 0 p 0 0)))))
    case atStart => exact ⟨0, by omega, by omega, rfl, Lib.hid (Below.refl _ _), Lib.hid (by rw [cur_0]; exact World.ownsRow_nil _ _ _ _)⟩
    case round =>
      obtain ⟨p, hp, rfl, rfl, HB, HO⟩ := hrel
      by_cases hp7 : p < 7
      · have d7 : decide ((p : Int) < 7) = true := by simp; omega
        go_wp2
        go_loopg [8, 10] n (fun gk v8 v10 wr => ∃ y : Nat, y ≤ n ∧ gk = n - y ∧ v10 = .int .i64 (y : Nat) ∧ Hid (Below w.heap.size w wr) ∧ Hid (wr.ownsRow w.heap.size 3 1 v8 (il (cur m n 0 p y 0)).length (ivs (il (cur m n 0 p y 0)))))
        case atStart => exact ⟨0, by omega, by omega, rfl, HB, HO⟩
        case round =>
          clear HB HO
          obtain ⟨y, hy, rfl, rfl, HB, HO⟩ := hrel
          by_cases hyn : y < n
          · have d8 : decide (y < n) = true := by simpa using hyn
            go_wp2
            go_loopg [8, 11] m (fun gk v8 v11 wr => ∃ x : Nat, x ≤ m ∧ gk = m - x ∧ v11 = .int .i64 (x : Nat) ∧ Hid (Below w.heap.size w wr) ∧ Hid (wr.ownsRow w.heap.size 3 1 v8 (il (cur m n 0 p y x)).length (ivs (il (cur m n 0 p y x)))))
            case atStart => exact ⟨0, by omega, by omega, rfl, HB, HO⟩
            case round =>
              clear HB HO
              obtain ⟨x, hx, rfl, rfl, HB, HO⟩ := hrel
              by_cases hxm : x < m
              · have hlen := HLE.out p y x hp hy hx
                rw [← il_length] at hlen
                have hpl := HPL.out x y hxm hyn
                have d9 : decide (x < m) = true := by simpa using hxm
                obtain ⟨Y, hyq⟩ : ∃ Y, y * m = Y := ⟨_, rfl⟩
                obtain ⟨X, hpx⟩ : ∃ X, Y + x = X := ⟨_, rfl⟩
                rw [hyq, hpx] at hpl
                have hYX : Y ≤ X := by omega
                have HB2 := HB
                have HO2 := HO
                clear HB HO
                by_cases hz : p = 0
                · have dz1 : ((p : Int) == 0) = true := by simp; omega
                  have dz2 : (p == 0) = true := by simpa using hz
                  clear hz
                  have HN : Hid (il (cur m n 0 p y (x + 1)) = il (cur m n 0 p y x) ++ [(X : Int)]) := Lib.hid (by rw [cur_x, show gl 0 p x y = true from by unfold gl; rw [if_neg (by omega)]; exact dz2, if_pos rfl, il_app, ← hpx, ← hyq]; rfl)
                  have HLX : Hid ((il (cur m n 0 p y (x + 1))).length = (il (cur m n 0 p y x)).length + 1) := Lib.hid (by rw [HN.out]; simp)
                  generalize il (cur m n 0 p y x) = A at *
                  have k1 : A.length + 1 ≤ 9223372036854775807 := by omega
                  have k2 : (A.length + 1) * 8 ≤ 140737488355328 := by omega
                  have HM : Hid (n - 0 = n - 0 ∧ m - (x + 1) < m - x ∧ x + 1 ≤ m) := Lib.hid ⟨rfl, by omega, by omega⟩
                  have b1 : Y ≤ 1000000000000 := by omega
                  have b2 : X ≤ 1000000000000 := by omega
                  clear hlen hpl hYX
                  have k3 := Nat.le_trans HB2.out.size (below_alloc _ (.cells #[.int .i64 (wrap64 (wrap64 ((y : Int) * (m : Int)) + (x : Int)))] 3)).size
                  have HE3 : Hid ((wrap64 (wrap64 ((y : Int) * (m : Int)) + (x : Int))) = (X : Int)) := Lib.hid (by rw [w_mul hyq b1]; exact w_add hpx b2)
                  clear b1 b2 hpx hyq
                  go_wp2_with (at_builtin; refine wpl_append tyI rfl _ _ rfl (own_below HO2.out (below_alloc _ (.cells #[.int .i64 (wrap64 (wrap64 ((y : Int) * (m : Int)) + (x : Int)))] 3))) (src_int _ (wrap64 (wrap64 ((y : Int) * (m : Int)) + (x : Int)))) rfl rfl k1 k2 k3 ?_)
                  intro v' w' own' hg' _
                  have HB7 := Lib.hid ((below_then HB2.out (below_alloc _ (.cells #[.int .i64 (wrap64 (wrap64 ((y : Int) * (m : Int)) + (x : Int)))] 3))).grown hg' k3 (fun r e => (HO2.out.lt r e).1))
                  have HO7 : Hid (w'.ownsRow w.heap.size 3 1 v' (il (cur m n 0 p y (x + 1))).length (ivs (il (cur m n 0 p y (x + 1))))) := Lib.hid (by rw [HLX.out, HN.out, ivs_append, ← HE3.out]; exact own')
                  clear own' hg' HO2 HB2 k3
                  go_wp2
                  go_roundg (m - (x + 1))
                  case measure => exact HM.out.2.1
                  case rel => exact ⟨x + 1, HM.out.2.2, rfl, by go_num, HB7, HO7⟩
                · have dz1 : ((p : Int) == 0) = false := by simp; omega
                  have dz2 : (p == 0) = false := by simpa using hz
                  clear hz
                  have HO7 : Hid (_root_.Go.World.ownsRow _ w.heap.size 3 1 u8 (il (cur m n 0 p y (x + 1))).length (ivs (il (cur m n 0 p y (x + 1))))) := Lib.hid (by rw [cur_x, show gl 0 p x y = false from by unfold gl; rw [if_neg (by omega)]; exact dz2, if_neg (by decide), List.append_nil]; exact HO2.out)
                  clear HO2
                  go_wp2
                  go_roundg (m - (x + 1))
                  case measure => omega
                  case rel => exact ⟨x + 1, by omega, rfl, by go_num, HB2, HO7⟩
              · obtain rfl : x = m := by omega
                have HO7 : Hid (_root_.Go.World.ownsRow _ w.heap.size 3 1 u8 (il (cur x n 0 p (y + 1) 0)).length (ivs (il (cur x n 0 p (y + 1) 0)))) := Lib.hid (by rw [← cur_y]; exact HO.out)
                clear HO hxm
                go_wp2
                go_roundg (n - (y + 1))
                case measure => omega
                case rel => exact ⟨y + 1, by omega, rfl, by go_num, HB, HO7⟩
          · obtain rfl : y = n := by omega
            have HO7 : Hid (_root_.Go.World.ownsRow _ w.heap.size 3 1 _ (il (cur m y 0 (p + 1) 0 0)).length (ivs (il (cur m y 0 (p + 1) 0 0)))) := Lib.hid (by rw [← cur_p]; exact HO.out)
            clear HO hyn
            go_wp2
            go_roundg (7 - (p + 1))
            case measure => omega
            case rel => exact ⟨p + 1, by omega, rfl, by go_num, HB, HO7⟩
      · obtain rfl : p = 7 := by omega
        rw [HAL.out] at HO
        clear hp7
        go_wp2
        go_ret2
        exact ⟨_, rfl, HO.out, HB.out⟩
  · go_enter Tryd.func9, Tryd.ntmps9
    go_wp2
    clear d1 d2 d3 d4 d5 hl2 e1
    go_loopg [8, 9] 7 (fun gk v8 v9 wr => ∃ p : Nat, p ≤ 7 ∧ gk = 7 - p ∧ v9 = .int .i64 (p : Nat) ∧ Hid (Below w.heap.size w wr) ∧ Hid (wr.ownsRow w.heap.size 3 1 v8 (il (cur m n 1 p 0 0)).length (ivs (il (cur m n 1 p 0 0)))))
    case atStart => exact ⟨0, by omega, by omega, rfl, Lib.hid (Below.refl _ _), Lib.hid (by rw [cur_0]; exact World.ownsRow_nil _ _ _ _)⟩
    case round =>
      obtain ⟨p, hp, rfl, rfl, HB, HO⟩ := hrel
      by_cases hp7 : p < 7
      · have d7 : decide ((p : Int) < 7) = true := by simp; omega
        go_wp2
        go_loopg [8, 10] n (fun gk v8 v10 wr => ∃ y : Nat, y ≤ n ∧ gk = n - y ∧ v10 = .int .i64 (y : Nat) ∧ Hid (Below w.heap.size w wr) ∧ Hid (wr.ownsRow w.heap.size 3 1 v8 (il (cur m n 1 p y 0)).length (ivs (il (cur m n 1 p y 0)))))
        case atStart => exact ⟨0, by omega, by omega, rfl, HB, HO⟩
        case round =>
          clear HB HO
          obtain ⟨y, hy, rfl, rfl, HB, HO⟩ := hrel
          by_cases hyn : y < n
          · have d8 : decide (y < n) = true := by simpa using hyn
            go_wp2
            go_loopg [8, 11] m (fun gk v8 v11 wr => ∃ x : Nat, x ≤ m ∧ gk = m - x ∧ v11 = .int .i64 (x : Nat) ∧ Hid (Below w.heap.size w wr) ∧ Hid (wr.ownsRow w.heap.size 3 1 v8 (il (cur m n 1 p y x)).length (ivs (il (cur m n 1 p y x)))))
            case atStart => exact ⟨0, by omega, by omega, rfl, HB, HO⟩
            case round =>
              clear HB HO
              obtain ⟨x, hx, rfl, rfl, HB, HO⟩ := hrel
              by_cases hxm : x < m
              · have hlen := HLE.out p y x hp hy hx
                rw [← il_length] at hlen
                have hpl := HPL.out x y hxm hyn
                have d9 : decide (x < m) = true := by simpa using hxm
                obtain ⟨Y, hyq⟩ : ∃ Y, y * m = Y := ⟨_, rfl⟩
                obtain ⟨X, hpx⟩ : ∃ X, Y + x = X := ⟨_, rfl⟩
                rw [hyq, hpx] at hpl
                have hYX : Y ≤ X := by omega
                go_wp2_with fail
                refine (HRF.out x y _).mono ?_
                rintro e w2 ⟨rfl, hb2⟩
                have HB2 := Lib.hid (below_then HB.out hb2)
                have HO2 := Lib.hid (own_below HO.out hb2)
                clear hb2 HB HO
                by_cases hz : pt x y = p
                · have dz : ((pt x y : Nat) : Int) == (p : Int) := by simp; omega
                  have dz1 : (((pt x y : Nat) : Int) == (p : Int)) = true := dz
                  have dz2 : (pt x y == p) = true := by simpa using hz
                  clear dz hz
                  have HN : Hid (il (cur m n 1 p y (x + 1)) = il (cur m n 1 p y x) ++ [(X : Int)]) := Lib.hid (by rw [cur_x, show gl 1 p x y = true from by unfold gl; rw [if_pos rfl]; exact dz2, if_pos rfl, il_app, ← hpx, ← hyq]; rfl)
                  have HLX : Hid ((il (cur m n 1 p y (x + 1))).length = (il (cur m n 1 p y x)).length + 1) := Lib.hid (by rw [HN.out]; simp)
                  generalize il (cur m n 1 p y x) = A at *
                  have k1 : A.length + 1 ≤ 9223372036854775807 := by omega
                  have k2 : (A.length + 1) * 8 ≤ 140737488355328 := by omega
                  have HM : Hid (n - 0 = n - 0 ∧ m - (x + 1) < m - x ∧ x + 1 ≤ m) := Lib.hid ⟨rfl, by omega, by omega⟩
                  have b1 : Y ≤ 1000000000000 := by omega
                  have b2 : X ≤ 1000000000000 := by omega
                  clear hlen hpl hYX
                  have k3 := Nat.le_trans HB2.out.size (below_alloc w2 (.cells #[.int .i64 (wrap64 (wrap64 ((y : Int) * (m : Int)) + (x : Int)))] 3)).size
                  have HE3 : Hid ((wrap64 (wrap64 ((y : Int) * (m : Int)) + (x : Int))) = (X : Int)) := Lib.hid (by rw [w_mul hyq b1]; exact w_add hpx b2)
                  clear b1 b2 hpx hyq
                  go_wp2_with (at_builtin; refine wpl_append tyI rfl _ _ rfl (own_below HO2.out (below_alloc _ (.cells #[.int .i64 (wrap64 (wrap64 ((y : Int) * (m : Int)) + (x : Int)))] 3))) (src_int _ (wrap64 (wrap64 ((y : Int) * (m : Int)) + (x : Int)))) rfl rfl k1 k2 k3 ?_)
                  intro v' w' own' hg' _
                  have HB7 := Lib.hid ((below_then HB2.out (below_alloc _ (.cells #[.int .i64 (wrap64 (wrap64 ((y : Int) * (m : Int)) + (x : Int)))] 3))).grown hg' k3 (fun r e => (HO2.out.lt r e).1))
                  have HO7 : Hid (w'.ownsRow w.heap.size 3 1 v' (il (cur m n 1 p y (x + 1))).length (ivs (il (cur m n 1 p y (x + 1))))) := Lib.hid (by rw [HLX.out, HN.out, ivs_append, ← HE3.out]; exact own')
                  clear own' hg' HO2 HB2 k3
                  go_wp2
                  go_roundg (m - (x + 1))
                  case measure => exact HM.out.2.1
                  case rel => exact ⟨x + 1, HM.out.2.2, rfl, by go_num, HB7, HO7⟩
                · have dz1 : (((pt x y : Nat) : Int) == (p : Int)) = false := by simp; omega
                  have dz2 : (pt x y == p) = false := by simpa using hz
                  clear hz
                  have HO7 : Hid (_root_.Go.World.ownsRow _ w.heap.size 3 1 u8 (il (cur m n 1 p y (x + 1))).length (ivs (il (cur m n 1 p y (x + 1))))) := Lib.hid (by rw [cur_x, show gl 1 p x y = false from by unfold gl; rw [if_pos rfl]; exact dz2, if_neg (by decide), List.append_nil]; exact HO2.out)
                  clear HO2
                  go_wp2
                  go_roundg (m - (x + 1))
                  case measure => omega
                  case rel => exact ⟨x + 1, by omega, rfl, by go_num, HB2, HO7⟩
              · obtain rfl : x = m := by omega
                have HO7 : Hid (_root_.Go.World.ownsRow _ w.heap.size 3 1 u8 (il (cur x n 1 p (y + 1) 0)).length (ivs (il (cur x n 1 p (y + 1) 0)))) := Lib.hid (by rw [← cur_y]; exact HO.out)
                clear HO hxm
                go_wp2
                go_roundg (n - (y + 1))
                case measure => omega
                case rel => exact ⟨y + 1, by omega, rfl, by go_num, HB, HO7⟩
          · obtain rfl : y = n := by omega
            have HO7 : Hid (_root_.Go.World.ownsRow _ w.heap.size 3 1 _ (il (cur m y 1 (p + 1) 0 0)).length (ivs (il (cur m y 1 (p + 1) 0 0)))) := Lib.hid (by rw [← cur_p]; exact HO.out)
            clear HO hyn
            go_wp2
            go_roundg (7 - (p + 1))
            case measure => omega
            case rel => exact ⟨p + 1, by omega, rfl, by go_num, HB, HO7⟩
      · obtain rfl : p = 7 := by omega
        rw [HAL.out] at HO
        clear hp7
        go_wp2
        go_ret2
        exact ⟨_, rfl, HO.out, HB.out⟩
end Lc
end Go.Proofs.YtfdnjblbhbkndaaDoor
