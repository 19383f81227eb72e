/- canon.Free: its contract. The document's free amount, and a code plus 1: their contracts. -/
import Derived.Test.YtjjbgdmalefdlaaGreatDoorZ5
import Derived.Test.YtjjbgdmalefdlaaGreatDoorZ8
import Derived.Test.YtjjbgdmalefdlaaGreatDoorZ13
set_option linter.unusedSimpArgs false
set_option linter.unusedVariables false
section
namespace Go.Proofs.YtjjbgdmalefdlaaGreatDoor
open Go.RowKit

theorem errno_shr (n : Nat) (hn : n ≤ 16) : (65536 : Int) / 2 ^ n = ((65536 / 2 ^ n : Nat) : Int) := by rw [Bt.pow_cast]; exact (Int.natCast_ediv 65536 (2 ^ n)).symm
def FreePost (w : World) (l : List Int) (e : Ending) (w' : World) : Prop :=
  e = .returned (.tuple (if Cn.freeB l then #[.int .i64 (65536 - (Cn.sum l : Int)), .nilIface] else #[.int .i64 0, .iface 51 (.int .i64 6)])) ∧ w = w'
theorem free_no (w : World) (l : List Int) (h : Cn.freeB l = false) : FreePost w l (.returned (.tuple #[.int .i64 0, .iface 51 (.int .i64 6)])) w := by
  unfold FreePost; rw [h]; exact ⟨rfl, rfl⟩
theorem free_yes (w : World) (l : List Int) (h : Cn.freeB l = true) (n : Int) (hn : n = 65536 - (Cn.sum l : Int)) : FreePost w l (.returned (.tuple #[.int .i64 n, .nilIface])) w := by
  subst hn; unfold FreePost; rw [h]; exact ⟨rfl, rfl⟩
set_option maxHeartbeats 1000000 in
theorem free_any (a : Option Addr) (len cap : Nat) (l : List Int) (w : World) (h : Is .i64 w a len cap l) (hr : len ≤ 140737488355328) :
    Calls Tryz.prog 106 #[.slice a len cap] w (FreePost w l) := by
  have HL := Lib.hid h.hlen
  have H := Lib.hid h
  clear h
  by_cases hbig : 512 < len
  · have d1 : decide (512 < (len : Int)) = true := by simp; omega
    have hf := Cn.form_big l (by rw [HL.out]; exact hbig)
    have HX := Lib.hid (free_no w l (by simp [Cn.freeB, hf]))
    clear hf
    go_enter Tryz.func106, Tryz.ntmps106
    go_wp2
    go_ret2
    exact HX.out
  · have d1 : decide (512 < (len : Int)) = false := by simp; omega
    go_enter Tryz.func106, Tryz.ntmps106
    go_wp2
    go_loop [4, 13] (fun s i => ∃ k : Nat, k ≤ len ∧ i = .int .i64 k ∧ s = .int .i64 (65536 - (Cn.sum (l.take k) : Int)) ∧ Hid (∀ j, j < k → 0 ≤ l.getD j 0 ∧ l.getD j 0 ≤ 16)) (fun _ i => len - (intOf i).toNat)
    case atStart => exact ⟨0, by omega, rfl, rfl, Lib.hid (fun j hj => absurd hj (by omega))⟩
    case round =>
      obtain ⟨k, hk, rfl, rfl, HG⟩ := hrel
      have hsum : Cn.sum (l.take k) ≤ 33554432 := by have := Cn.sum_le (l.take k); have h2 : (l.take k).length ≤ 512 := by simp; omega
                                                     omega
      by_cases hlt : k < len
      · obtain ⟨b, off, rfl, hb, hcell⟩ := H.out.at' k hlt
        have hkl : k < l.length := by rw [HL.out]; exact hlt
        have HS := Lib.hid (show Cn.sum (l.take (k + 1)) = Cn.sum (l.take k) + Cn.part (l.getD k 0) by rw [ints_snoc l k hkl, Cn.sum_snoc])
        have HB := Lib.hid (Cn.form_bad l k hkl)
        have HG2 := Lib.hid (show 0 ≤ l.getD k 0 ∧ l.getD k 0 ≤ 16 → ∀ j, j < k + 1 → 0 ≤ l.getD j 0 ∧ l.getD j 0 ≤ 16 from fun hx j hj => by
          by_cases hjk : j < k
          · exact HG.out j hjk
          · obtain rfl : j = k := by omega
            exact hx)
        clear hkl
        generalize hz : l.getD k 0 = z at *
        have HZ := Lib.hid hz
        clear hz
        generalize Cn.sum (l.take k) = s at *
        by_cases hneg : z < 0
        · have dz : decide (z < 0) = true := by simpa using hneg
          have HX := Lib.hid (free_no w l (by simp [Cn.freeB, HB.out (.inl hneg)]))
          clear hneg
          go_wp2
          go_ret2
          exact HX.out
        · have dz : decide (z < 0) = false := by simpa using hneg
          by_cases hhi : 16 < z
          · have dh : decide (16 < z) = true := by simpa using hhi
            have HX := Lib.hid (free_no w l (by simp [Cn.freeB, HB.out (.inr hhi)]))
            clear hneg hhi
            go_wp2
            go_ret2
            exact HX.out
          · have dh : decide (16 < z) = false := by simpa using hhi
            have HG3 := Lib.hid (HG2.out ⟨by omega, by omega⟩)
            by_cases hz0 : z = 0
            · subst hz0
              have e0 : Cn.part 0 = 0 := rfl
              clear hneg hhi
              go_wp2
              go_round
              case rel => exact ⟨k + 1, by omega, by go_num, int_eq (by rw [HS.out, e0]; rfl), HG3⟩
              case measure => simp [intOf]; omega
            · obtain ⟨n, rfl⟩ := Int.eq_ofNat_of_zero_le (show 0 ≤ z by omega)
              have hn : n ≤ 16 := by omega
              have dpos : decide (0 < n) = true := by simp; omega
              have dpos2 : 0 < n := by omega
              have dn0 : decide ((n : Int) < 0) = false := by simp
              have ep : Cn.part (n : Int) = 65536 / 2 ^ n := by unfold Cn.part; rw [if_neg (by omega)]; rfl
              have hq : 65536 / 2 ^ n ≤ 65536 := Nat.div_le_self _ _
              have HN := Lib.hid (errno_shr n hn)
              have EP := Lib.hid ep
              clear hneg hhi hz0 ep
              go_wp2
              go_round
              case rel =>
                refine ⟨k + 1, by omega, by go_num, int_eq ?_, HG3⟩
                rw [HS.out, EP.out, HN.out]
                generalize 65536 / 2 ^ n = q at *
                rw [IntWalk.wrap64_in _ ⟨by omega, by omega⟩]
                omega
              case measure => simp [intOf]; omega
      · obtain rfl : len = k := by omega
        have hfull : l.take len = l := List.take_of_length_le (by rw [HL.out]; exact Nat.le_refl _)
        rw [hfull] at hsum
        have hf := Cn.form_good l (by rw [HL.out]; omega) (fun j hj => HG.out j (by rw [HL.out] at hj; exact hj))
        have HX := Lib.hid (show Cn.freeB l = decide (Cn.sum l ≤ 65536) by simp [Cn.freeB, hf])
        have HFU := Lib.hid hfull
        clear hf hfull HG
        rw [HFU.out]
        by_cases hs : Cn.sum l ≤ 65536
        · have ds : decide ((65536 : Int) - (Cn.sum l : Int) < 0) = false := by simp; omega
          have HD := Lib.hid (free_yes w l (by rw [HX.out]; simpa using hs) _ rfl)
          clear hs
          generalize Cn.sum l = s at *
          go_wp2
          go_ret2
          exact HD.out
        · have ds : decide ((65536 : Int) - (Cn.sum l : Int) < 0) = true := by simp; omega
          have HD := Lib.hid (free_no w l (by rw [HX.out]; simpa using hs))
          clear hs
          generalize Cn.sum l = s at *
          go_wp2
          go_ret2
          exact HD.out
end Go.Proofs.YtjjbgdmalefdlaaGreatDoor
end

section
namespace Go.Proofs.YtjjbgdmalefdlaaGreatDoor
open Go.RowKit

set_option maxHeartbeats 1000000 in
theorem refFree_any (a : Option Addr) (len cap : Nat) (l : List Int) (w : World) (h : Is .i64 w a len cap l) (hr : len ≤ 140737488355328) :
    Calls Tryz.prog 94 #[.slice a len cap] w fun e w' => e = .returned (.tuple #[.int .i64 (Cn.freeN l), .bool (Cn.freeB l)]) ∧ w = w' := by
  have HL := Lib.hid h.hlen
  have H := Lib.hid h
  clear h
  by_cases hbig : 512 < len
  · have d1 : decide (512 < (len : Int)) = true := by simp; omega
    have hf := Cn.form_big l (by rw [HL.out]; exact hbig)
    have HX := Lib.hid (show Cn.freeN l = 0 ∧ Cn.freeB l = false by simp [Cn.freeN, Cn.freeB, hf])
    clear hf
    go_enter Tryz.func94, Tryz.ntmps94
    go_wp2
    go_ret2
    exact ⟨by rw [HX.out.1, HX.out.2]; rfl, rfl⟩
  · have d1 : decide (512 < (len : Int)) = false := by simp; omega
    go_enter Tryz.func94, Tryz.ntmps94
    go_wp2
    go_loop [4, 5] (fun s i => ∃ k : Nat, k ≤ len ∧ i = .int .i64 k ∧ s = .int .i64 (Cn.sum (l.take k) : Nat) ∧ Hid (∀ j, j < k → 0 ≤ l.getD j 0 ∧ l.getD j 0 ≤ 16)) (fun _ i => len - (intOf i).toNat)
    case atStart => exact ⟨0, by omega, rfl, rfl, Lib.hid (fun j hj => absurd hj (by omega))⟩
    case round =>
      obtain ⟨k, hk, rfl, rfl, HG⟩ := hrel
      have hsum : Cn.sum (l.take k) ≤ 33554432 := by have := Cn.sum_le (l.take k); have h2 : (l.take k).length ≤ 512 := by simp; omega
                                                     omega
      by_cases hlt : k < len
      · obtain ⟨b, off, rfl, hb, hcell⟩ := H.out.at' k hlt
        have hkl : k < l.length := by rw [HL.out]; exact hlt
        have HS := Lib.hid (show Cn.sum (l.take (k + 1)) = Cn.sum (l.take k) + Cn.part (l.getD k 0) by rw [ints_snoc l k hkl, Cn.sum_snoc])
        have HB := Lib.hid (Cn.form_bad l k hkl)
        have HG2 := Lib.hid (show 0 ≤ l.getD k 0 ∧ l.getD k 0 ≤ 16 → ∀ j, j < k + 1 → 0 ≤ l.getD j 0 ∧ l.getD j 0 ≤ 16 from fun hx j hj => by
          by_cases hjk : j < k
          · exact HG.out j hjk
          · obtain rfl : j = k := by omega
            exact hx)
        clear hkl
        generalize hz : l.getD k 0 = z at *
        have HZ := Lib.hid hz
        clear hz
        generalize Cn.sum (l.take k) = s at *
        by_cases hneg : z < 0
        · have dz : decide (z < 0) = true := by simpa using hneg
          have HX := Lib.hid (show Cn.freeN l = 0 ∧ Cn.freeB l = false by simp [Cn.freeN, Cn.freeB, HB.out (.inl hneg)])
          clear hneg
          go_wp2
          go_ret2
          exact ⟨by rw [HX.out.1, HX.out.2]; rfl, rfl⟩
        · have dz : decide (z < 0) = false := by simpa using hneg
          by_cases hhi : 16 < z
          · have dh : decide (16 < z) = true := by simpa using hhi
            have HX := Lib.hid (show Cn.freeN l = 0 ∧ Cn.freeB l = false by simp [Cn.freeN, Cn.freeB, HB.out (.inr hhi)])
            clear hneg hhi
            go_wp2
            go_ret2
            exact ⟨by rw [HX.out.1, HX.out.2]; rfl, rfl⟩
          · have dh : decide (16 < z) = false := by simpa using hhi
            have HG3 := Lib.hid (HG2.out ⟨by omega, by omega⟩)
            by_cases hz0 : z = 0
            · subst hz0
              have e0 : Cn.part 0 = 0 := rfl
              clear hneg hhi
              go_wp2
              go_round
              case rel => exact ⟨k + 1, by omega, by go_num, int_eq (by rw [HS.out, e0]; rfl), HG3⟩
              case measure => simp [intOf]; omega
            · obtain ⟨n, rfl⟩ := Int.eq_ofNat_of_zero_le (show 0 ≤ z by omega)
              have hn : n ≤ 16 := by omega
              have dpos : decide (0 < n) = true := by simp; omega
              have dpos2 : 0 < n := by omega
              have ep : Cn.part (n : Int) = 65536 / 2 ^ n := by unfold Cn.part; rw [if_neg (by omega)]; rfl
              have EP := Lib.hid ep
              clear hneg hhi hz0 ep
              go_wp2
              go_loop [6, 7] (fun q i => ∃ j : Nat, j ≤ n ∧ i = .int .i64 j ∧ q = .int .i64 (65536 / 2 ^ j : Nat)) (fun _ i => n - (intOf i).toNat)
              case atStart => exact ⟨0, by omega, rfl, rfl⟩
              case round =>
                obtain ⟨j, hj, rfl, rfl⟩ := hrel
                have HN := Lib.hid (show 65536 / 2 ^ (j + 1) = 65536 / 2 ^ j / 2 by rw [Nat.pow_succ, Nat.div_div_eq_div_mul])
                have hq : 65536 / 2 ^ j ≤ 65536 := Nat.div_le_self _ _
                by_cases hjn : j < n
                · generalize 65536 / 2 ^ j = q at *
                  go_wp2
                  go_round
                  case rel => exact ⟨j + 1, by omega, by go_num, int_eq (by rw [HN.out]; omega)⟩
                  case measure => simp [intOf]; omega
                · obtain rfl : n = j := by omega
                  generalize hqq : 65536 / 2 ^ n = q at *
                  have HQ := Lib.hid hqq
                  clear hqq
                  go_wp2
                  go_round
                  case rel => exact ⟨k + 1, by omega, by go_num, int_eq (by rw [HS.out, EP.out]; omega), HG3⟩
                  case measure => simp [intOf]; omega
      · obtain rfl : len = k := by omega
        have hfull : l.take len = l := List.take_of_length_le (by rw [HL.out]; exact Nat.le_refl _)
        rw [hfull] at hsum
        have hf := Cn.form_good l (by rw [HL.out]; omega) (fun j hj => HG.out j (by rw [HL.out] at hj; exact hj))
        have HX := Lib.hid (show Cn.freeN l = 65536 - (Cn.sum l : Int) ∧ Cn.freeB l = decide (Cn.sum l ≤ 65536) by simp [Cn.freeN, Cn.freeB, hf])
        have HFU := Lib.hid hfull
        clear hf hfull HG
        rw [HFU.out]
        generalize Cn.sum l = s at *
        by_cases hs : s ≤ 65536
        · have ds : decide ((s : Int) ≤ 65536) = true := by simp; omega
          have HD := Lib.hid (show decide (s ≤ 65536) = true by simpa using hs)
          clear hs
          go_wp2
          go_ret2
          exact ⟨by rw [HX.out.1, HX.out.2, HD.out]; rfl, rfl⟩
        · have ds : decide ((s : Int) ≤ 65536) = false := by simp; omega
          have HD := Lib.hid (show decide (s ≤ 65536) = false by simpa using hs)
          clear hs
          go_wp2
          go_ret2
          exact ⟨by rw [HX.out.1, HX.out.2, HD.out]; rfl, rfl⟩
/-- A row of the call's own is written in place. -/
def PlusPost (w : World) (l : List Bool) (e : Ending) (w' : World) : Prop :=
  ∃ v, e = .returned v ∧ w'.ownsRow w.heap.size 3 1 v l.length (ivs (bi (Cn.plus l))) ∧ Below w.heap.size w w'
/-- In the midst: the last k bits were 1, and are 0 now (r: the bits, the last one first). -/
def Cn.mid (r : List Bool) (k : Nat) : List Bool := (List.replicate k false ++ r.drop k).reverse
theorem Cn.mid_length (r : List Bool) (k : Nat) (hk : k ≤ r.length) : (Cn.mid r k).length = r.length := by simp [Cn.mid]; omega
theorem Cn.mid_get (r : List Bool) (k : Nat) (hk : k < r.length) : (Cn.mid r k).getD (r.length - 1 - k) false = r.getD k false := by
  simp only [Cn.mid, List.getD]
  rw [List.getElem?_reverse (by simp; omega)]
  have e : (List.replicate k false ++ r.drop k).length - 1 - (r.length - 1 - k) = k := by simp; omega
  rw [e, List.getElem?_append_right (by simp)]
  simp
theorem Cn.mid_set (r : List Bool) (k : Nat) (hk : k < r.length) (b : Bool) : (Cn.mid r k).set (r.length - 1 - k) b = (List.replicate k false ++ b :: r.drop (k + 1)).reverse := by
  apply List.ext_getElem?
  intro i
  rw [List.getElem?_set]
  have hl : (Cn.mid r k).length = r.length := Cn.mid_length r k (by omega)
  have hl2 : (List.replicate k false ++ b :: r.drop (k + 1)).length = r.length := by simp; omega
  by_cases hi : i < r.length
  · by_cases he : r.length - 1 - k = i
    · subst he
      rw [if_pos rfl, if_pos (by rw [hl]; omega), List.getElem?_reverse (by rw [hl2]; omega), hl2]
      have e : r.length - 1 - (r.length - 1 - k) = k := by omega
      rw [e, List.getElem?_append_right (by simp)]
      simp
    · rw [if_neg he, Cn.mid, List.getElem?_reverse (by simp; omega), List.getElem?_reverse (by rw [hl2]; omega), hl2]
      have e2 : (List.replicate k false ++ r.drop k).length = r.length := by simp; omega
      rw [e2]
      by_cases hk2 : r.length - 1 - i < k
      · rw [List.getElem?_append_left (by simp; omega), List.getElem?_append_left (by simp; omega)]
      · rw [List.getElem?_append_right (by simp; omega), List.getElem?_append_right (by simp; omega)]
        simp only [List.length_replicate]
        obtain ⟨d, hd⟩ : ∃ d, r.length - 1 - i - k = d + 1 := ⟨r.length - 1 - i - k - 1, by omega⟩
        rw [hd, List.getElem?_cons_succ, List.getElem?_drop, List.getElem?_drop]
        congr 1; omega
  · have h1 : (List.replicate k false ++ b :: r.drop (k + 1)).reverse[i]? = none := List.getElem?_eq_none (by simp; omega)
    rw [h1, if_neg (by omega), List.getElem?_eq_none (by rw [hl]; omega)]
theorem Cn.mid_succ (r : List Bool) (k : Nat) (hk : k < r.length) : (Cn.mid r k).set (r.length - 1 - k) false = Cn.mid r (k + 1) := by
  rw [Cn.mid_set r k hk, Cn.mid, List.replicate_succ']; simp
theorem Cn.incR_ones (r : List Bool) : ∀ k, k ≤ r.length → (∀ j, j < k → r.getD j false = true) → Cn.incR r = List.replicate k false ++ Cn.incR (r.drop k)
  | 0, _, _ => by simp
  | k + 1, hk, h => by
    rw [Cn.incR_ones r k (by omega) (fun j hj => h j (by omega))]
    have hx := h k (by omega)
    have e : r.drop k = true :: r.drop (k + 1) := by
      rw [List.drop_eq_getElem_cons (by omega)]
      simp only [List.getD, List.getElem?_eq_getElem (show k < r.length by omega), Option.getD_some] at hx
      rw [hx]
    rw [e, Cn.incR, List.replicate_succ']; simp
theorem Cn.plus_found (l : List Bool) (k : Nat) (hk : k < l.length) (h : ∀ j, j < k → l.reverse.getD j false = true) (h0 : l.reverse.getD k false = false) :
    (Cn.mid l.reverse k).set (l.length - 1 - k) true = Cn.plus l := by
  have hk' : k < l.reverse.length := by simpa using hk
  have := Cn.mid_set l.reverse k hk' true
  rw [List.length_reverse] at this
  rw [this, Cn.plus, Cn.incR_ones l.reverse k (by simp; omega) h]
  have e : l.reverse.drop k = false :: l.reverse.drop (k + 1) := by
    rw [List.drop_eq_getElem_cons hk']
    simp only [List.getD, List.getElem?_eq_getElem hk', Option.getD_some] at h0
    rw [h0]
  rw [e, Cn.incR]
theorem Cn.plus_all (l : List Bool) (h : ∀ j, j < l.length → l.reverse.getD j false = true) : Cn.mid l.reverse l.length = Cn.plus l := by
  rw [Cn.plus, Cn.incR_ones l.reverse l.length (by simp) h, Cn.mid]
  have e : l.reverse.drop l.length = [] := List.drop_eq_nil_of_le (by simp)
  rw [e]; simp [Cn.incR]
theorem bi_set (l : List Bool) (j : Nat) (b : Bool) : (bi l).set j (b.toNat : Int) = bi (l.set j b) := by simp [bi, List.map_set]
set_option maxHeartbeats 1000000 in
theorem plus_any (a : Option Addr) (len cap : Nat) (l : List Bool) (w : World) (h : Is .i64 w a len cap (bi l)) (hr : len ≤ 1000000) :
    Calls Tryz.prog 110 #[.slice a len cap] w (PlusPost w l) := by
  have hlen : l.length = len := by have := h.hlen; rwa [bi_length] at this
  have HL := Lib.hid hlen
  have own0 := Lib.hid (World.ownsRow_made (base := w.heap.size) (e := 3) (size := 1) w #[] 0 (Nat.le_refl _) (by unfold maxLen; omega) rfl)
  have hsrc := (h.mono (below_alloc w (.cells #[] 3))).src
  clear hlen h
  go_enter Tryz.func110, Tryz.ntmps110
  go_wp2_with (at_builtin; refine wpl_append tyI rfl _ _ rfl own0.out hsrc rfl rfl (by omega) (by omega) (by simp) ?_)
  intro v1 w1 own1 hg1 _
  have hb1 : Below w.heap.size w w1 := (below_alloc w _).grown hg1 (by simp) (fun k hk => (own0.out.lt k hk).1)
  have O1 : Hid (w1.ownsRow w.heap.size 3 1 v1 len (ivs (bi l))) := Lib.hid (by simpa using own1)
  clear own1 hg1 hsrc own0
  rcases own_nil_or O1.out with ⟨rfl, rfl⟩ | ⟨g, cap1, rfl, hle, hbg, _⟩
  · have hl0 : l = [] := List.eq_nil_of_length_eq_zero HL.out
    subst hl0
    go_wp2
    go_loopw [4] (fun i wr => i = .int .i64 (-1) ∧ w1 = wr) (fun i _ => 0)
    case atStart => exact ⟨by go_num, rfl⟩
    case round =>
      obtain ⟨rfl, rfl⟩ := hrel
      go_wp2
      go_ret
      exact ⟨_, rfl, O1.out, hb1⟩
  · go_wp2
    go_loopw [4] (fun i wr => ∃ k : Nat, k ≤ len ∧ i = .int .i64 ((len : Int) - 1 - k) ∧ Below w.heap.size w wr ∧ Hid (∀ j, j < k → l.reverse.getD j false = true) ∧ Hid (wr.ownsRow w.heap.size 3 1 (.slice (some ⟨g, 0, none⟩) len cap1) len (ivs (bi (Cn.mid l.reverse k))))) (fun i _ => ((intOf i) + 1).toNat)
    case atStart => exact ⟨0, by omega, by go_num, hb1, Lib.hid (fun j hj => absurd hj (by omega)), by simpa [Cn.mid] using O1⟩
    case round =>
      obtain ⟨k, hk, rfl, hb, HJ, HO⟩ := hrel
      by_cases hlt : k < len
      · obtain ⟨i, hi⟩ : ∃ i : Nat, i = len - 1 - k := ⟨_, rfl⟩
        have hii : (len : Int) - 1 - k = (i : Int) := by omega
        have Hi := Lib.hid hi
        have hil : i < len := by omega
        have hml : (Cn.mid l.reverse k).length = len := by rw [Cn.mid_length _ _ (by simp; rw [HL.out]; omega)]; simp [HL.out]
        have hget : (Cn.mid l.reverse k).getD i false = l.reverse.getD k false := by
          have := Cn.mid_get l.reverse k (by simp; rw [HL.out]; exact hlt)
          rw [List.length_reverse, HL.out, ← hi] at this; exact this
        have hcell : wr.cell? ⟨g, i, none⟩ = some (.int .i64 ((l.reverse.getD k false).toNat : Int)) := by
          rw [HO.out.cellAt i (by omega), ivs_get _ _ (by rw [bi_length, hml]; exact hil), bi_getD, hget]
        have hfr : wr.frozen? ⟨g, i, none⟩ = false := by
          rcases HO.out.2 with ⟨e, _⟩ | ⟨g', c', cur, e, _, hg', _⟩
          · simp at e
          · simp only [Value.slice.injEq, Option.some.injEq, Addr.mk.injEq, and_true, true_and] at e
            obtain ⟨rfl, _⟩ := e
            exact frozen_of_row wr g i _ _ hg'
        rw [hii]
        by_cases hbit : l.reverse.getD k false = true
        · rw [hbit] at hcell
          have hset := own_set HO.out i ((false.toNat : Nat) : Int)
          rw [bi_set, hi] at hset
          have hms := Cn.mid_succ l.reverse k (by simp; rw [HL.out]; exact hlt)
          rw [List.length_reverse, HL.out] at hms
          rw [hms, ← hi] at hset
          have H2 : Hid ((wr.setCell ⟨g, i, none⟩ (.int .i64 0)).ownsRow w.heap.size 3 1 (.slice (some ⟨g, 0, none⟩) len cap1) len (ivs (bi (Cn.mid l.reverse (k + 1))))) := Lib.hid hset
          have HJ2 : Hid (∀ j, j < k + 1 → l.reverse.getD j false = true) := Lib.hid (fun j hj => by
            by_cases hjk : j < k
            · exact HJ.out j hjk
            · obtain rfl : j = k := by omega
              exact hbit)
          have hb2 : Below w.heap.size w (wr.setCell ⟨g, i, none⟩ (.int .i64 0)) := hb.setCell hbg _
          have hcell2 : wr.cell? ⟨g, i, none⟩ = some (.int .i64 1) := hcell
          clear hset hms hcell hget hml hi hii hbit HO HJ
          go_wp2
          go_roundw
          case rel => exact ⟨k + 1, by omega, int_eq (by have := Hi.out; omega), hb2, HJ2, H2⟩
          case measure => simp [intOf]
        · have hbf : l.reverse.getD k false = false := by simpa using hbit
          rw [hbf] at hcell
          have hset := own_set HO.out i ((true.toNat : Nat) : Int)
          rw [bi_set, hi] at hset
          have hms := Cn.plus_found l k (by rw [HL.out]; exact hlt) HJ.out hbf
          rw [HL.out] at hms
          rw [hms, ← hi] at hset
          have H2 : Hid ((wr.setCell ⟨g, i, none⟩ (.int .i64 1)).ownsRow w.heap.size 3 1 (.slice (some ⟨g, 0, none⟩) len cap1) len (ivs (bi (Cn.plus l)))) := Lib.hid hset
          have hb2 : Below w.heap.size w (wr.setCell ⟨g, i, none⟩ (.int .i64 1)) := hb.setCell hbg _
          have hcell2 : wr.cell? ⟨g, i, none⟩ = some (.int .i64 0) := hcell
          clear hset hms hcell hget hml hi hii hbit hbf HO HJ
          go_wp2
          go_ret
          exact ⟨_, rfl, by rw [HL.out]; exact H2.out, hb2⟩
      · obtain rfl : len = k := by omega
        have hms := Cn.plus_all l (fun j hj => HJ.out j (by rw [HL.out] at hj; exact hj))
        rw [HL.out] at hms
        rw [hms] at HO
        have e1 : (len : Int) - 1 - len = -1 := by omega
        rw [e1]
        clear hms e1
        go_wp2
        go_ret
        exact ⟨_, rfl, by rw [HL.out]; exact HO.out, hb⟩
end Go.Proofs.YtjjbgdmalefdlaaGreatDoor
end
