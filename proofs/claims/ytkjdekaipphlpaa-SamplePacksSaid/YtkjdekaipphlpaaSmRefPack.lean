/- The document's Pack: its contract. -/
import Derived.Test.YtkjdekaipphlpaaSmSmall
import Derived.Test.YtkjdekaipphlpaaSmPackBits
import Derived.Test.YtkjdekaipphlpaaRef03c
import Derived.Test.YtkjdekaipphlpaaIntsGet
import Derived.Test.YtkjdekaipphlpaaRegionS
import Derived.Deep.LoopGhost
namespace Go.Proofs.Ytkjdekaipphlpaa
open Go.RowKit

namespace Sm
theorem refPack_bad (a : Option Addr) (len cap : Nat) (d : Int) (w : World) (h : deep d = false) :
    Calls Try.prog 10 #[.slice a len cap, .int .i64 d] w fun e w' => e = .returned (.tuple #[.slice none 0 0, .int .i64 6]) ∧ w = w' := by
  have HG := Lib.hid (fun w => deep_any d w)
  rw [h] at HG
  clear h
  go_enter Try.func10, Try.ntmps10
  go_wp2_with fail
  refine (HG.out _).mono ?_
  rintro e w' ⟨rfl, rfl⟩
  go_wp2
  go_ret2
  exact ⟨rfl, rfl⟩
def RpPost (w : World) (d : Nat) (l : List Int) (e : Ending) (w' : World) : Prop :=
  (allIn d l = true ∧ ∃ v, e = .returned (.tuple #[v, .int .i64 0]) ∧ w'.ownsRow w.heap.size 5 1 v (row d l).length (bvs (row d l)) ∧ Below w.heap.size w w') ∨
  (allIn d l = false ∧ e = .returned (.tuple #[.slice none 0 0, .int .i64 7]) ∧ Below w.heap.size w w')
set_option maxRecDepth 100000 in
set_option maxHeartbeats 2000000 in
theorem refPack_any (a : Option Addr) (len cap : Nat) (l : List Int) (D : Nat) (w : World) (hD : Dp D) (h : Is .i64 w a len cap l) (hlen : len ≤ 500) :
    Calls Try.prog 10 #[.slice a len cap, .int .i64 D] w (RpPost w D l) := by
  have HG := Lib.hid (fun w => deep_any D w)
  rw [dp_deep hD] at HG
  have HT := Lib.hid (fun w => refTop_any hD w)
  have hD16 := dp_le hD
  have htp := top_pos hD
  have d1 : decide ((1048576 : Int) < (len : Int)) = false := by simp; omega
  have HL := Lib.hid h.hlen
  have H := Lib.hid h
  clear h hD
  go_enter Try.func10, Try.ntmps10
  go_wp2_with fail
  refine (HG.out _).mono ?_
  rintro e w' ⟨rfl, rfl⟩
  go_wp2
  have HEL : Hid (∀ k, (enc D (l.take k)).length ≤ 16 * len) := Lib.hid (fun k => by
    have h1 := enc_length D (l.take k)
    have h2 : (l.take k).length ≤ len := by rw [List.length_take, HL.out]; omega
    have h3 : (l.take k).length * D ≤ len * 16 := Nat.mul_le_mul h2 (by omega)
    omega)
  go_loopw [6, 7] (fun v i wr => ∃ k : Nat, k ≤ len ∧ i = .int .i64 k ∧ Hid (allIn D (l.take k) = true) ∧ Hid (wr.ownsRow w.heap.size 3 1 v (enc D (l.take k)).length (ivs (bi (enc D (l.take k)))) ∧ Below w.heap.size w wr)) (fun _ i _ => len - (intOf i).toNat)
  case atStart => exact ⟨0, by omega, rfl, Lib.hid rfl, Lib.hid ⟨World.ownsRow_nil _ _ _ _, Below.refl _ _⟩⟩
  case round =>
    obtain ⟨k, hk, rfl, HA, HK⟩ := hrel
    have hrs := HK.out.2.size
    by_cases hlt : k < len
    · obtain ⟨b, off, rfl, hb, hcell⟩ := (H.out.mono HK.out.2).at' k hlt
      have hkl : k < l.length := by rw [HL.out]; exact hlt
      have HSN := Lib.hid (allIn_snoc D l k hkl)
      have HNO := Lib.hid (fun h => allIn_no D l k hkl h)
      have HES := Lib.hid (show enc D (l.take (k + 1)) = enc D (l.take k) ++ Bt.dg true (l.getD k 0).toNat D from by rw [ints_snoc l k hkl, enc_snoc])
      have hn := H.out.getW k hlt
      clear hkl
      generalize l.getD k 0 = n at *
      have htb := htp.2.1
      have hcd : wr.drew.cell? ⟨b, off + k, none⟩ = some (.int .i64 n) := hcell
      by_cases hn0 : n < 0
      · have HF := Lib.hid (HNO.out (by unfold inD; rw [decide_eq_false (by omega)]; rfl))
        have dn : decide (n < 0) = true := by simpa using hn0
        clear hn0 hn
        go_wp2_with fail
        refine wp_region_noPanic ?_
        refine region_RH (fun w' => w'.cell? ⟨b, off + k, none⟩ = some (.int .i64 n)) (by kernel_rfl) ?_
        refine RH_take (i := 0) (v := ?_) rfl (by kernel_rfl) (by kernel_rfl) (by kernel_rfl) (fun _ _ _ h => h) hcd (by rfl) ?_ ?_
        rotate_left
        · (intro w' hw'; first | (go_simp; done) | (go_simp; with_reducible rfl))
        try simp only [List.getElem_toArray, List.getElem_cons_zero, List.getElem_cons_succ, Act.put, List.setIfInBounds_toArray, List.set_cons_zero, List.set_cons_succ]
        refine RH_take (i := 1) (v := ?_) rfl (by kernel_rfl) (by kernel_rfl) (by kernel_rfl) (fun _ _ _ h => h) hcd (by rfl) ?_ ?_
        rotate_left
        · (intro w' hw'; first | (go_simp; done) | (go_simp; with_reducible rfl))
        try simp only [List.getElem_toArray, List.getElem_cons_zero, List.getElem_cons_succ, Act.put, List.setIfInBounds_toArray, List.set_cons_zero, List.set_cons_succ]
        refine RH_take (i := 2) (v := ?_) rfl (by kernel_rfl) (by kernel_rfl) (by kernel_rfl) (fun _ _ _ h => h) hcd (by rfl) ?_ ?_
        rotate_left
        · (intro w' hw'; first | (go_simp; done) | (go_simp; with_reducible rfl))
        try simp only [List.getElem_toArray, List.getElem_cons_zero, List.getElem_cons_succ, Act.put, List.setIfInBounds_toArray, List.set_cons_zero, List.set_cons_succ]
        refine RH_take (i := 3) (v := ?_) rfl (by kernel_rfl) (by kernel_rfl) (by kernel_rfl) (fun _ _ _ h => h) hcd (by rfl) ?_ ?_
        rotate_left
        · (intro w' hw'; first | (go_simp; done) | (go_simp; with_reducible rfl))
        try simp only [List.getElem_toArray, List.getElem_cons_zero, List.getElem_cons_succ, Act.put, List.setIfInBounds_toArray, List.set_cons_zero, List.set_cons_succ]
        refine RH_take (i := 4) (v := ?_) rfl (by kernel_rfl) (by kernel_rfl) (by kernel_rfl) (fun _ _ _ h => h) hcd (by rfl) ?_ ?_
        rotate_left
        · (intro w' hw'; first | (go_simp; done) | (go_simp; with_reducible rfl))
        try simp only [List.getElem_toArray, List.getElem_cons_zero, List.getElem_cons_succ, Act.put, List.setIfInBounds_toArray, List.set_cons_zero, List.set_cons_succ]
        refine RH_take (i := 5) (v := ?_) rfl (by kernel_rfl) (by kernel_rfl) (by kernel_rfl) (fun _ _ _ h => h) hcd (by rfl) ?_ ?_
        rotate_left
        · (intro w' hw'; first | (go_simp; done) | (go_simp; with_reducible rfl))
        try simp only [List.getElem_toArray, List.getElem_cons_zero, List.getElem_cons_succ, Act.put, List.setIfInBounds_toArray, List.set_cons_zero, List.set_cons_succ]
        refine RH_skip (i := 6) rfl (by kernel_rfl) (by kernel_rfl) (by kernel_rfl) (fun _ _ _ h => h) hcd (by rfl) ?_
        try simp only [List.getElem_toArray, List.getElem_cons_zero, List.getElem_cons_succ, Act.put, List.setIfInBounds_toArray, List.set_cons_zero, List.set_cons_succ]
        refine RH_skip (i := 7) rfl (by kernel_rfl) (by kernel_rfl) (by kernel_rfl) (fun _ _ _ h => h) hcd (by rfl) ?_
        try simp only [List.getElem_toArray, List.getElem_cons_zero, List.getElem_cons_succ, Act.put, List.setIfInBounds_toArray, List.set_cons_zero, List.set_cons_succ]
        refine RH_skip (i := 8) rfl (by kernel_rfl) (by kernel_rfl) (by kernel_rfl) (fun _ _ _ h => h) hcd (by rfl) ?_
        try simp only [List.getElem_toArray, List.getElem_cons_zero, List.getElem_cons_succ, Act.put, List.setIfInBounds_toArray, List.set_cons_zero, List.set_cons_succ]
        refine RH_skip (i := 9) rfl (by kernel_rfl) (by kernel_rfl) (by kernel_rfl) (fun _ _ _ h => h) hcd (by rfl) ?_
        try simp only [List.getElem_toArray, List.getElem_cons_zero, List.getElem_cons_succ, Act.put, List.setIfInBounds_toArray, List.set_cons_zero, List.set_cons_succ]
        refine RH_skip (i := 10) rfl (by kernel_rfl) (by kernel_rfl) (by kernel_rfl) (fun _ _ _ h => h) hcd (by rfl) ?_
        try simp only [List.getElem_toArray, List.getElem_cons_zero, List.getElem_cons_succ, Act.put, List.setIfInBounds_toArray, List.set_cons_zero, List.set_cons_succ]
        refine RH_skip (i := 11) rfl (by kernel_rfl) (by kernel_rfl) (by kernel_rfl) (fun _ _ _ h => h) hcd (by rfl) ?_
        try simp only [List.getElem_toArray, List.getElem_cons_zero, List.getElem_cons_succ, Act.put, List.setIfInBounds_toArray, List.set_cons_zero, List.set_cons_succ]
        refine RH_skip (i := 12) rfl (by kernel_rfl) (by kernel_rfl) (by kernel_rfl) (fun _ _ _ h => h) hcd (by rfl) ?_
        try simp only [List.getElem_toArray, List.getElem_cons_zero, List.getElem_cons_succ, Act.put, List.setIfInBounds_toArray, List.set_cons_zero, List.set_cons_succ]
        refine RH_take (i := 13) (v := ?_) rfl (by kernel_rfl) (by kernel_rfl) (by kernel_rfl) (fun _ _ _ h => h) hcd (by rfl) ?_ ?_
        rotate_left
        · (intro w' hw'; first | (go_simp; done) | (go_simp; with_reducible rfl))
        try simp only [List.getElem_toArray, List.getElem_cons_zero, List.getElem_cons_succ, Act.put, List.setIfInBounds_toArray, List.set_cons_zero, List.set_cons_succ]
        refine wpAnyH_done (by kernel_rfl) ?_ _
        refine NoPanic.normal ?_
        go_wp2
        go_ret2
        exact .inr ⟨HF.out, rfl, HK.out.2.drew⟩
      have dn : decide (n < 0) = false := by simpa using hn0
      obtain ⟨m, rfl⟩ := Int.eq_ofNat_of_zero_le (show 0 ≤ n by omega)
      by_cases hbig : top D < m
      · have HF := Lib.hid (HNO.out (by unfold inD; rw [decide_eq_false (p := (m : Int) ≤ top D) (by omega), Bool.and_false]))
        have db : decide ((top D : Int) < (m : Int)) = true := by simp; omega
        have db2 : decide (top D < m) = true := by simpa using hbig
        clear hbig hn0 hn
        go_wp2_with fail
        refine wp_region_noPanic ?_
        refine region_RH (fun w' => w'.cell? ⟨b, off + k, none⟩ = some (.int .i64 (m : Nat))) (by kernel_rfl) ?_
        refine RH_take (i := 0) (v := ?_) rfl (by kernel_rfl) (by kernel_rfl) (by kernel_rfl) (fun _ _ _ h => h) hcd (by rfl) ?_ ?_
        rotate_left
        · (intro w' hw'; first | (go_simp; done) | (go_simp; with_reducible rfl))
        try simp only [List.getElem_toArray, List.getElem_cons_zero, List.getElem_cons_succ, Act.put, List.setIfInBounds_toArray, List.set_cons_zero, List.set_cons_succ]
        refine RH_take (i := 1) (v := ?_) rfl (by kernel_rfl) (by kernel_rfl) (by kernel_rfl) (fun _ _ _ h => h) hcd (by rfl) ?_ ?_
        rotate_left
        · (intro w' hw'; first | (go_simp; done) | (go_simp; with_reducible rfl))
        try simp only [List.getElem_toArray, List.getElem_cons_zero, List.getElem_cons_succ, Act.put, List.setIfInBounds_toArray, List.set_cons_zero, List.set_cons_succ]
        refine RH_take (i := 2) (v := ?_) rfl (by kernel_rfl) (by kernel_rfl) (by kernel_rfl) (fun _ _ _ h => h) hcd (by rfl) ?_ ?_
        rotate_left
        · (intro w' hw'; first | (go_simp; done) | (go_simp; with_reducible rfl))
        try simp only [List.getElem_toArray, List.getElem_cons_zero, List.getElem_cons_succ, Act.put, List.setIfInBounds_toArray, List.set_cons_zero, List.set_cons_succ]
        refine RH_take (i := 3) (v := ?_) rfl (by kernel_rfl) (by kernel_rfl) (by kernel_rfl) (fun _ _ _ h => h) hcd (by rfl) ?_ ?_
        rotate_left
        · (intro w' hw'; first | (go_simp; done) | (go_simp; with_reducible rfl))
        try simp only [List.getElem_toArray, List.getElem_cons_zero, List.getElem_cons_succ, Act.put, List.setIfInBounds_toArray, List.set_cons_zero, List.set_cons_succ]
        refine RH_take (i := 4) (v := ?_) rfl (by kernel_rfl) (by kernel_rfl) (by kernel_rfl) (fun _ _ _ h => h) hcd (by rfl) ?_ ?_
        rotate_left
        · (intro w' hw'; first | (go_simp; done) | (go_simp; with_reducible rfl))
        try simp only [List.getElem_toArray, List.getElem_cons_zero, List.getElem_cons_succ, Act.put, List.setIfInBounds_toArray, List.set_cons_zero, List.set_cons_succ]
        refine RH_take (i := 5) (v := ?_) rfl (by kernel_rfl) (by kernel_rfl) (by kernel_rfl) (fun _ _ _ h => h) hcd (by rfl) ?_ ?_
        rotate_left
        · (intro w' hw'; first | (go_simp; done) | (go_simp; with_reducible rfl))
        try simp only [List.getElem_toArray, List.getElem_cons_zero, List.getElem_cons_succ, Act.put, List.setIfInBounds_toArray, List.set_cons_zero, List.set_cons_succ]
        refine RH_take (i := 6) (v := ?_) rfl (by kernel_rfl) (by kernel_rfl) (by kernel_rfl) (fun _ _ _ h => h) hcd (by rfl) ?_ ?_
        rotate_left
        · (intro w' hw'; first | (go_simp; done) | (go_simp; with_reducible rfl))
        try simp only [List.getElem_toArray, List.getElem_cons_zero, List.getElem_cons_succ, Act.put, List.setIfInBounds_toArray, List.set_cons_zero, List.set_cons_succ]
        refine RH_take (i := 7) (v := ?_) rfl (by kernel_rfl) (by kernel_rfl) (by kernel_rfl) (fun _ _ _ h => h) hcd (by rfl) ?_ ?_
        rotate_left
        · (intro w' hw'; first | (go_simp; done) | (go_simp; with_reducible rfl))
        try simp only [List.getElem_toArray, List.getElem_cons_zero, List.getElem_cons_succ, Act.put, List.setIfInBounds_toArray, List.set_cons_zero, List.set_cons_succ]
        refine RH_take (i := 8) (v := ?_) rfl (by kernel_rfl) (by kernel_rfl) (by kernel_rfl) (fun _ _ _ h => h) hcd (by rfl) ?_ ?_
        rotate_left
        · (intro w' hw'; first | (go_simp; done) | (go_simp; with_reducible rfl))
        try simp only [List.getElem_toArray, List.getElem_cons_zero, List.getElem_cons_succ, Act.put, List.setIfInBounds_toArray, List.set_cons_zero, List.set_cons_succ]
        refine RH_take (i := 9) (v := ?_) rfl (by kernel_rfl) (by kernel_rfl) (by kernel_rfl) (fun _ _ _ h => h) hcd (by rfl) ?_ ?_
        rotate_left
        · (intro w' hw'; first | (go_simp; done) | (go_simp; with_reducible rfl))
        try simp only [List.getElem_toArray, List.getElem_cons_zero, List.getElem_cons_succ, Act.put, List.setIfInBounds_toArray, List.set_cons_zero, List.set_cons_succ]
        refine RH_take (i := 10) (v := ?_) rfl (by kernel_rfl) (by kernel_rfl) (by kernel_rfl) (fun _ _ _ h => h) hcd (by rfl) ?_ ?_
        rotate_left
        · (intro w' hw'; first | (go_simp; done) | (go_simp; with_reducible rfl))
        try simp only [List.getElem_toArray, List.getElem_cons_zero, List.getElem_cons_succ, Act.put, List.setIfInBounds_toArray, List.set_cons_zero, List.set_cons_succ]
        refine RH_step (i := 11) (by kernel_rfl) rfl (fun K hK => ?_)
        go_simp
        go_at_call 22
        refine (HT.out _).mono ?_
        rintro e w' ⟨rfl, rfl⟩
        go_simp
        refine hK.out _ _ hcd ?_
        clear hK K
        try simp only [List.getElem_toArray, List.getElem_cons_zero, List.getElem_cons_succ, Act.put, List.setIfInBounds_toArray, List.set_cons_zero, List.set_cons_succ]
        refine RH_take (i := 12) (v := ?_) rfl (by kernel_rfl) (by kernel_rfl) (by kernel_rfl) (fun _ _ _ h => h) hcd (by rfl) ?_ ?_
        rotate_left
        · (intro w' hw'; first | (go_simp; done) | (go_simp; with_reducible rfl))
        try simp only [List.getElem_toArray, List.getElem_cons_zero, List.getElem_cons_succ, Act.put, List.setIfInBounds_toArray, List.set_cons_zero, List.set_cons_succ]
        refine RH_take (i := 13) (v := ?_) rfl (by kernel_rfl) (by kernel_rfl) (by kernel_rfl) (fun _ _ _ h => h) hcd (by rfl) ?_ ?_
        rotate_left
        · (intro w' hw'; first | (go_simp; done) | (go_simp; with_reducible rfl))
        try simp only [List.getElem_toArray, List.getElem_cons_zero, List.getElem_cons_succ, Act.put, List.setIfInBounds_toArray, List.set_cons_zero, List.set_cons_succ]
        refine wpAnyH_done (by kernel_rfl) ?_ _
        refine NoPanic.normal ?_
        go_wp2
        go_ret2
        exact .inr ⟨HF.out, rfl, HK.out.2.drew⟩
      have HF : Hid (allIn D (l.take (k + 1)) = true) := Lib.hid (by rw [HSN.out, HA.out]; unfold inD; simp; omega)
      have db : decide ((top D : Int) < (m : Int)) = false := by simp; omega
      have db2 : decide (top D < m) = false := by simpa using hbig
      have hm6 : m ≤ 65535 := by omega
      have hel := HEL.out k
      rw [Int.toNat_natCast] at HES
      clear hbig hn0 hn
      go_wp2_with fail
      refine wp_region_noPanic ?_
      refine region_RH (fun w' => w'.cell? ⟨b, off + k, none⟩ = some (.int .i64 (m : Nat))) (by kernel_rfl) ?_
      refine RH_take (i := 0) (v := ?_) rfl (by kernel_rfl) (by kernel_rfl) (by kernel_rfl) (fun _ _ _ h => h) hcd (by rfl) ?_ ?_
      rotate_left
      · (intro w' hw'; first | (go_simp; done) | (go_simp; with_reducible rfl))
      try simp only [List.getElem_toArray, List.getElem_cons_zero, List.getElem_cons_succ, Act.put, List.setIfInBounds_toArray, List.set_cons_zero, List.set_cons_succ]
      refine RH_take (i := 1) (v := ?_) rfl (by kernel_rfl) (by kernel_rfl) (by kernel_rfl) (fun _ _ _ h => h) hcd (by rfl) ?_ ?_
      rotate_left
      · (intro w' hw'; first | (go_simp; done) | (go_simp; with_reducible rfl))
      try simp only [List.getElem_toArray, List.getElem_cons_zero, List.getElem_cons_succ, Act.put, List.setIfInBounds_toArray, List.set_cons_zero, List.set_cons_succ]
      refine RH_take (i := 2) (v := ?_) rfl (by kernel_rfl) (by kernel_rfl) (by kernel_rfl) (fun _ _ _ h => h) hcd (by rfl) ?_ ?_
      rotate_left
      · (intro w' hw'; first | (go_simp; done) | (go_simp; with_reducible rfl))
      try simp only [List.getElem_toArray, List.getElem_cons_zero, List.getElem_cons_succ, Act.put, List.setIfInBounds_toArray, List.set_cons_zero, List.set_cons_succ]
      refine RH_take (i := 3) (v := ?_) rfl (by kernel_rfl) (by kernel_rfl) (by kernel_rfl) (fun _ _ _ h => h) hcd (by rfl) ?_ ?_
      rotate_left
      · (intro w' hw'; first | (go_simp; done) | (go_simp; with_reducible rfl))
      try simp only [List.getElem_toArray, List.getElem_cons_zero, List.getElem_cons_succ, Act.put, List.setIfInBounds_toArray, List.set_cons_zero, List.set_cons_succ]
      refine RH_take (i := 4) (v := ?_) rfl (by kernel_rfl) (by kernel_rfl) (by kernel_rfl) (fun _ _ _ h => h) hcd (by rfl) ?_ ?_
      rotate_left
      · (intro w' hw'; first | (go_simp; done) | (go_simp; with_reducible rfl))
      try simp only [List.getElem_toArray, List.getElem_cons_zero, List.getElem_cons_succ, Act.put, List.setIfInBounds_toArray, List.set_cons_zero, List.set_cons_succ]
      refine RH_take (i := 5) (v := ?_) rfl (by kernel_rfl) (by kernel_rfl) (by kernel_rfl) (fun _ _ _ h => h) hcd (by rfl) ?_ ?_
      rotate_left
      · (intro w' hw'; first | (go_simp; done) | (go_simp; with_reducible rfl))
      try simp only [List.getElem_toArray, List.getElem_cons_zero, List.getElem_cons_succ, Act.put, List.setIfInBounds_toArray, List.set_cons_zero, List.set_cons_succ]
      refine RH_take (i := 6) (v := ?_) rfl (by kernel_rfl) (by kernel_rfl) (by kernel_rfl) (fun _ _ _ h => h) hcd (by rfl) ?_ ?_
      rotate_left
      · (intro w' hw'; first | (go_simp; done) | (go_simp; with_reducible rfl))
      try simp only [List.getElem_toArray, List.getElem_cons_zero, List.getElem_cons_succ, Act.put, List.setIfInBounds_toArray, List.set_cons_zero, List.set_cons_succ]
      refine RH_take (i := 7) (v := ?_) rfl (by kernel_rfl) (by kernel_rfl) (by kernel_rfl) (fun _ _ _ h => h) hcd (by rfl) ?_ ?_
      rotate_left
      · (intro w' hw'; first | (go_simp; done) | (go_simp; with_reducible rfl))
      try simp only [List.getElem_toArray, List.getElem_cons_zero, List.getElem_cons_succ, Act.put, List.setIfInBounds_toArray, List.set_cons_zero, List.set_cons_succ]
      refine RH_take (i := 8) (v := ?_) rfl (by kernel_rfl) (by kernel_rfl) (by kernel_rfl) (fun _ _ _ h => h) hcd (by rfl) ?_ ?_
      rotate_left
      · (intro w' hw'; first | (go_simp; done) | (go_simp; with_reducible rfl))
      try simp only [List.getElem_toArray, List.getElem_cons_zero, List.getElem_cons_succ, Act.put, List.setIfInBounds_toArray, List.set_cons_zero, List.set_cons_succ]
      refine RH_take (i := 9) (v := ?_) rfl (by kernel_rfl) (by kernel_rfl) (by kernel_rfl) (fun _ _ _ h => h) hcd (by rfl) ?_ ?_
      rotate_left
      · (intro w' hw'; first | (go_simp; done) | (go_simp; with_reducible rfl))
      try simp only [List.getElem_toArray, List.getElem_cons_zero, List.getElem_cons_succ, Act.put, List.setIfInBounds_toArray, List.set_cons_zero, List.set_cons_succ]
      refine RH_take (i := 10) (v := ?_) rfl (by kernel_rfl) (by kernel_rfl) (by kernel_rfl) (fun _ _ _ h => h) hcd (by rfl) ?_ ?_
      rotate_left
      · (intro w' hw'; first | (go_simp; done) | (go_simp; with_reducible rfl))
      try simp only [List.getElem_toArray, List.getElem_cons_zero, List.getElem_cons_succ, Act.put, List.setIfInBounds_toArray, List.set_cons_zero, List.set_cons_succ]
      refine RH_step (i := 11) (by kernel_rfl) rfl (fun K hK => ?_)
      go_simp
      go_at_call 22
      refine (HT.out _).mono ?_
      rintro e w' ⟨rfl, rfl⟩
      go_simp
      refine hK.out _ _ hcd ?_
      clear hK K
      try simp only [List.getElem_toArray, List.getElem_cons_zero, List.getElem_cons_succ, Act.put, List.setIfInBounds_toArray, List.set_cons_zero, List.set_cons_succ]
      refine RH_take (i := 12) (v := ?_) rfl (by kernel_rfl) (by kernel_rfl) (by kernel_rfl) (fun _ _ _ h => h) hcd (by rfl) ?_ ?_
      rotate_left
      · (intro w' hw'; first | (go_simp; done) | (go_simp; with_reducible rfl))
      try simp only [List.getElem_toArray, List.getElem_cons_zero, List.getElem_cons_succ, Act.put, List.setIfInBounds_toArray, List.set_cons_zero, List.set_cons_succ]
      refine RH_take (i := 13) (v := ?_) rfl (by kernel_rfl) (by kernel_rfl) (by kernel_rfl) (fun _ _ _ h => h) hcd (by rfl) ?_ ?_
      rotate_left
      · (intro w' hw'; first | (go_simp; done) | (go_simp; with_reducible rfl))
      try simp only [List.getElem_toArray, List.getElem_cons_zero, List.getElem_cons_succ, Act.put, List.setIfInBounds_toArray, List.set_cons_zero, List.set_cons_succ]
      refine wpAnyH_done (by kernel_rfl) ?_ _
      refine NoPanic.normal ?_
      have HKD := Lib.hid (And.intro (own_below HK.out.1 (Below.drew (Below.refl wr.heap.size wr))) HK.out.2.drew)
      have hcell2 : wr.drew.cell? ⟨b, off + k, none⟩ = some (.int .i64 (m : Nat)) := hcd
      go_wp2_with fail
      refine (digits_any true m D _ (by omega) (by omega)).mono ?_
      rintro e w2 ⟨u, rfl, own2, hb2⟩
      have H2 := Lib.hid (own_below HKD.out.1 hb2)
      have hb3 := below_then HKD.out.2 hb2
      obtain ⟨ua, uc, rfl, his⟩ := own_is own2 (bi_wf _)
      have hsrc := his.src
      have hz3 := hb3.size
      clear own2 hb2 HK HKD
      go_wp2_with (at_builtin; refine wpl_append tyI rfl _ _ rfl H2.out hsrc rfl rfl (by omega) (by omega) hz3 ?_)
      intro v3 w3 own3 hg3 _
      have hb4 : Below w.heap.size w w3 := hb3.grown hg3 hz3 (fun k hk => (H2.out.lt k hk).1)
      rw [← ivs_append, ← bi_append, ← HES.out] at own3
      have H3 : Hid (w3.ownsRow w.heap.size 3 1 v3 (enc D (l.take (k + 1))).length (ivs (bi (enc D (l.take (k + 1))))) ∧ Below w.heap.size w w3) := Lib.hid ⟨by
        have e : (enc D (l.take (k + 1))).length = (enc D (l.take k)).length + D := by rw [HES.out, List.length_append, Bt.dg_length]
        rw [e]; exact own3, hb4⟩
      clear own3 hg3 hsrc his H2 hb3 hb4 hel
      go_wp2
      go_roundw
      case rel => exact ⟨k + 1, by omega, by go_num, HF, H3⟩
      case measure => simp [intOf]; omega
    · obtain rfl : len = k := by omega
      have HTK := Lib.hid (show l.take len = l from List.take_of_length_le (by rw [HL.out]; exact Nat.le_refl _))
      rw [HTK.out] at HK HA
      have hel := HEL.out len
      rw [HTK.out] at hel
      have HML := Lib.hid (show mis (enc D l).length = (8 - (enc D l).length % 8) % 8 from rfl)
      have HPP := Lib.hid (packs_pad true true (enc D l))
      have HRW := Lib.hid (show row D l = Bt.packs true false (enc D l) from rfl)
      have HRL := Lib.hid (show (row D l).length = ((enc D l).length + 7) / 8 from by unfold row; rw [Bt.packs_length])
      go_wp2
      have HE2 : Hid (∀ j, (enc D l ++ List.replicate j false).length = (enc D l).length + j) := Lib.hid (fun j => by simp)
      have hmb : mis (enc D l).length ≤ 7 := by have := HML.out; omega
      have hrow0 : wr.ownsRow w.heap.size 3 1 u6 ((enc D l).length + 0) (ivs (bi (enc D l ++ List.replicate 0 false))) := by simpa using HK.out.1
      have HST : Hid (wr.ownsRow w.heap.size 3 1 u6 ((enc D l).length + 0) (ivs (bi (enc D l ++ List.replicate 0 false))) ∧ Below w.heap.size w wr) := Lib.hid ⟨hrow0, HK.out.2⟩
      clear HK hrow0 HEL HTK
      generalize mis (enc D l).length = M at *
      generalize (enc D l).length = E at *
      go_loopg [6] M (fun gk v wr => ∃ j : Nat, j ≤ M ∧ gk = M - j ∧ Hid (wr.ownsRow w.heap.size 3 1 v (E + j) (ivs (bi (enc D l ++ List.replicate j false))) ∧ Below w.heap.size w wr))
      case atStart => exact ⟨0, by omega, by omega, HST⟩
      case round =>
        obtain ⟨j, hj, rfl, HJ⟩ := hrel
        obtain ⟨va, vc, rfl, his⟩ := own_is HJ.out.1 (bi_wf _)
        have HIS := Lib.hid his
        have hrs2 := HJ.out.2.size
        clear his
        by_cases hlt : j < M
        · have dm : ((((E + j : Nat) : Int) % 8) != 0) = true := by have := HML.out; simp; omega
          have dm2 : (((E + j) % 8) != 0) = true := by have := HML.out; simp; omega
          have hsrc : SrcRow (wr.alloc (.cells #[Value.int .i64 0] 3)) (some ⟨wr.heap.size, 0, none⟩) 1 1 (ivs (bi [false])) 1 := src_int wr 0
          have H2 := Lib.hid (HJ.out.1.alloc (.cells #[Value.int .i64 0] 3))
          have hbb : w.heap.size ≤ (wr.alloc (.cells #[Value.int .i64 0] 3)).heap.size := by simp; omega
          go_wp2_with (at_builtin; refine wpl_append tyI rfl _ _ rfl H2.out hsrc rfl rfl (by omega) (by omega) hbb ?_)
          intro v3 w3 own3 hg3 _
          have hb4 : Below w.heap.size w w3 := (HJ.out.2.alloc hrs2 _).grown hg3 hbb (fun k hk => (H2.out.lt k hk).1)
          rw [← ivs_append, ← bi_append, List.append_assoc, show List.replicate j false ++ [false] = List.replicate (j + 1) false from (List.replicate_succ' (n := j) (a := false)).symm] at own3
          have H3 := Lib.hid (And.intro own3 hb4)
          clear own3 hg3 hsrc H2 hbb hb4 HJ HIS
          go_wp2
          go_roundg (M - (j + 1))
          case measure => omega
          case rel => exact ⟨j + 1, by omega, rfl, H3⟩
        · obtain rfl : M = j := by omega
          have dm : ((((E + M : Nat) : Int) % 8) != 0) = false := by have := HML.out; simp; omega
          have dm2 : (((E + M) % 8) != 0) = false := by have := HML.out; simp; omega
          go_wp2_with fail
          refine (refBytes_any true va _ vc _ _ HIS.out (by omega)).mono ?_
          rintro e w3 ⟨u, rfl, own3, hb3⟩
          have HFIN : Hid (RpPost w D l (.returned (.tuple #[u, .int .i64 0])) w3) := Lib.hid (.inl ⟨HA.out, u, rfl, by
            rw [HPP.out, ← HRW.out, HE2.out, show (E + M + 7) / 8 = (row D l).length by rw [HRL.out]; have := HML.out; omega] at own3
            exact own_base own3 (fun j hj => by have := (own3.lt j hj).1; omega), below_then HJ.out.2 hb3⟩)
          clear own3 hb3
          go_wp2
          go_ret2
          exact HFIN.out
end Sm
end Go.Proofs.Ytkjdekaipphlpaa
