/- The document's bits of bytes: their contract. -/
import Derived.Test.YtkjdekaipphlpaaRefDigits
import Derived.Test.YtkjdekaipphlpaaApartMem
namespace Go.Proofs.Ytkjdekaipphlpaa
open Go.RowKit

def BitsPost (w : World) (h : Bool) (l : List UInt8) (e : Ending) (w' : World) : Prop :=
  ∃ v, e = .returned v ∧ w'.ownsRow w.heap.size 3 1 v (8 * l.length) (ivs (bi (Bt.rbits h l))) ∧ Below w.heap.size w w'
theorem Bt.rbits_take (h : Bool) (l : List UInt8) (k : Nat) (hk : k < l.length) : Bt.rbits h (l.take (k + 1)) = Bt.rbits h (l.take k) ++ Bt.dg h (gb l k) 8 := by
  rw [take_succ_getD l k hk]; simp [Bt.rbits, gb]
set_option maxHeartbeats 1000000 in
theorem refBits_any (h : Bool) (a : Option Addr) (len cap : Nat) (l : List UInt8) (w : World) (H : Bs w a len cap l) (hl : len ≤ 1000000) :
    Calls Try.prog 36 #[.slice a len cap, .bool h] w (BitsPost w h l) := by
  have HL := Lib.hid H.hlen
  have H0 := Lib.hid H
  clear H
  go_enter Try.func36, Try.ntmps36
  go_wp2
  go_loopw [5, 6] (fun v i wr => ∃ k : Nat, k ≤ len ∧ i = .int .i64 k ∧ Below w.heap.size w wr ∧ Hid (wr.ownsRow w.heap.size 3 1 v (8 * k) (ivs (bi (Bt.rbits h (l.take k)))))) (fun _ i _ => len - (intOf i).toNat)
  case atStart => exact ⟨0, by omega, rfl, Below.refl _ _, Lib.hid (World.ownsRow_nil _ _ _ _)⟩
  case round =>
    obtain ⟨k, hk, rfl, hb, HO⟩ := hrel
    have hz := hb.size
    by_cases hlt : k < len
    · obtain ⟨b, off, rfl, hbl, hcell⟩ := (H0.out.mono hb).at' k hlt
      have hg := gb_lt l k
      have HT := Lib.hid (Bt.rbits_take h l k (by rw [HL.out]; exact hlt))
      generalize gb l k = x at *
      go_wp2_with fail
      refine (digits_any h x 8 _ (by omega) (by omega)).mono ?_
      rintro e w2 ⟨u, rfl, own2, hb2⟩
      have H2 := Lib.hid (own_below HO.out hb2)
      have hb3 := below_then hb hb2
      obtain ⟨ua, uc, rfl, his⟩ := own_is own2 (bi_wf _)
      have hsrc := his.src
      have hz3 := hb3.size
      clear own2 hb2 HO hb
      go_wp2_with (at_builtin; refine wpl_append tyI rfl _ _ rfl H2.out hsrc rfl rfl (by omega) (by omega) hz3 ?_)
      intro v3 w3 own3 hg3 _
      have hb4 : Below w.heap.size w w3 := hb3.grown hg3 hz3 (fun k hk => (H2.out.lt k hk).1)
      rw [← ivs_append, ← bi_append, ← HT.out, show 8 * k + 8 = 8 * (k + 1) by omega] at own3
      have H3 := Lib.hid own3
      clear own3 hg3 hsrc his H2 hb3
      go_wp2
      go_roundw
      case rel => exact ⟨k + 1, by omega, by go_num, hb4, H3⟩
      case measure => simp [intOf]; omega
    · obtain rfl : len = k := by omega
      go_wp2
      go_ret
      refine ⟨_, rfl, ?_, hb⟩
      have := HO.out
      rwa [List.take_of_length_le (by rw [HL.out]; exact Nat.le_refl _), ← HL.out] at this
end Go.Proofs.Ytkjdekaipphlpaa
