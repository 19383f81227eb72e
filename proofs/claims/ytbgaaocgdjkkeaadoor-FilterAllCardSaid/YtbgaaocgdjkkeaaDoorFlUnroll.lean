/- filter.Unroll: its contract. -/
import Derived.Test.YtbgaaocgdjkkeaaDoorFlChk
import Derived.Test.YtbgaaocgdjkkeaaDoorFlSub
import Derived.Deep.RegionHeld3
namespace Go.Proofs.YtbgaaocgdjkkeaaDoor
open Go.RowKit

theorem unroll_bad (a : Option Addr) (n cap : Nat) (s c p : Int) (w : World) (hb : Fi.frm s c p = true) :
    Calls Tryd.prog 13 #[.slice a n cap, .int .i64 s, .int .i64 c, .int .i64 p] w fun e w' => e = .returned (.tuple #[.slice none 0 0, .iface 38 (.int .i64 6)]) ∧ w = w' := by
  rw [Fi.frm_true] at hb
  obtain ⟨m1, hm1⟩ : ∃ m1 : Int, (if c < s then c else s) = m1 := ⟨_, rfl⟩
  obtain ⟨m2, hm2⟩ : ∃ m2 : Int, (if p < m1 then p else m1) = m2 := ⟨_, rfl⟩
  obtain ⟨mx, hmx⟩ : ∃ mx : Int, (if s < c then c else s) = mx := ⟨_, rfl⟩
  have e1 : m2 < 1 ∨ 8 < p ∨ 1048576 < mx := by
    have x1 : m1 ≤ c ∧ m1 ≤ s := by rw [← hm1]; split <;> omega
    have x2 : m2 ≤ p ∧ m2 ≤ m1 := by rw [← hm2]; split <;> omega
    have x3 : c ≤ mx ∧ s ≤ mx := by rw [← hmx]; split <;> omega
    omega
  clear hb
  cases d1 : decide (m2 < 1)
  · cases d2 : decide (8 < p)
    · have d3 : decide (1048576 < mx) = true := by simp at d1 d2 ⊢; omega
      clear e1
      go_enter Tryd.func13, Tryd.ntmps13
      go_wp2
      go_ret2
      exact ⟨rfl, rfl⟩
    · clear e1
      go_enter Tryd.func13, Tryd.ntmps13
      go_wp2
      go_ret2
      exact ⟨rfl, rfl⟩
  · clear e1
    go_enter Tryd.func13, Tryd.ntmps13
    go_wp2
    go_ret2
    exact ⟨rfl, rfl⟩
namespace Fi
/-- The row ahead, as it lies in the block. -/
def Ahd (g s k : Nat) (ao : Option Addr) (al : Nat) : Prop := (k = 0 ∧ ao = none ∧ al = 0) ∨ (0 < k ∧ ao = some ⟨g, (k - 1) * s, none⟩ ∧ al = s)
/-- k rows are done. -/
def Done (l : List UInt8) (s p c k : Nat) (F : List UInt8) : Prop := F.length = c * s ∧ F.take (k * s) = outN l s p k
theorem Done.next {l : List UInt8} {s p c k : Nat} {F : List UInt8} (h : Done l s p c k F) (hk : k < c) (hl : (rwI l s p k).length = s) : Done l s p c (k + 1) (F.take (k * s) ++ rwI l s p k ++ F.drop (k * s + s)) := by
  have e : (k + 1) * s ≤ c * s := Nat.mul_le_mul_right s hk
  rw [Nat.succ_mul] at e
  have h1 := h.1
  have h4 : (F.take (k * s)).length = k * s := by rw [List.length_take]; omega
  refine ⟨by simp [hl]; omega, ?_⟩
  rw [Nat.succ_mul, List.take_append_of_le_length (by rw [List.length_append, h4, hl]; exact Nat.le_refl _), List.take_of_length_le (by rw [List.length_append, h4, hl]; exact Nat.le_refl _), h.2, outN]
/-- The row ahead reads as it should, whatever becomes of row k's place. -/
theorem ahd_bs {l : List UInt8} {s p c k g : Nat} {F : List UInt8} {ao : Option Addr} {al : Nat} (ha : Ahd g s k ao al) (h : Done l s p c k F) (hk : k < c) (hs : s ≤ 10000000) (hlen : ∀ j, j < k → (j + 1) * (s + 1) ≤ l.length)
    {w' : World} {R T : List UInt8} (hb : Bk w' g (F.take (k * s) ++ R ++ T)) : Bs w' ao al al (prv l s p k) := by
  rcases ha with ⟨rfl, rfl, rfl⟩ | ⟨hk0, rfl, rfl⟩
  · exact bs_nil _
  · obtain ⟨j, rfl⟩ : ∃ j, k = j + 1 := ⟨k - 1, by omega⟩
    rw [h.2, outN] at hb
    have h1 : (outN l al p j).length = j * al := outN_length j (fun i hi => hlen i (by omega))
    have h2 : (rwI l al p j).length = al := rwI_length (hlen j (by omega))
    have := hb.bs (j * al) al al (by simp only [List.length_append, h1, h2]; omega) (Nat.le_refl _) (by omega)
    rw [List.append_assoc, List.append_assoc, List.drop_append_of_le_length (by omega), List.drop_of_length_le (by omega), List.nil_append, List.take_append_of_le_length (by omega), List.take_of_length_le (by omega)] at this
    exact this
def UPost (w : World) (b : Nat) (r : List UInt8) (n : Nat) (e : Ending) (w' : World) : Prop :=
  Below w.heap.size w w' ∧ ((b = 0 ∧ ∃ g, e = .returned (.tuple #[.slice (some ⟨g, 0, none⟩) n n, .nilIface]) ∧ w'.ownsRow w.heap.size 5 1 (.slice (some ⟨g, 0, none⟩) n n) n (bvs r)) ∨
    (b ≠ 0 ∧ e = .returned (.tuple #[.slice none 0 0, .iface 38 (.int .i64 b)])))
end Fi
set_option maxRecDepth 100000 in
set_option maxHeartbeats 2000000 in
theorem unroll_good (a : Option Addr) (n cap s c p : Nat) (l : List UInt8) (w : World) (h : Bs w a n cap l) (hn : n ≤ 100000000) (hc : cap ≤ 140737488355328) (hs : 1 ≤ s) (hs2 : s ≤ 1048576) (hc1 : 1 ≤ c) (hc2 : c ≤ 1048576) (hp : 1 ≤ p) (hp8 : p ≤ 8) :
    Calls Tryd.prog 13 #[.slice a n cap, .int .i64 s, .int .i64 c, .int .i64 p] w (Fi.UPost w (Fi.chkN l s c 0) (Fi.outN l s p c) (c * s)) := by
  obtain ⟨m1, hm1⟩ : ∃ m1 : Int, (if (c : Int) < (s : Int) then (c : Int) else (s : Int)) = m1 := ⟨_, rfl⟩
  obtain ⟨m2, hm2⟩ : ∃ m2 : Int, (if (p : Int) < m1 then (p : Int) else m1) = m2 := ⟨_, rfl⟩
  obtain ⟨mx, hmx⟩ : ∃ mx : Int, (if (s : Int) < (c : Int) then (c : Int) else (s : Int)) = mx := ⟨_, rfl⟩
  have hm1' : (if c < s then (c : Int) else (s : Int)) = m1 := by rw [← hm1]; simp only [Int.ofNat_lt]
  have hmx' : (if s < c then (c : Int) else (s : Int)) = mx := by rw [← hmx]; simp only [Int.ofNat_lt]
  have d1 : decide (m2 < 1) = false := by
    have x1 : 1 ≤ m1 := by rw [← hm1]; split <;> omega
    have x2 : 1 ≤ m2 := by rw [← hm2]; split <;> omega
    simp; omega
  have d2 : decide (8 < (p : Int)) = false := by simp; omega
  have d3 : decide (1048576 < mx) = false := by
    have x3 : mx ≤ 1048576 := by rw [← hmx]; split <;> omega
    simp; omega
  have HCK := Lib.hid (checkRolled_any a n cap s c l w h hn hc hs (by omega) (by omega))
  have HLN := Lib.hid h.hlen
  have H := Lib.hid h
  clear h
  by_cases hz : Fi.chkN l s c 0 = 0
  · have hgood := Fi.chkN_zero l s c 0 hz (by omega)
    rw [Nat.zero_add, HLN.out] at hgood
    have HGD : Hid (∀ j, j < c → (j + 1) * (s + 1) ≤ n ∧ gb l (j * (s + 1)) ≤ 4) := Lib.hid (fun j hj => hgood.2 j (by omega) (by omega))
    have hnc : c * s + c = n := by have := hgood.1; rw [Nat.mul_add, Nat.mul_one] at this; exact this
    have HN := Lib.hid hnc
    rw [hz] at HCK ⊢
    have hlen : ∀ j, j < c → (j + 1) * (s + 1) ≤ l.length := fun j hj => by rw [HLN.out]; exact (HGD.out j hj).1
    have HLEN := Lib.hid hlen
    have hn0 : 0 < n := by omega
    obtain ⟨b, off, rfl, hb, _⟩ := H.out.at' 0 hn0
    obtain ⟨P, hP⟩ : ∃ P : Nat, c * s = P := ⟨_, rfl⟩
    have hPn : P ≤ 100000000 := by omega
    have hpe : (s : Int) * (c : Int) = (P : Int) := by rw [← hP, Int.mul_comm]; simp
    have HP := Lib.hid hP
    rw [hP]
    clear hz hgood hnc hlen hn0 hP
    go_enter Tryd.func13, Tryd.ntmps13
    go_wp2_with fail
    refine HCK.out.mono ?_
    rintro e w' ⟨rfl, rfl⟩
    rw [show Fi.eV 0 = .nilIface from rfl]
    clear HCK hm1 hm2 hmx hm1' hmx' d1 d2 d3
    go_wp2_with (at_make; refine wpl_make_bytes rfl _ _ rfl w.heap.size .i64 .i64 _ _ P rfl rfl rfl rfl (by omega) (Nat.le_refl _) ?_)
    intro w1 own1 hb1
    have HBK := Lib.hid (Bk.of_own own1)
    have HB1 := Lib.hid hb1
    have HD0 : Hid (Fi.Done l s p c 0 (List.replicate P 0)) := Lib.hid ⟨by simp [HP.out], by simp [Fi.outN]⟩
    clear own1 hb1
    go_wp2
    obtain ⟨g, hg⟩ : ∃ g, w.heap.size = g := ⟨_, rfl⟩
    have HG := Lib.hid hg
    rw [hg] at HBK ⊢
    clear hg
    go_loopw [12, 13, 14, 15, 44] (fun av _ _ _ i wr => ∃ (k : Nat) (ao : Option Addr) (al : Nat), k ≤ c ∧ i = .int .i64 k ∧ av = .slice ao al al ∧ Hid (Fi.Ahd g s k ao al) ∧ Hid (Below w.heap.size w wr ∧ ∃ F, Fi.Done l s p c k F ∧ Bk wr g F)) (fun _ _ _ _ i _ => c - (intOf i).toNat)
    case atStart => exact ⟨0, none, 0, by omega, rfl, rfl, Lib.hid (.inl ⟨rfl, rfl, rfl⟩), Lib.hid ⟨HB1.out, _, HD0.out, HBK.out⟩⟩
    case round =>
      obtain ⟨k, ao, al, hk, rfl, rfl, HAH, HX⟩ := hrel
      clear HBK HB1 HD0
      by_cases hkc : k < c
      · obtain ⟨hbw, F, hd, hbk⟩ := HX.out
        obtain ⟨hA1, hA2⟩ := HGD.out k hkc
        obtain ⟨A, hA⟩ : ∃ A, k * (s + 1) = A := ⟨_, rfl⟩
        obtain ⟨B, hB⟩ : ∃ B, k * s = B := ⟨_, rfl⟩
        obtain ⟨t, ht⟩ : ∃ t, s + 1 = t := ⟨_, rfl⟩
        rw [Nat.succ_mul, hA] at hA1
        rw [hA] at hA2
        have hBP : B + s ≤ P := by
          have := Nat.mul_le_mul_right s hkc
          rw [Nat.succ_mul, hB, HP.out] at this
          exact this
        have hA3 : A + t ≤ n := by omega
        have R1 := Lib.hid (rowOf_any b off n cap t k A wr (by rw [← ht]; exact hA) hA3 H.out.hle hc (by omega) (by omega) (by omega))
        have R2 := Lib.hid (rowOf_any g 0 P P s k B wr hB hBP (Nat.le_refl _) (by omega) hs (by omega) (by omega))
        rw [Nat.zero_add] at R2
        have htI : (s : Int) + 1 = (t : Int) := by omega
        have ht1 : t - 1 = s := by omega
        have ht2 : 1 ≤ t := by omega
        have hAn : A < n := by omega
        have hHw := H.out.mono hbw
        obtain ⟨b', off', e', hbl, c0⟩ := hHw.at' A hAn
        simp only [Option.some.injEq, Addr.mk.injEq, and_true] at e'
        obtain ⟨rfl, rfl⟩ := e'
        have hgl := gb_lt l A
        have hbg : b ≠ g := by rw [← HG.out]; omega
        have hgle : w.heap.size ≤ g := by rw [HG.out]; exact Nat.le_refl _
        have hrow : ∀ w', Ch wr.drew w' (fun k => k = g) → Bs w' (some ⟨b, off + A + 1, none⟩) s s (Fi.dat l s k) := fun w' hc => by
          have h1 := H.out.mono (hbw.trans ((Ch.of_below (T := fun k => k = g) ((Below.refl _ wr).drew)).trans hc (fun _ h => .inl h) |>.below (B := w.heap.size) hbw.size (fun k hk => by omega)))
          have h2 := h1.sub (A + 1) s (by omega)
          rw [← hA] at h2
          rw [← hA]
          exact h2
        have hF := hd.1
        have hahd : ∀ j w', j ≤ s → Ch wr.drew w' (fun k => k = g) → Bk w' g (F.take B ++ Fi.unN (gb l A : Nat) (Fi.dat l s k) (Fi.prv l s p k) p j ++ F.drop (B + j)) → Bs w' ao al al (Fi.prv l s p k) := fun j w' hj hc hk' => by
          rw [← hB] at hk'
          exact Fi.ahd_bs HAH.out hd hkc (by omega) (fun i hi => HLEN.out i (by omega)) hk'
        have hal : al = 0 ∨ al = s := by rcases HAH.out with ⟨_, _, h⟩ | ⟨_, _, h⟩ <;> omega
        have HCALL := Lib.hid (unfilterTo_any g B s s F (gb l A : Nat) (some ⟨b, off + A + 1, none⟩) s (Fi.dat l s k) ao al al (Fi.prv l s p k) p wr.drew hbk (by rw [hF, HP.out]; exact hBP) (Nat.le_refl _) (by omega) hp hp8 hal hrow hahd)
        have hrl := Fi.rwI_length (p := p) (HLEN.out k hkc)
        have hnext := hd.next hkc hrl
        have hrw : Fi.rwI l s p k = Fi.unf (gb l A : Nat) (Fi.dat l s k) (Fi.prv l s p k) p := by unfold Fi.rwI; rw [hA]
        rw [hrw, hB] at hnext
        have HNX := Lib.hid hnext
        have HBW := Lib.hid hbw
        have HAH2 : Hid (Fi.Ahd g s (k + 1) (some ⟨g, B, none⟩) s) := Lib.hid (.inr ⟨by omega, by rw [Nat.add_sub_cancel, hB], rfl⟩)
        have HNE := Lib.hid hbg
        have HGL := Lib.hid hgle
        have HBL := Lib.hid hbl
        have hI1 : (1 : Int) ≤ (t : Int) := by omega
        have hI0 : (0 : Int) < (t : Int) := by omega
        have hN0 : 0 < t := by omega
        clear hrow hahd hal hrl hnext hrw hbw hd hbk HX HAH hA hB ht hF hHw hbg hA1 hA2 hgle hbl
        generalize Fi.unf (gb l A : Nat) (Fi.dat l s k) (Fi.prv l s p k) p = U at *
        generalize gb l A = x at *
        have hxw : IntKind.i64.wrap (x : Int) = (x : Int) := IntWalk.i64_in _ ⟨by omega, by omega⟩
        have ht3 : ¬ t = 1 := by omega
        go_wp2_with fail
        refine R1.out.mono ?_
        rintro e w' ⟨rfl, rfl⟩
        clear R1
        go_wp2_with fail
        refine R2.out.mono ?_
        rintro e w' ⟨rfl, rfl⟩
        clear R2
        go_wp2_with fail
        go_region_held3 (fun w' => w'.cell? ⟨b, off + A, none⟩ = some (.int .u8 x)) (first | (with_reducible exact c0) | (with_reducible exact c1) | go_keep)
          (first
            | (go_at_call 28; (with_reducible refine HCALL.out.mono ?_); rintro e w2 ⟨rfl, hbk2, hc2⟩; have c1 : w2.cell? ⟨b, off + A, none⟩ = some (.int .u8 x) := (World.cell?_of_block (a := ⟨b, off + A, none⟩) (hc2.block b HBL.out HNE.out)).trans c0; have HX2 : Hid (Below w.heap.size w w2 ∧ ∃ F, Fi.Done l s p c (k + 1) F ∧ Bk w2 g F) := Lib.hid ⟨HBW.out.drew.trans (hc2.below (B := w.heap.size) HBW.out.size (fun k hk => by have := HGL.out; omega)), _, HNX.out, hbk2⟩; clear hbk2 hc2)
            | fail)
        go_wp2
        go_roundw
        case rel => exact ⟨k + 1, _, _, by omega, by go_num, rfl, HAH2, HX2⟩
        case measure => simp [intOf]; omega
      · obtain rfl : c = k := by omega
        obtain ⟨hbw, F, hd, hbk⟩ := HX.out
        have hF := hd.1
        have h2 := hd.2
        rw [List.take_of_length_le (by rw [hF]; exact Nat.le_refl _)] at h2
        rw [h2] at hbk hF
        rw [HP.out] at hF
        have HO := Lib.hid (hbk.own (base := w.heap.size) (by rw [HG.out]; exact Nat.le_refl _) hF (by omega))
        have HB := Lib.hid hbw
        clear hbw hbk hF h2 hd HX
        go_wp2
        go_ret2
        exact ⟨HB.out, .inl ⟨rfl, _, rfl, HO.out⟩⟩
  · have HZ := Lib.hid hz
    generalize Fi.chkN l s c 0 = q at *
    rw [show Fi.eV q = .iface 38 (.int .i64 q) from if_neg hz] at HCK
    clear hz
    go_enter Tryd.func13, Tryd.ntmps13
    go_wp2_with fail
    refine HCK.out.mono ?_
    rintro e w' ⟨rfl, rfl⟩
    go_wp2
    go_ret2
    exact ⟨Below.refl _ _, .inr ⟨HZ.out, rfl⟩⟩
end Go.Proofs.YtbgaaocgdjkkeaaDoor
