/- (*Reader).Take, Align: their contracts. -/
import Derived.Test.YtkjdekaipphlpaaBitsLeft
import Derived.Test.YtkjdekaipphlpaaBitsSmall
import Derived.Test.YtkjdekaipphlpaaRegionJ
import Derived.Deep.LoopGhost
import Derived.Deep.DeepCutAuto
namespace Go.Proofs.Ytkjdekaipphlpaa
open Go.RowKit

theorem take_range (w : World) (g : Nat) (c : Int) (h : c < 0 ∨ 32 < c) :
    Calls Try.prog 35 #[.pointer (some ⟨g, 0, none⟩), .int .i64 c] w fun e w' => e = .returned (.tuple #[.int .i64 0, .iface 41 (.int .i64 7)]) ∧ w = w' := by
  have HC := Lib.hid h
  clear h
  go_enter Try.func35, Try.ntmps35
  go_wp2_with fail
  refine (isCount_no _ _ HC.out).mono ?_
  rintro e w' ⟨rfl, rfl⟩
  go_wp2
  go_ret2
  exact ⟨rfl, rfl⟩
theorem take_short (w : World) (B g : Nat) (h : Bool) (v : Value) (l : List UInt8) (p c : Nat) (H : Rd w B g h v l p) (hp : p ≤ 8 * l.length) (hl : l.length ≤ 1000000000000) (hc : c ≤ 32) (hs : 8 * l.length - p < c) :
    Calls Try.prog 35 #[.pointer (some ⟨g, 0, none⟩), .int .i64 c] w fun e w' => e = .returned (.tuple #[.int .i64 0, .iface 41 (.int .i64 8)]) ∧ Below w.heap.size w w' := by
  have HH := Lib.hid H
  obtain ⟨r, hr⟩ : ∃ r, 8 * l.length - p = r := ⟨_, rfl⟩
  have HR := Lib.hid hr
  have d1 : decide (r < c) = true := by simp; omega
  clear hr H hs
  go_enter Try.func35, Try.ntmps35
  go_wp2_with fail
  refine (isCount_yes c _ hc).mono ?_
  rintro e w' ⟨rfl, rfl⟩
  go_wp2_with fail
  refine (left_any _ B g h v l p HH.out hp hl).mono ?_
  rintro e w' ⟨rfl, n, rfl⟩
  rw [HR.out]
  go_wp2
  go_ret2
  exact ⟨rfl, ⟨rfl, rfl, rfl, Nat.le_refl _, fun _ _ => rfl⟩⟩
def TakeRPost (w : World) (B g : Nat) (h : Bool) (v : Value) (l : List UInt8) (p c : Nat) (e : Ending) (w' : World) : Prop :=
  e = .returned (.tuple #[.int .i64 (Bt.num h (((Bt.rbits h l).drop p).take c) : Nat), .nilIface]) ∧ Rd w' B g h v l (p + c) ∧ Ch w w' (fun k => k = g)
/-- In the midst of a number that is read. -/
def RdMid (w : World) (B g : Nat) (h : Bool) (v : Value) (l : List UInt8) (p : Nat) (wx : World) : Prop := Rd wx B g h v l p ∧ Ch w wx (fun k => k = g)
theorem rd_shf_le (h : Bool) (size fro some : Nat) (hs : fro + some ≤ size) : Bt.shf h size fro some + some ≤ size := by
  cases h <;> simp [Bt.shf] <;> omega
theorem Bt.part8_val (x sh s : Nat) (hx : x < 256) (hsh : sh ≤ 64) (hs : s ≤ 32) :
    bits .and .i64 ((x : Int) / 2 ^ min sh 64) (IntKind.i64.wrap (IntKind.i64.wrap (2 ^ s) - 1)) = ((x >>> sh &&& (2 ^ s - 1) : Nat) : Int) := Bt.part_val x sh s (by omega) hsh hs
theorem Bt.acc_val (n p s sh c : Nat) (hn : n < 2 ^ c) (hp : p < 2 ^ s) (hs : sh + s ≤ c) (hc : c ≤ 32) :
    bits .or .i64 (n : Int) (IntKind.i64.wrap ((p : Int) * 2 ^ min sh 64)) = ((n ||| p <<< sh : Nat) : Int) ∧ n ||| p <<< sh < 2 ^ c := by
  have h1 := Bt.shl_lt p s sh c hp hs
  have h2 := Bt.pow_le c 32 hc
  have h3 := Nat.or_lt_two_pow hn h1
  rw [show min sh 64 = sh by omega, Bt.pow_cast, show (p : Int) * ((2 ^ sh : Nat) : Int) = ((p <<< sh : Nat) : Int) by rw [Nat.shiftLeft_eq]; simp]
  generalize p <<< sh = y at *
  generalize 2 ^ c = z at *
  simp only [Nat.reducePow] at h2
  rw [IntWalk.i64_in _ ⟨by omega, by omega⟩]
  exact ⟨i64_or_nat n y (by omega) (by omega), h3⟩

set_option maxHeartbeats 4000000 in
set_option maxRecDepth 100000 in
theorem takeR_ok (w : World) (B g : Nat) (h : Bool) (v : Value) (l : List UInt8) (p c : Nat) (H : Rd w B g h v l p) (hB : B ≤ w.heap.size) (hl : l.length ≤ 1000000000000) (hc : c ≤ 32) (hs : p + c ≤ 8 * l.length) :
    Calls Try.prog 35 #[.pointer (some ⟨g, 0, none⟩), .int .i64 c] w (TakeRPost w B g h v l p c) := by
  have HH := Lib.hid H
  obtain ⟨r, hr⟩ : ∃ r, 8 * l.length - p = r := ⟨_, rfl⟩
  have HR := Lib.hid hr
  have d1 : decide (r < c) = false := by simp; omega
  clear hr H
  go_enter Try.func35, Try.ntmps35
  go_wp2_with fail
  refine (isCount_yes c _ hc).mono ?_
  rintro e w' ⟨rfl, rfl⟩
  go_wp2_with fail
  refine (left_any _ B g h v l p HH.out (by omega) hl).mono ?_
  rintro e w' ⟨rfl, dn, rfl⟩
  rw [HR.out]
  have HM0 := Lib.hid (show RdMid w B g h v l p (w.drewN dn) from ⟨HH.out.mono (drewN_below w dn), Ch.of_below (drewN_below w dn)⟩)
  clear HH HR
  obtain ⟨t, ht⟩ : ∃ t, (Bt.rbits h l).drop p = t := ⟨_, rfl⟩
  have htl : c ≤ t.length := by rw [← ht, List.length_drop, Bt.rbits_length]; omega
  have HT := Lib.hid ht
  have HTL := Lib.hid htl
  clear ht htl
  go_wp2
  go_loopg [6, 7] c (fun gk n i wr => ∃ d : Nat, d ≤ c ∧ gk = c - d ∧ i = .int .i64 d ∧ n = .int .i64 (Bt.tk h t c d : Nat) ∧ Hid (RdMid w B g h v l (p + d) wr))
  case atStart => exact ⟨0, by omega, by omega, rfl, by rw [Bt.tk_zero]; rfl, HM0⟩
  case round =>
    obtain ⟨d, hd, rfl, rfl, rfl, HM⟩ := hrel
    by_cases hlt : d < c
    · have k2 := HM.out.1.c2
      have HTK := Lib.hid (Bt.tk_lt h t c d hd)
      have hf8 : (p + d) % 8 < 8 := by omega
      have hz := HM.out.1.lt
      obtain ⟨s, hsd⟩ : ∃ s, s = min (8 - (p + d) % 8) (c - d) := ⟨_, rfl⟩
      have hs1 : 1 ≤ s := by omega
      have hs2 : (p + d) % 8 + s ≤ 8 := by omega
      have hs3 : d + s ≤ c := by omega
      have Hs := Lib.hid hsd
      clear hsd
      have HSTEP := Lib.hid (Bt.tk_step h t c d s hs3 HTL.out hs1)
      have HPART := Lib.hid (Bt.part_byte h l (p + d) s hs2 (by omega) hs1)
      have Htd := Lib.hid (show ((Bt.rbits h l).drop (p + d)).take s = (t.drop d).take s by rw [← HT.out, List.drop_drop])
      obtain ⟨u, hu⟩ : ∃ u, u = p + d := ⟨_, rfl⟩
      rw [← hu] at HM k2 hf8 hs2 Hs HPART Htd
      have hub : u < 8 * l.length := by omega
      have hub2 : u ≤ 8000000000000 := by omega
      have Hu := Lib.hid hu
      clear hu
      go_upto_region 9 with (fail)
      go_cut [8, 9] (fun s8 s9 wx => wr = wx ∧ s8 = .int .i64 ((u % 8 : Nat) : Int) ∧ s9 = .int .i64 ((s : Nat) : Int))
      case first =>
        go_wp2_with fail
        all_goals go_meet
        all_goals exact ⟨rfl, int_eq (by omega), int_eq (by have := Hs.out; omega)⟩
      case rest =>
        obtain ⟨rfl, rfl, rfl⟩ := hcut
        clear Hs
        have k0 := HM.out.1.c0
        have k1 := HM.out.1.c1
        obtain ⟨va, cap, rfl⟩ : ∃ gv cap, v = .slice (some ⟨gv, 0, none⟩) l.length cap := by
          rcases own_nil_or HM.out.1.own with ⟨_, hx⟩ | ⟨gv, cap, e, _⟩
          · omega
          · exact ⟨gv, cap, e⟩
        have hq : u / 8 < l.length := by omega
        have o1 : wr.cell? ⟨va, u / 8, none⟩ = some (.int .u8 (gb l (u / 8))) := by
          rw [HM.out.1.own.cellAt (u / 8) (by omega), bvs_get l _ hq]
        have n0 := World.new_ne _ _ k0
        have n1 := World.new_ne _ _ k1
        have n2 := World.new_ne _ _ k2
        have n3 := World.new_ne _ _ o1
        have hx := gb_lt l (u / 8)
        obtain ⟨q, hqd⟩ : ∃ q, u / 8 = q := ⟨_, rfl⟩
        rw [hqd] at hq o1 n3 hx HPART
        have a1 : (u : Int).tdiv 8 = q := by rw [Int.tdiv_eq_ediv_of_nonneg (by omega)]; omega
        have a4 : IntKind.i64.wrap (q : Int) = q := IntWalk.i64_in _ ⟨by omega, by omega⟩
        have a5 : (u : Int) / 8 = q := by omega
        have a2 : (0 : Int) ≤ q := by omega
        have a3 : (q : Int) < (l.length : Int) := by omega
        clear hqd
        obtain ⟨f, hfd⟩ : ∃ f, u % 8 = f := ⟨_, rfl⟩
        rw [hfd] at hf8 hs2 HPART ⊢
        clear hfd
        have Hlen := Lib.hid hub
        generalize gb l q = x at *
        go_upto_region 10 with (fail)
        go_cut [10] (fun s10 wx => s10 = .int .i64 ((x >>> Bt.shf h 8 f s &&& (2 ^ s - 1) : Nat) : Int) ∧ Hid (RdMid w B g h (.slice (some ⟨va, 0, none⟩) l.length cap) l u wx))
        case first =>
          have hM2 : Hid (RdMid w B g h (.slice (some ⟨va, 0, none⟩) l.length cap) l u (wr.alloc (.cells #[.bool h] 69)).drew) := Lib.hid
            ⟨HM.out.1.mono (below_alloc wr _).drew, (HM.out.2.alloc _).drew⟩
          have Hval := Lib.hid (Bt.part8_val x (Bt.shf h 8 f s) s hx (by have := rd_shf_le h 8 f s (by omega); omega) (by omega))
          clear HM
          go_region_held3 (fun w' => w'.cell? ⟨g, 0, none⟩ = some (.bool h) ∧ w'.cell? ⟨g, 1, none⟩ = some (.slice (some ⟨va, 0, none⟩) l.length cap) ∧ w'.cell? ⟨g, 2, none⟩ = some (.int .i64 (u : Nat)) ∧ w'.cell? ⟨va, q, none⟩ = some (.int .u8 (x : Nat))) (go_keep)
            (first | (go_at_call 47; refine (shift_any h 8 f s _ (by omega) (by omega)).mono ?_; rintro e w' ⟨rfl, rfl⟩))
          go_wp2_with fail
          go_meet
          exact ⟨int_eq (by rw [IntWalk.i64_in (x : Int) ⟨by omega, by omega⟩]; exact Hval.out), hM2⟩
        case rest =>
          obtain ⟨rfl, HM3⟩ := hcut
          clear HM k0 k1 k2 o1 n0 n1 n2 n3 a1 a2 a3 a4 a5
          have k0 := HM3.out.1.c0
          rw [HPART.out, Htd.out] at *
          obtain ⟨b, hb⟩ : ∃ b, Bt.num h ((t.drop d).take s) = b := ⟨_, rfl⟩
          have hb2 : b < 2 ^ s := by
            rw [← hb]
            have := Bt.num_lt h ((t.drop d).take s)
            rwa [show ((t.drop d).take s).length = s by have := HTL.out; simp; omega] at this
          have HACC := Lib.hid (Bt.acc_val (Bt.tk h t c d) b s (Bt.shf h c d s) c HTK.out hb2 (by have := rd_shf_le h c d s (by omega); omega) hc)
          rw [hb] at HSTEP ⊢
          rw [← HSTEP.out] at HACC
          clear hb hb2 HSTEP HPART Htd HTK
          go_wp2_with fail
          refine (shift_any h c d s _ (by omega) (by omega)).mono ?_
          rintro e w' ⟨rfl, rfl⟩
          have HM4 := Lib.hid (show RdMid w B g h (.slice (some ⟨va, 0, none⟩) l.length cap) l u (wc.alloc (.cells #[.bool h] 69)) from
            ⟨HM3.out.1.mono (below_alloc wc _), HM3.out.2.alloc _⟩)
          have k2 := HM4.out.1.c2
          have f2 := HM4.out.1.fr 2
          have HM5 := Lib.hid (show RdMid w B g h (.slice (some ⟨va, 0, none⟩) l.length cap) l (u + s) ((wc.alloc (.cells #[.bool h] 69)).setCell ⟨g, 2, none⟩ (.int .i64 ((u + s : Nat) : Int))) from
            ⟨HM4.out.1.setAt (u + s), HM4.out.2.set (.inl rfl) _⟩)
          rw [show Value.int .i64 ((u + s : Nat) : Int) = .int .i64 ((u : Int) + s) from int_eq (by omega)] at HM5
          clear HM3 HM4 k0
          go_wp2
          go_roundg (c - (d + s))
          case measure => omega
          case rel =>
            refine ⟨d + s, hs3, rfl, by go_num, ?_, ?_⟩
            · refine int_eq ?_
              have := HACC.out.1
              first | exact this | (rw [Bt.wrapEq] at this; exact this)
            · rw [show p + (d + s) = u + s by have := Hu.out; omega]; exact HM5
    · obtain rfl : d = c := by omega
      have e := Lib.hid (Bt.tk_full h t d)
      have hx := Lib.hid (show TakeRPost w B g h v l p d (.returned (.tuple #[.int .i64 (Bt.tk h t d d : Nat), .nilIface])) wr from ⟨by rw [e.out, ← HT.out], HM.out⟩)
      clear HM
      go_wp2
      go_ret2
      exact hx.out
end Go.Proofs.Ytkjdekaipphlpaa
