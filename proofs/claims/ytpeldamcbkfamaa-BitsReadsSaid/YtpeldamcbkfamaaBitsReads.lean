/- For all bytes (of at most 2000) and counts (at most 300, as the law itself asks), in both orders: a reader answers the numbers and the errors that the document does, and the bytes are left as they were. No conditions. -/
import Derived.Test.YtpeldamcbkfamaaRows
import Derived.Test.YtpeldamcbkfamaaOpen
import Derived.Test.YtpeldamcbkfamaaBitsAlive
import Derived.Test.YtpeldamcbkfamaaBitsTake
import Derived.Test.YtpeldamcbkfamaaBitsNil
import Derived.Test.YtpeldamcbkfamaaNumIs
import Derived.Test.YtpeldamcbkfamaaOver
import Derived.Test.YtpeldamcbkfamaaRef03b
import Derived.Test.YtpeldamcbkfamaaRef03d
namespace Go.Proofs.Ytpeldamcbkfamaa.BitsReads
open Go.ChangeShapes Go.WideShapes Go.ChangeAt Go.RowKit
open Go.ChangeMaps (open_string shut_string)
set_option linter.unusedVariables false
theorem own : ownKnob Try.prog.godebug = none := by kernel_rfl
theorem laidOut : laidOutB Try.prog = true := by kernel_rfl
/-- Where the reading stands. -/
structure RS (w wx : World) (g : Nat) (h : Bool) (v vl : Value) (l : List UInt8) (p : Nat) : Prop where
  bel : Below w.heap.size w wx
  rd : Rd wx w.heap.size g h v l p
  lo : wx.ownsRow w.heap.size 3 1 vl (8 * l.length) (ivs (bi (Bt.rbits h l)))
  ne : vl.ownBlock ≠ some g
theorem RS.mono {w wx wy : World} {g : Nat} {h : Bool} {v vl : Value} {l : List UInt8} {p : Nat} (H : RS w wx g h v vl l p) (hb : Below wx.heap.size wx wy) : RS w wy g h v vl l p :=
  ⟨H.bel.trans (hb.mono H.bel.size), H.rd.mono hb, own_below H.lo hb, H.ne⟩
theorem RS.step {w wx wy : World} {g : Nat} {h : Bool} {v vl : Value} {l : List UInt8} {p q : Nat} (H : RS w wx g h v vl l p) (c : Ch wx wy (fun k => k = g)) (r : Rd wy w.heap.size g h v l q) : RS w wy g h v vl l q :=
  ⟨H.bel.trans (c.below H.bel.size (fun k hk => hk ▸ H.rd.hg)), r, c.own H.lo (fun k hk e => by subst e; exact H.ne hk), H.ne⟩
theorem rd_base {w : World} {B B' g : Nat} {h : Bool} {v : Value} {l : List UInt8} {p : Nat} (H : Rd w B g h v l p) (hB : B' ≤ B) : Rd w B' g h v l p :=
  ⟨H.blk, own_base H.own (fun k hk => Nat.le_trans hB (H.own.lt k hk).1), Nat.le_trans hB H.hg, H.ne⟩
theorem is_empty (w : World) (a : Option Addr) (c : Nat) (h : a = none → c = 0) : Is .i64 w a 0 c [] := ⟨rfl, Nat.zero_le _, h, fun i hi => absurd hi (by omega), fun n hn => by simp at hn⟩
set_option maxHeartbeats 4000000 in
set_option maxRecDepth 100000 in
theorem walk (a : Option Addr) (len cap : Nat) (l : List UInt8) (h : Bool) (a2 : Option Addr) (len2 cap2 : Nat) (zs : List Int) (w : World) (hb : Bs w a len cap l) (hr : cap ≤ 140737488351232) (hi : Is .i64 w a2 len2 cap2 zs) (hr2 : cap2 * 8 ≤ 140737488351232) :
    Calls Try.prog 4 #[.slice a len cap, .bool h, .slice a2 len2 cap2] w fun e w' => e = .returned (.bool true) ∧ Below w.heap.size w w' := by
  have hle := hb.hle
  have hle2 := hi.hle
  have HL := Lib.hid hb.hlen
  have H := Lib.hid hb
  have HI := Lib.hid hi
  clear hb hi
  go_enter Try.func4, Try.ntmps4
  go_wp2_with fail
  refine (alive_any _).mono ?_
  rintro e w1 ⟨rfl, hb1⟩
  by_cases hbig : 2000 < len
  · have d1 : decide ((2000 : Int) < ↑len) = true := by simp; omega
    go_wp2
    go_ret
    exact ⟨rfl, hb1⟩
  have d1 : decide ((2000 : Int) < ↑len) = false := by simp; omega
  by_cases hbig2 : 300 < len2
  · have d2 : decide ((300 : Int) < ↑len2) = true := by simp; omega
    go_wp2
    go_ret
    exact ⟨rfl, hb1⟩
  have d2 : decide ((300 : Int) < ↑len2) = false := by simp; omega
  go_wp2_with fail
  refine (copy_any _ _ _ l _ (H.out.mono hb1) (by omega)).mono ?_
  rintro e w2 ⟨gc, rfl, own2, hb2⟩
  have hm := bs_of_own own2 (by omega) len (by omega)
  rw [List.take_append_of_le_length (by rw [HL.out]; exact Nat.le_refl _), List.take_of_length_le (by rw [HL.out]; exact Nat.le_refl _)] at hm
  have HM := Lib.hid hm
  have O2 := Lib.hid own2
  have hz1 := hb1.size
  have hb2' := below_then hb1 hb2
  clear own2 hm
  go_wp2_with fail
  refine (newReader_any h _ _ _ l _ HM.out (by omega)).mono ?_
  rintro e w3 ⟨g, v, rfl, rd3, hb3⟩
  have O3 := Lib.hid (own_below O2.out hb3)
  have hgc := (O2.out.lt gc rfl)
  have hgne : gc ≠ g := fun e => by have := rd3.hg; omega
  have hvne : ∀ k, v.ownBlock = some k → k ≠ gc := fun k hk e => by have := (rd3.own.lt k hk).1; omega
  have R3 := Lib.hid (rd_base rd3 (B' := w.heap.size) hb2'.size)
  have hb3' := below_then hb2' hb3
  clear rd3 hb2' HM O2 hb2
  go_wp2_with fail
  refine (kept_any gc len _ _ l _ _ (by omega) O3.out (H.out.mono hb3')).mono ?_
  rintro e w' ⟨rfl, rfl⟩
  go_wp2_with fail
  have ep : (bvs (l ++ [165, 90])).take len = bvs l := by
    rw [bvs_append, List.take_append_of_le_length (by rw [bvs_length, HL.out]; exact Nat.le_refl _), List.take_of_length_le (by rw [bvs_length, HL.out]; exact Nat.le_refl _)]
  have C3 := own_prefix O3.out len (by omega)
  rw [ep] at C3
  refine (over_any _ _ _ l _ C3).mono ?_
  rintro e w4 ⟨rfl, hc4⟩
  have hc4' : Ch w3 w4 (fun k => k = gc) := hc4.wide (fun k hk => .inl (by simpa [Value.ownBlock] using hk.symm))
  have R4 := Lib.hid (R3.out.kept hc4' (fun e => hgne e.symm) (fun k hk e => hvne k hk e))
  have hb4 : Below w.heap.size w w4 := hb3'.trans (hc4'.below hb3'.size (fun k hk => by subst hk; omega))
  clear hc4 hc4' C3 ep O3 R3 hb3' hb3 hgne hvne hgc
  go_wp2_with fail
  refine (refBits_any h _ _ _ l _ (H.out.mono hb4) (by omega)).mono ?_
  rintro e w5 ⟨vl, rfl, own5, hb5⟩
  have S5 : Hid (RS w w5 g h v vl l 0) := Lib.hid ⟨below_then hb4 hb5, R4.out.mono hb5, own_base own5 (fun k hk => by have := (own5.lt k hk).1; have := hb4.size; omega), fun e => by have := (own5.lt g e).1; have := R4.out.lt; omega⟩
  rw [HL.out] at own5
  obtain ⟨la, lc, rfl, hls⟩ := own_is own5 (bi_wf _)
  have hlc := hls.hle
  clear own5 hb5 R4 hb4 hls
  go_wp2
  go_loopg [10, 45] len2 (fun gk at' ix wr => ∃ i p : Nat, i ≤ len2 ∧ p ≤ 8 * len ∧ gk = len2 - i ∧ ix = .int .i64 i ∧ at' = .int .i64 p ∧ Hid (RS w wr g h v (.slice la (8 * len) lc) l p))
  case atStart => exact ⟨0, 0, by omega, by omega, by omega, rfl, rfl, S5⟩
  case round =>
    obtain ⟨i, p, hi, hp, rfl, rfl, rfl, ST⟩ := hrel
    by_cases hlt : i < len2
    · obtain ⟨cb, co, rfl, hcl, hcell⟩ := (HI.out.mono ST.out.bel).at' i hlt
      have hwf : -9223372036854775808 ≤ zs.getD i 0 ∧ zs.getD i 0 ≤ 9223372036854775807 := by
        have hil : i < zs.length := by rw [HI.out.hlen]; exact hlt
        have := HI.out.wf (zs.getD i 0) (by simp [List.getD, List.getElem?_eq_getElem hil])
        simpa [Lit.wf, IntKind.min, IntKind.max, IntKind.signed, IntKind.bits] using this
      generalize zs.getD i 0 = z at *
      by_cases h7 : z = -7
      · subst h7
        clear hwf
        go_wp2_with fail
        refine (alignR_any _ _ _ _ _ _ p ST.out.rd (by omega)).mono ?_
        rintro e w6 ⟨rfl, rd6, hc6⟩
        have S6 := Lib.hid (ST.out.step hc6 rd6)
        clear rd6 hc6 ST
        obtain ⟨m, hm⟩ : ∃ m, (8 - p % 8) % 8 = m := ⟨_, rfl⟩
        rw [hm] at S6
        have HMM := Lib.hid hm
        have hpm : p + m ≤ 8 * len := by omega
        clear hm
        go_wp2
        go_loopg [10] m (fun gk at' wx => w6 = wx ∧ ∃ j : Nat, j ≤ m ∧ gk = m - j ∧ at' = .int .i64 ((p + j : Nat) : Int))
        case atStart => exact ⟨rfl, 0, by omega, by omega, rfl⟩
        case round =>
          obtain ⟨rfl, j, hj, rfl, rfl⟩ := hrel
          obtain ⟨u, hu⟩ : ∃ u, u = p + j := ⟨_, rfl⟩
          rw [← hu]
          have Hu := Lib.hid hu
          have hu2 : u ≤ 16000 := by omega
          clear hu
          by_cases hjm : j < m
          · have e1 : ((u : Int) % 8 != 0) = true := by have := Hu.out; have := HMM.out; simp; omega
            go_wp2
            go_roundg (m - (j + 1))
            case measure => omega
            case rel => exact ⟨rfl, j + 1, by omega, rfl, by have := Hu.out; go_num⟩
          · have e1 : ((u : Int) % 8 != 0) = false := by have := Hu.out; have := HMM.out; simp; omega
            go_wp2
            go_roundg (len2 - (i + 1))
            case measure => omega
            case rel => exact ⟨i + 1, p + m, by omega, by omega, rfl, by go_num, by have := Hu.out; go_num, S6⟩
      · have e7 : (z == -7) = false := by simpa using h7
        by_cases hz : z < 0 ∨ 32 < z
        · go_wp2_with fail
          refine (take_range _ g z hz).mono ?_
          rintro e w' ⟨rfl, rfl⟩
          by_cases hz1 : z < 0
          · have dz1 : decide (z < 0) = true := by simpa using hz1
            clear hz hz1
            go_wp2_with fail
            refine (is_yes 7 rfl _).mono ?_
            rintro e w' ⟨rfl, rfl⟩
            go_wp2_with fail
            refine (at_any _ _ _ _ _ _ _ ST.out.rd).mono ?_
            rintro e w' ⟨rfl, rfl⟩
            go_wp2_with fail
            refine (left_any _ _ _ _ _ _ _ ST.out.rd (by rw [HL.out]; omega) (by rw [HL.out]; omega)).mono ?_
            rintro e w' ⟨rfl, dn, rfl⟩
            rw [HL.out]
            have hsub : ((8 * len - (p) : Nat) : Int) = 8 * (len : Int) - ((p : Int)) := by omega
            rw [hsub]
            clear hsub
            have SE := Lib.hid (ST.out.mono (drewN_below _ dn))
            clear ST
            go_wp2
            go_roundg (len2 - (i + 1))
            case measure => omega
            case rel => exact ⟨i + 1, p, by omega, by omega, rfl, by go_num, by first | rfl | go_num, SE⟩
          · have dz1 : decide (z < 0) = false := by simpa using hz1
            have dz2 : decide (32 < z) = true := by simp; omega
            clear hz hz1
            go_wp2_with fail
            refine (is_yes 7 rfl _).mono ?_
            rintro e w' ⟨rfl, rfl⟩
            go_wp2_with fail
            refine (at_any _ _ _ _ _ _ _ ST.out.rd).mono ?_
            rintro e w' ⟨rfl, rfl⟩
            go_wp2_with fail
            refine (left_any _ _ _ _ _ _ _ ST.out.rd (by rw [HL.out]; omega) (by rw [HL.out]; omega)).mono ?_
            rintro e w' ⟨rfl, dn, rfl⟩
            rw [HL.out]
            have hsub : ((8 * len - (p) : Nat) : Int) = 8 * (len : Int) - ((p : Int)) := by omega
            rw [hsub]
            clear hsub
            have SE := Lib.hid (ST.out.mono (drewN_below _ dn))
            clear ST
            go_wp2
            go_roundg (len2 - (i + 1))
            case measure => omega
            case rel => exact ⟨i + 1, p, by omega, by omega, rfl, by go_num, by first | rfl | go_num, SE⟩
        · obtain ⟨k, rfl⟩ := Int.eq_ofNat_of_zero_le (show 0 ≤ z by omega)
          have hk : k ≤ 32 := by omega
          have dz1 : decide ((k : Int) < 0) = false := by simp
          have dz2 : decide (32 < (k : Int)) = false := by simp; omega
          clear hz hwf h7
          by_cases hs : 8 * len - p < k
          · go_wp2_with fail
            refine (take_short _ _ _ _ _ _ p k ST.out.rd (by rw [HL.out]; omega) (by rw [HL.out]; omega) hk (by rw [HL.out]; exact hs)).mono ?_
            rintro e w6 ⟨rfl, hb6⟩
            have S6 := Lib.hid (ST.out.mono hb6)
            have dz3 : decide (8 * (len : Int) - p < (k : Int)) = true := by simp; omega
            clear ST hb6 hs
            go_wp2_with fail
            refine (is_yes 8 rfl _).mono ?_
            rintro e w' ⟨rfl, rfl⟩
            go_wp2_with fail
            refine (at_any _ _ _ _ _ _ _ S6.out.rd).mono ?_
            rintro e w' ⟨rfl, rfl⟩
            go_wp2_with fail
            refine (left_any _ _ _ _ _ _ _ S6.out.rd (by rw [HL.out]; omega) (by rw [HL.out]; omega)).mono ?_
            rintro e w' ⟨rfl, dn, rfl⟩
            rw [HL.out]
            have hsub : ((8 * len - (p) : Nat) : Int) = 8 * (len : Int) - ((p : Int)) := by omega
            rw [hsub]
            clear hsub
            have SE := Lib.hid (S6.out.mono (drewN_below _ dn))
            clear S6
            go_wp2
            go_roundg (len2 - (i + 1))
            case measure => omega
            case rel => exact ⟨i + 1, p, by omega, by omega, rfl, by go_num, by first | rfl | go_num, SE⟩
          · go_wp2_with fail
            refine (takeR_ok _ w.heap.size _ _ _ _ p k ST.out.rd ST.out.bel.size (by rw [HL.out]; omega) hk (by rw [HL.out]; omega)).mono ?_
            rintro e w6 ⟨rfl, rd6, hc6⟩
            have S6 := Lib.hid (ST.out.step hc6 rd6)
            have dz3 : decide (8 * (len : Int) - p < (k : Int)) = false := by simp; omega
            clear ST rd6 hc6
            have b1 : (0 : Int) ≤ (p : Nat) := by omega
            have b2 : ((p : Nat) : Int) ≤ (p : Int) + k := by omega
            have b3 : (p : Int) + k ≤ (lc : Nat) := by omega
            have HX := Lib.hid (show bi (((Bt.rbits h l).drop p).take k) = ((bi (Bt.rbits h l)).drop p).take k by simp [bi, List.map_take, List.map_drop])
            obtain ⟨t, ht⟩ : ∃ t, ((Bt.rbits h l).drop p).take k = t := ⟨_, rfl⟩
            have hk0 : k = 0 → t = [] := fun e => by rw [← ht, e, List.take_zero]
            have HK0 := Lib.hid hk0
            rw [ht] at HX ⊢
            clear hk0 ht
            have hlo := S6.out.lo
            rw [HL.out] at hlo
            rcases own_nil_or hlo with ⟨e, hn⟩ | ⟨gl, cap', e, _⟩
            · simp only [Value.slice.injEq] at e
              obtain ⟨rfl, _, rfl⟩ := e
              obtain rfl : len = 0 := by omega
              obtain rfl : p = 0 := by omega
              obtain rfl : k = 0 := by omega
              have hte := HK0.out rfl
              subst hte
              clear hlo
              go_wp2_with fail
              refine (number_any h _ _ _ [] _ (is_nil _) (by omega)).mono ?_
              rintro e w' ⟨rfl, rfl⟩
              go_wp2_with fail
              refine (at_any _ _ _ _ _ _ _ S6.out.rd).mono ?_
              rintro e w' ⟨rfl, rfl⟩
              go_wp2_with fail
              refine (left_any _ _ _ _ _ _ _ S6.out.rd (by rw [HL.out]; omega) (by rw [HL.out]; omega)).mono ?_
              rintro e w' ⟨rfl, dn, rfl⟩
              rw [HL.out]
              have hsub : ((8 * 0 - (0 + 0) : Nat) : Int) = 0 := by omega
              rw [hsub]
              clear hsub
              have SE := Lib.hid (S6.out.mono (drewN_below _ dn))
              clear S6
              go_wp2
              go_roundg (len2 - (i + 1))
              case measure => omega
              case rel => exact ⟨i + 1, 0 + 0, by omega, by omega, rfl, by go_num, by first | rfl | go_num, SE⟩
            · simp only [Value.slice.injEq] at e
              obtain ⟨rfl, _, rfl⟩ := e
              by_cases hlp : lc = p
              · obtain rfl : k = 0 := by omega
                subst hlp
                have hte := HK0.out rfl
                subst hte
                clear hlo
                go_wp2_with fail
                refine (number_any h _ _ _ [] _ (is_empty _ _ _ (fun e => by simp at e)) (by omega)).mono ?_
                rintro e w' ⟨rfl, rfl⟩
                go_wp2_with fail
                refine (at_any _ _ _ _ _ _ _ S6.out.rd).mono ?_
                rintro e w' ⟨rfl, rfl⟩
                go_wp2_with fail
                refine (left_any _ _ _ _ _ _ _ S6.out.rd (by rw [HL.out]; omega) (by rw [HL.out]; omega)).mono ?_
                rintro e w' ⟨rfl, dn, rfl⟩
                rw [HL.out]
                have hsub : ((8 * len - (lc + 0) : Nat) : Int) = 8 * (len : Int) - ((lc : Int) + ((0 : Nat) : Int)) := by omega
                rw [hsub]
                clear hsub
                have SE := Lib.hid (S6.out.mono (drewN_below _ dn))
                clear S6
                go_wp2
                go_roundg (len2 - (i + 1))
                case measure => omega
                case rel => exact ⟨i + 1, lc + 0, by omega, by omega, rfl, by go_num, by first | rfl | go_num, SE⟩
              · have HIS := Lib.hid (is_of_own hlo (bi_wf _) p k (lc - p) (by omega) (by omega))
                rw [← HX.out] at HIS
                clear hlo HX
                go_wp2_with fail
                refine (number_any h _ _ _ t _ HIS.out (by omega)).mono ?_
                rintro e w' ⟨rfl, rfl⟩
                go_wp2_with fail
                refine (at_any _ _ _ _ _ _ _ S6.out.rd).mono ?_
                rintro e w' ⟨rfl, rfl⟩
                go_wp2_with fail
                refine (left_any _ _ _ _ _ _ _ S6.out.rd (by rw [HL.out]; omega) (by rw [HL.out]; omega)).mono ?_
                rintro e w' ⟨rfl, dn, rfl⟩
                rw [HL.out]
                have hsub : ((8 * len - (p + k) : Nat) : Int) = 8 * (len : Int) - ((p : Int) + k) := by omega
                rw [hsub]
                clear hsub
                have SE := Lib.hid (S6.out.mono (drewN_below _ dn))
                clear S6
                go_wp2
                go_roundg (len2 - (i + 1))
                case measure => omega
                case rel => exact ⟨i + 1, p + k, by omega, by omega, rfl, by go_num, by first | rfl | go_num, SE⟩
    · obtain rfl : len2 = i := by omega
      have hbel := ST.out.bel
      clear ST
      go_wp2
      go_ret
      exact ⟨rfl, hbel⟩
set_option maxRecDepth 100000 in
theorem lifted (os : Os) (started : os.Started) (H : Type) (enc : TypeId × Value → H) :
    ReturnsInHanded {} Try.checked os 4 .any (Rows.bitsReadsSpec.pre6 enc Try.prog Try.f4 Rows.bitsReadsRow.domain false) (Rows.bitsReadsSpec.post enc Try.prog Try.f4 false true false false) := by
  refine returnsInHanded_of_change_sized (C := Try.checked) own started (by kernel_rfl) Try.func4
    (ChangeSpec.witness6 (enc := enc) (C := Try.checked) false ⟨#[], #[.slice none 0 0, .bool false, .slice none 0 0], []⟩ 8 (by kernel_rfl) (by kernel_rfl) (by kernel_rfl) (by kernel_rfl)) ?_
  intro W base args ds gs before hval0 hW _ hsz0 _
  have hval : ∀ (j : Nat) t v, Try.f4.params[j]? = some t → args[j]? = some v → Value.okWide Try.prog W .any base t v := hval0
  have hsz : (DataW.weightsEach Try.prog (Try.f4.params.toList ++ Rows.bitsReadsSpec.plain.varTypes Try.prog) (ds ++ gs)).all (· ≤ reachBytes) = true := hsz0
  have hW' := hW
  obtain ⟨p, q, hA0, hV, rfl, hfz, hnd⟩ := hW
  have hA : DataW.TrodAll enc Try.prog W 0 (fun _ => true) true Try.f4.params.toList args.toList ds p := hA0
  rw [Try.params4] at hA hval hsz
  obtain ⟨v0, vs0, d0, ds0, p0, q0, hargs, rfl, rfl, h0, r0⟩ := trodAll_cons hA
  obtain ⟨v1, vs1, d1, ds1, p1, q1, rfl, rfl, rfl, h1, r1⟩ := trodAll_cons r0
  obtain ⟨v2, vs2, d2, ds2, p2, q2, rfl, rfl, rfl, h2, r2⟩ := trodAll_cons r1
  obtain ⟨rfl, rfl, rfl⟩ := trodAll_nil r2
  obtain rfl : args = #[v0, v1, v2] := by cases args; simp_all
  obtain ⟨rfl, rfl⟩ := trodVars_none hV
  clear hsz0
  obtain ⟨a0, len0, cap0, rfl⟩ := okWide_slice Try.underlying36 (hval 0 36 v0 rfl rfl)
  have k0 := h0
  have lt0 : ∀ x ∈ p0, x.block < W.heap.size := by obtain ⟨m, hm⟩ := k0; exact DataW.trod_lt m _ _ _ hm
  obtain ⟨l0, w0, c0⟩ := open_bs Try.underlying36 Try.underlying5 (by kernel_rfl) (by kernel_rfl) h0 hsz 0 rfl rfl
  obtain ⟨a1, rfl, rfl, rfl⟩ := open_bool Try.underlying4 (hval 1 4 v1 rfl rfl) h1
  obtain ⟨a2, len2, cap2, rfl⟩ := okWide_slice Try.underlying26 (hval 2 26 v2 rfl rfl)
  have k2 := h2
  have lt2 : ∀ x ∈ p2, x.block < W.heap.size := by obtain ⟨m, hm⟩ := k2; exact DataW.trod_lt m _ _ _ hm
  obtain ⟨l2, w2, c2⟩ := open_is (by' := 8) Try.underlying26 Try.underlying3 (by kernel_rfl) (by kernel_rfl) h2 hsz 2 rfl rfl
  clear hA0 hval0 hsz
  refine (walk a0 len0 cap0 l0 a1 a2 len2 cap2 l2 W w0 c0 w2 c2).mono fun e W' ⟨he, bel⟩ => ?_
  subst he
  exact ⟨_, rfl, _, _, _, [], _, [], hW', trodAll_mk1 (shut_bool Try.underlying4 _), (trodAll_cons_mk (Below.trod laidOut (by kernel_rfl) (of_decide_eq_true (by kernel_rfl)) k0 bel lt0) (trodAll_cons_mk (shut_bool Try.underlying4 _) (trodAll_cons_mk (Below.trod laidOut (by kernel_rfl) (of_decide_eq_true (by kernel_rfl)) k2 bel lt2) trodAll_mk0))), rfl, bel.frame _, fun h => by cases h⟩

theorem proved : Rows.BitsReadsSaid :=
  OpenClaim.holds_of_wide 4 Try.f4 rfl rfl rfl rfl rfl rfl rfl ⟨rfl, rfl, rfl, rfl, rfl⟩ rfl rfl rfl rfl rfl (by kernel_rfl) Try.func4 (by kernel_rfl)
    (of_decide_eq_true (by kernel_rfl)) (by unfold Func.isWrapper; first | (rw [if_pos (by decide +kernel)]; kernel_rfl) | (rw [if_neg (by decide +kernel)]; exact ⟨rfl, rfl⟩))
    (fun os started H enc _ => lifted os started H enc)
#print axioms proved
end Go.Proofs.Ytpeldamcbkfamaa.BitsReads
