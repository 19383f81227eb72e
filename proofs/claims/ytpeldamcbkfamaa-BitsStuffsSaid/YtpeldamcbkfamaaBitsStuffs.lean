/- For all bytes (of at most 2^16, as the law itself asks): which bytes are stuffed, and which ones stuffed bytes come from, is as the document says, in new memory, and the bytes are left as they were. No conditions. -/
import Derived.Test.YtpeldamcbkfamaaRows
import Derived.Test.YtpeldamcbkfamaaOpen
import Derived.Test.YtpeldamcbkfamaaUnstuff
import Derived.Test.YtpeldamcbkfamaaNumSame
import Derived.Test.YtpeldamcbkfamaaApart3
import Derived.Test.YtpeldamcbkfamaaBitsWr
namespace Go.Proofs.Ytpeldamcbkfamaa.BitsStuffs
open Go.ChangeShapes Go.WideShapes Go.ChangeAt Go.RowKit
open Go.ChangeMaps (open_string shut_string)
set_option linter.unusedVariables false
theorem own : ownKnob Try.prog.godebug = none := by kernel_rfl
theorem laidOut : laidOutB Try.prog = true := by kernel_rfl
theorem st_two : Sf.st [1, 255] = [1, 255, 0] := by decide
/-- The copy, the stuffed bytes, the unstuffed ones: each in memory of its own. -/
structure Tri (w wx : World) (g len : Nat) (l : List UInt8) (s u : Value) : Prop where
  bel : Below w.heap.size w wx
  oc : wx.ownsRow w.heap.size 5 1 (.slice (some ⟨g, 0, none⟩) (len + 2) (len + 2)) (len + 2) (bvs (l ++ [165, 90]))
  os : wx.ownsRow w.heap.size 5 1 s (Sf.st l).length (bvs (Sf.st l))
  ou : wx.ownsRow w.heap.size 5 1 u (Sf.U l).length (bvs (Sf.U l))
  su : ∀ k, s.ownBlock = some k → u.ownBlock ≠ some k
  sc : ∀ k, s.ownBlock = some k → k ≠ g
  uc : ∀ k, u.ownBlock = some k → k ≠ g
theorem Tri.mono {w wx wy : World} {g len : Nat} {l : List UInt8} {s u : Value} (h : Tri w wx g len l s u) (hb : Below wx.heap.size wx wy) : Tri w wy g len l s u :=
  ⟨h.bel.trans (hb.mono h.bel.size), own_below h.oc hb, own_below h.os hb, own_below h.ou hb, h.su, h.sc, h.uc⟩
set_option maxHeartbeats 2000000 in
theorem walk (a : Option Addr) (len cap : Nat) (l : List UInt8) (w : World) (h : Bs w a len cap l) (hr : cap ≤ 140737488351232) :
    Calls Try.prog 6 #[.slice a len cap] w fun e w' => e = .returned (.bool true) ∧ Below w.heap.size w w' := by
  have hle := h.hle
  have HL := Lib.hid h.hlen
  have H := Lib.hid h
  clear h
  by_cases hbig : 65536 < len
  · have d1 : decide ((65536 : Int) < ↑len) = true := by simp; omega
    go_enter Try.func6, Try.ntmps6
    go_wp2
    go_ret
    exact ⟨rfl, Below.refl _ _⟩
  have d1 : decide ((65536 : Int) < ↑len) = false := by simp; omega
  go_enter Try.func6, Try.ntmps6
  go_wp2_with fail
  refine (copy_any _ _ _ l _ H.out (by omega)).mono ?_
  rintro e w1 ⟨g, rfl, own1, hb1⟩
  have O1 := Lib.hid own1
  have B1 := Lib.hid hb1
  have hm := bs_of_own own1 (by omega) len (by omega)
  rw [List.take_append_of_le_length (by rw [HL.out]; exact Nat.le_refl _), List.take_of_length_le (by rw [HL.out]; exact Nat.le_refl _)] at hm
  have HM := Lib.hid hm
  clear own1 hm hb1
  go_wp2_with fail
  refine (stuff_any _ _ _ l _ HM.out (by omega)).mono ?_
  rintro e w2 ⟨s, rfl, own2, hb2⟩
  have O2 := Lib.hid own2
  have B2 := Lib.hid hb2
  have HM2 := Lib.hid (HM.out.mono hb2)
  clear own2 HM hb2
  go_wp2_with fail
  refine (unstuff_any _ _ _ l _ HM2.out (by omega)).mono ?_
  rintro e w3 ⟨u, rfl, own3, hb3⟩
  have hsl := Sf.st_length l
  have hul := (Sf.st_un l.length l (Nat.le_refl _))
  have hUl : (Sf.U l).length ≤ 65536 := by have := HL.out; omega
  have hSl : (Sf.st l).length ≤ 131072 := by have := HL.out; omega
  have hTl : Sf.T l ≤ len := by have := HL.out; omega
  have HU := Lib.hid hul.1
  have hz1 : w.heap.size ≤ w1.heap.size := B1.out.size
  have hz2 : w1.heap.size ≤ w2.heap.size := B2.out.size
  have TR := Lib.hid (show Tri w w3 g len l s u from
    ⟨(B1.out.trans (B2.out.mono hz1)).trans (hb3.mono (by omega)), own_below (own_below O1.out B2.out) hb3, own_base (own_below O2.out hb3) (fun k hk => by have := (O2.out.lt k hk).1; omega),
      own_base own3 (fun k hk => by have := (own3.lt k hk).1; omega),
      fun k hk he => by have h1 := (own3.lt k he).1; have h2 := (O2.out.lt k hk).2; omega,
      fun k hk e => by subst e; have h1 := (O2.out.lt _ hk).1; have h2 := (O1.out.lt k rfl).2; omega,
      fun k hk e => by subst e; have h1 := (own3.lt _ hk).1; have h2 := (O1.out.lt k rfl).2; omega⟩)
  clear hsl hul hz1 hz2 O1 O2 B1 B2 own3 hb3 HM2
  go_wp2_with fail
  refine (stuff_any _ _ _ [1, 255] _ (bs_new w3 _ rfl [1, 255] 5 _ 2 rfl (by omega) _ rfl) (by omega)).mono ?_
  rintro e w4 ⟨x, rfl, own4, hb4⟩
  rw [st_two] at own4
  rw [show ([1, 255, 0] : List UInt8).length = 3 from rfl] at own4
  obtain ⟨xa, xc, rfl, hxs⟩ := own_bs own4 (by simp)
  have k1 := conv_bs (P := Try.prog) hxs 36 9 5 Try.underlying36 Try.underlying5 Try.underlying9
  have kj : ((str [1, 255, 0]).toList == [1, 255, 0]) = true := by rw [str_list]; rfl
  have TR4 := Lib.hid (TR.out.mono (below_then (below_alloc _ _) hb4))
  clear own4 hxs hb4 TR
  go_wp2_with fail
  refine (kept_any g len _ _ l _ _ (by omega) TR4.out.oc (H.out.mono TR4.out.bel)).mono ?_
  rintro e w' ⟨rfl, rfl⟩
  clear k1 kj
  go_wp2_with fail
  refine (refStuff_any _ _ _ l _ (H.out.mono TR4.out.bel) (by omega)).mono ?_
  rintro e w5 ⟨y, rfl, own5, hb5⟩
  have TR5 := Lib.hid (TR4.out.mono hb5)
  obtain ⟨ya, yc, rfl, hys⟩ := own_bs own5 (by omega)
  obtain ⟨sa, sc, rfl, hss⟩ := own_bs TR5.out.os (by omega)
  have HS := Lib.hid hss
  have HY := Lib.hid hys
  have hsame : (Sf.st l == Sf.st l) = true := by simp
  clear own5 hb5 hys TR4 hss
  go_wp2_with fail
  refine (same_any _ _ _ _ _ _ _ _ _ HS.out HY.out).mono ?_
  rintro e w' ⟨rfl, rfl⟩
  rw [hsame]
  clear hsame HS HY
  go_wp2_with fail
  refine (taken_any _ _ _ l _ (H.out.mono TR5.out.bel) (by omega)).mono ?_
  rintro e w' ⟨rfl, rfl⟩
  obtain ⟨ua, uc, rfl, hus⟩ := own_bs TR5.out.ou (by omega)
  have HUS := Lib.hid hus
  clear hus
  have TRd := Lib.hid (TR5.out.mono ((Below.refl _ _).drew))
  have HUd := Lib.hid (HUS.out.mono ((Below.refl _ _).drew))
  have HBd := Lib.hid ((H.out.mono TRd.out.bel).take (Sf.T l) hTl)
  clear TR5 HUS
  have b1 : (0 : Int) ≤ (Sf.T l : Nat) := by omega
  have b2 : ((Sf.T l : Nat) : Int) ≤ (cap : Nat) := by omega
  have hlen : (l.take (Sf.T l)).length = Sf.T l := by rw [List.length_take, HL.out]; omega
  have HLT := Lib.hid hlen
  have ep : (bvs (l ++ [165, 90])).take len = bvs l := by
    rw [bvs_append, List.take_append_of_le_length (by rw [bvs_length, HL.out]; exact Nat.le_refl _), List.take_of_length_le (by rw [bvs_length, HL.out]; exact Nat.le_refl _)]
  have EP := Lib.hid ep
  clear hlen ep
  go_wp2_with fail
  go_region_with (first
    | (go_at_call 33; refine (refStuff_any _ _ _ (Sf.U l) _ HUd.out (by omega)).mono ?_; rintro e w6 ⟨z, rfl, own6, hb6⟩
       rw [HU.out, HLT.out] at own6
       obtain ⟨za, zc, rfl, hzs⟩ := own_bs own6 (by omega)
       have HZ := Lib.hid hzs
       have TRe := Lib.hid (TRd.out.mono hb6)
       have HBe := Lib.hid (HBd.out.mono hb6)
       have hsame : (l.take (Sf.T l) == l.take (Sf.T l)) = true := by simp
       clear own6 hzs TRd HBd hb6 HUd)
    | (go_at_call 18; refine (same_any _ _ _ _ _ _ _ _ _ HZ.out HBe.out).mono ?_; rintro e w' ⟨rfl, rfl⟩; rw [hsame]; clear hsame HZ HBe)
    | (go_at_call 35
       have C4 := own_prefix TRe.out.oc len (by omega)
       rw [EP.out] at C4
       refine (apart3 w.heap.size _ _ _ _ _ _ _ _ _ l _ rfl TRe.out.bel.size TRe.out.os TRe.out.ou C4 TRe.out.su (fun k hk e => TRe.out.sc k hk (by simpa [Value.ownBlock] using e.symm)) (fun k hk e => TRe.out.uc k hk (by simpa [Value.ownBlock] using e.symm)) (by omega) (by omega) (by omega)).mono ?_
       rintro e w7 ⟨rfl, hb7⟩
       have HF := Lib.hid (TRe.out.bel.trans hb7)
       clear C4 hb7 TRe))
  all_goals
    go_wp2
    go_ret
    exact ⟨rfl, HF.out⟩
set_option maxRecDepth 100000 in
theorem lifted (os : Os) (started : os.Started) (H : Type) (enc : TypeId × Value → H) :
    ReturnsInHanded {} Try.checked os 6 .any (Rows.bitsStuffsSpec.pre6 enc Try.prog Try.f6 Rows.bitsStuffsRow.domain false) (Rows.bitsStuffsSpec.post enc Try.prog Try.f6 false true false false) := by
  refine returnsInHanded_of_change_sized (C := Try.checked) own started (by kernel_rfl) Try.func6
    (ChangeSpec.witness6 (enc := enc) (C := Try.checked) false ⟨#[], #[.slice none 0 0], []⟩ 8 (by kernel_rfl) (by kernel_rfl) (by kernel_rfl) (by kernel_rfl)) ?_
  intro W base args ds gs before hval0 hW _ hsz0 _
  have hval : ∀ (j : Nat) t v, Try.f6.params[j]? = some t → args[j]? = some v → Value.okWide Try.prog W .any base t v := hval0
  have hsz : (DataW.weightsEach Try.prog (Try.f6.params.toList ++ Rows.bitsStuffsSpec.plain.varTypes Try.prog) (ds ++ gs)).all (· ≤ reachBytes) = true := hsz0
  have hW' := hW
  obtain ⟨p, q, hA0, hV, rfl, hfz, hnd⟩ := hW
  have hA : DataW.TrodAll enc Try.prog W 0 (fun _ => true) true Try.f6.params.toList args.toList ds p := hA0
  rw [Try.params6] at hA hval hsz
  obtain ⟨v0, vs0, d0, ds0, p0, q0, hargs, rfl, rfl, h0, r0⟩ := trodAll_cons hA
  obtain ⟨rfl, rfl, rfl⟩ := trodAll_nil r0
  obtain rfl : args = #[v0] := by cases args; simp_all
  obtain ⟨rfl, rfl⟩ := trodVars_none hV
  clear hsz0
  obtain ⟨a0, len0, cap0, rfl⟩ := okWide_slice Try.underlying36 (hval 0 36 v0 rfl rfl)
  have k0 := h0
  have lt0 : ∀ x ∈ p0, x.block < W.heap.size := by obtain ⟨m, hm⟩ := k0; exact DataW.trod_lt m _ _ _ hm
  obtain ⟨l0, w0, c0⟩ := open_bs Try.underlying36 Try.underlying5 (by kernel_rfl) (by kernel_rfl) h0 hsz 0 rfl rfl
  clear hA0 hval0 hsz
  refine (walk a0 len0 cap0 l0 W w0 c0).mono fun e W' ⟨he, bel⟩ => ?_
  subst he
  exact ⟨_, rfl, _, _, _, [], _, [], hW', trodAll_mk1 (shut_bool Try.underlying4 _), (trodAll_cons_mk (Below.trod laidOut (by kernel_rfl) (of_decide_eq_true (by kernel_rfl)) k0 bel lt0) trodAll_mk0), rfl, bel.frame _, fun h => by cases h⟩

theorem proved : Rows.BitsStuffsSaid :=
  OpenClaim.holds_of_wide 6 Try.f6 rfl rfl rfl rfl rfl rfl rfl ⟨rfl, rfl, rfl, rfl, rfl⟩ rfl rfl rfl rfl rfl (by kernel_rfl) Try.func6 (by kernel_rfl)
    (of_decide_eq_true (by kernel_rfl)) (by unfold Func.isWrapper; first | (rw [if_pos (by decide +kernel)]; kernel_rfl) | (rw [if_neg (by decide +kernel)]; exact ⟨rfl, rfl⟩))
    (fun os started H enc _ => lifted os started H enc)
#print axioms proved
end Go.Proofs.Ytpeldamcbkfamaa.BitsStuffs
