/- For all chunks, a name, a number and bytes: Find hands out the chunks of the name, in their order, with their indices and with data of their own, as many as are asked for (1 to 9); Signed tells whether the bytes begin with the signature; of chunks with more than 10000 bytes nothing is asked. No conditions. -/
import Derived.Test.YtfhmmlpcdgcmoaaRows
import Derived.Test.YtfhmmlpcdgcmoaaOpen
import Derived.Test.YtfhmmlpcdgcmoaaCkFound
import Derived.Test.YtfhmmlpcdgcmoaaOpenCk
namespace Go.Proofs.Ytfhmmlpcdgcmoaa.ChunkOf
open Go.ChangeShapes Go.WideShapes Go.ChangeAt Go.RowKit
open Go.ChangeMaps (open_string shut_string)
set_option linter.unusedVariables false
theorem own : ownKnob Try.prog.godebug = none := by kernel_rfl
theorem laidOut : laidOutB Try.prog = true := by kernel_rfl
set_option maxHeartbeats 2000000 in
theorem walk (a : Option Addr) (len cap : Nat) (l : List Ckm) (s : List UInt8) (n : Int) (b : Option Addr) (bl bc : Nat) (m : List UInt8) (w : World) (h : Cs w a len cap l) (hc : cap * 40 ≤ 140737488351232) (hx : ∀ c ∈ l, c.n.length ≤ 140737488351232 ∧ c.s.cap ≤ 140737488351232) (hs : s.length ≤ 140737488351232) (hn : (Lit.int .i64 n).wf = true) (hb : Bs w b bl bc m) (hbc : bc ≤ 140737488351232) :
    Calls Try.prog 3 #[.agg #[.slice a len cap, .string (str s), .int .i64 n, .slice b bl bc]] w fun e w' => e = .returned (.bool true) ∧ Below w.heap.size w w' := by
  have hle := h.hle
  have hb1 := below_alloc w (.cells #[.slice a len cap, .string (str s), .int .i64 n, .slice b bl bc] 25)
  have HF := Lib.hid (found_any a b len cap bl bc l s m n (w.alloc (.cells #[.slice a len cap, .string (str s), .int .i64 n, .slice b bl bc] 25)) (h.mono hb1) (hb.mono hb1) (by omega) (fun c hm => ⟨(hx c hm).1, Nat.le_trans (h.data hm).hle (hx c hm).2⟩) hn)
  clear h hb
  go_enter Try.func3, Try.ntmps3
  go_wp2_with fail
  refine HF.out.mono ?_
  rintro e w1 ⟨rfl, hb2⟩
  have HB := Lib.hid (below_then hb1 hb2)
  clear hb1 hb2
  go_wp2
  go_ret
  exact ⟨rfl, HB.out⟩
set_option maxRecDepth 100000 in
theorem lifted (os : Os) (started : os.Started) (H : Type) (enc : TypeId × Value → H) :
    ReturnsInHanded {} Try.checked os 3 .any (Rows.chunkOfSpec.pre6 enc Try.prog Try.f3 Rows.chunkOfRow.domain false) (Rows.chunkOfSpec.post enc Try.prog Try.f3 false true false false) := by
  refine returnsInHanded_of_change_sized (C := Try.checked) own started (by kernel_rfl) Try.func3
    (ChangeSpec.witness6 (enc := enc) (C := Try.checked) false ⟨#[], #[.agg #[.slice none 0 0, .string .empty, .int .i64 0, .slice none 0 0]], []⟩ 8 (by kernel_rfl) (by kernel_rfl) (by kernel_rfl) (by kernel_rfl)) ?_
  intro W base args ds gs before hval0 hW _ hsz0 _
  have hval : ∀ (j : Nat) t v, Try.f3.params[j]? = some t → args[j]? = some v → Value.okWide Try.prog W .any base t v := hval0
  have hsz : (DataW.weightsEach Try.prog (Try.f3.params.toList ++ Rows.chunkOfSpec.plain.varTypes Try.prog) (ds ++ gs)).all (· ≤ reachBytes) = true := hsz0
  have hW' := hW
  obtain ⟨p, q, hA0, hV, rfl, hfz, hnd⟩ := hW
  have hA : DataW.TrodAll enc Try.prog W 0 (fun _ => true) true Try.f3.params.toList args.toList ds p := hA0
  rw [Try.params3] at hA hval hsz
  obtain ⟨v0, vs0, d0, ds0, p0, q0, hargs, rfl, rfl, h0, r0⟩ := trodAll_cons hA
  obtain ⟨rfl, rfl, rfl⟩ := trodAll_nil r0
  obtain rfl : args = #[v0] := by cases args; simp_all
  obtain ⟨rfl, rfl⟩ := trodVars_none hV
  clear hsz0
  have k0 := h0
  have lt0 : ∀ x ∈ p0, x.block < W.heap.size := by obtain ⟨m, hm⟩ := k0; exact DataW.trod_lt m _ _ _ hm
  obtain ⟨a0, len0, cap0, l0, s0, n0, b0, blen0, bcap0, m0, rfl, w0, c0, x0, y0, z0, u0, q0⟩ := open_found Try.underlying25 (by kernel_rfl) Try.underlying22 Try.underlying52 Try.underlying9 Try.underlying23 Try.underlying5 (by kernel_rfl) (by kernel_rfl) (by kernel_rfl) (by kernel_rfl) rfl rfl (by kernel_rfl) (by kernel_rfl) Try.underlying9 Try.underlying3 Try.underlying23 Try.underlying5 (by kernel_rfl) (by kernel_rfl) (by kernel_rfl) (by kernel_rfl) (by kernel_rfl) (by kernel_rfl) rfl rfl rfl rfl (hval 0 25 v0 rfl rfl) h0 hsz 0 rfl rfl
  clear hA0 hval0 hsz
  refine (walk a0 len0 cap0 l0 s0 n0 b0 blen0 bcap0 m0 W w0 c0 x0 y0 z0 u0 q0).mono fun e W' ⟨he, bel⟩ => ?_
  subst he
  exact ⟨_, rfl, _, _, _, [], _, [], hW', trodAll_mk1 (shut_bool Try.underlying4 _), (trodAll_cons_mk (Below.trod laidOut (by kernel_rfl) (of_decide_eq_true (by kernel_rfl)) k0 bel lt0) trodAll_mk0), rfl, bel.frame _, fun h => by cases h⟩

theorem proved : Rows.ChunkOfSaid :=
  OpenClaim.holds_of_wide 3 Try.f3 rfl rfl rfl rfl rfl rfl rfl ⟨rfl, rfl, rfl, rfl, rfl⟩ rfl rfl rfl rfl rfl (by kernel_rfl) Try.func3 (by kernel_rfl)
    (of_decide_eq_true (by kernel_rfl)) (by unfold Func.isWrapper; first | (rw [if_pos (by decide +kernel)]; kernel_rfl) | (rw [if_neg (by decide +kernel)]; exact ⟨rfl, rfl⟩))
    (fun os started H enc _ => lifted os started H enc)
#print axioms proved
end Go.Proofs.Ytfhmmlpcdgcmoaa.ChunkOf
