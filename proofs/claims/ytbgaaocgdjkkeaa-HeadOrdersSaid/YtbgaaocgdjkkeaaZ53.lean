/- How a slice of chunks is opened, a law's argument; and {[]Chunk, string, int, []byte}. -/
import Derived.Test.YtbgaaocgdjkkeaaZ2
import Derived.Test.YtbgaaocgdjkkeaaZ6
import Derived.Test.YtbgaaocgdjkkeaaZ52
import Derived.Deep.Slices
import Derived.Deep.Strs
import Derived.ChangeSame
set_option linter.unusedSimpArgs false
set_option linter.unusedVariables false
section
namespace Go.Proofs.Ytbgaaocgdjkkeaa
open Go.ChangeShapes Go.WideShapes Go.ChangeAt Go.RowKit

section
variable {H : Type} {enc : TypeId × Value → H} {P : Program} {W : World}
theorem weights_all {e : TypeId} : ∀ {l : List (DataW H)} {d : DataW H}, d ∈ l → ∀ n ∈ d.weights P e, n ∈ DataW.weightsAll P e l
  | x :: l, d, h, n, hn => by
    rw [DataW.weightsAll, List.mem_append]
    rcases List.mem_cons.1 h with rfl | h
    · exact .inl hn
    · exact .inr (weights_all h n hn)
theorem sized_elem {ts : List TypeId} {ds : List (DataW H)} (h : (DataW.weightsEach P ts ds).all (· ≤ reachBytes) = true) {j : Nat} {t e : TypeId} {elems spare : List (DataW H)} (ht : ts[j]? = some t) (hd : ds[j]? = some (.slice elems spare)) (hu : P.underlying t = some (.slice e)) {d : DataW H} (hm : d ∈ elems) :
    (DataW.weightsEach P [e] [d]).all (· ≤ reachBytes) = true := by
  rw [List.all_eq_true] at h ⊢
  intro n hn
  refine h n (DataW.weights_mem_each ht hd n ?_)
  simp only [DataW.weightsEach, List.append_nil] at hn
  simp only [DataW.weights, hu, List.mem_cons, List.mem_append]
  exact .inr (.inl (weights_all hm n hn))

theorem open_cks {t e e1 : TypeId} {f0 f1 : Field} (ht : P.underlying t = some (.slice e)) (he : P.underlying e = some (.struct #[f0, f1]))
    (u0 : P.underlying f0.type = some .string) (u1 : P.underlying f1.type = some (.slice e1)) (x1 : P.underlying e1 = some (.int .u8)) (k1' : P.cellsOf e1 = 1) (b1 : P.bytesOf e1 = 1)
    (k0 : P.cellsOf f0.type = 1) (k1 : P.cellsOf f1.type = 1) (o0 : f0.offset = 0) (o1 : f1.offset = 1) (hc : P.cellsOf e = 2) (hby : P.bytesOf e = 40)
    {a : Option Addr} {len cap : Nat} {d : DataW H} {p : List MemPlace} (h : DataW.Trod enc P W 0 (fun _ => true) true t (.slice a len cap) d p)
    {ts : List TypeId} {ds : List (DataW H)} (hsz : (DataW.weightsEach P ts ds).all (· ≤ reachBytes) = true) (j : Nat) (htj : ts[j]? = some t) (hdj : ds[j]? = some d) :
    ∃ l, Cs W a len cap l ∧ cap * 40 ≤ 140737488351232 ∧ ∀ c ∈ l, c.n.length ≤ 140737488351232 ∧ c.s.cap ≤ 140737488351232 := by
  obtain ⟨fuel, hf⟩ := h
  rcases Go.Deep.open_slice ht hf with ⟨hcs, _⟩ | ⟨ad, len', cap', m, n, D, Pl, hcs, _, hl, _, hmm, hx, hi⟩
  · simp [Value.cells] at hcs
    obtain ⟨rfl, rfl, rfl⟩ := hcs
    exact ⟨[], cs_nil _, by omega, fun c hc => by simp at hc⟩
  · simp [Value.cells] at hcs
    obtain ⟨rfl, rfl, rfl⟩ := hcs
    simp only [if_true] at hmm
    subst hmm
    simp only [Prod.mk.injEq] at hx
    obtain ⟨rfl, _⟩ := hx
    have hreach : m * 40 ≤ 140737488351232 := by
      have := sized_slice hsz htj hdj ht
      rw [hby] at this
      simp only [List.length_map, List.length_range, reachBytes] at this
      omega
    have row : ∀ i, i < len → ∃ c : Ckm, W.cell? (ad.add (i * 2)) = some (.string (str c.n)) ∧ W.cell? (ad.add (i * 2 + 1)) = some c.s.val ∧ c.s.at W ∧ c.n.length ≤ 140737488351232 ∧ c.s.cap ≤ 140737488351232 := by
      intro i hil
      have hel := sized_elem hsz htj hdj ht (d := D i) (List.mem_map.2 ⟨i, List.mem_range.2 hil, rfl⟩)
      obtain ⟨cs', hcc, htr⟩ := hi i (by omega)
      rw [hc] at hcc
      obtain ⟨_, hcl, hat⟩ := World.cells?_some hcc
      obtain ⟨y0, y1, n', hy, _, t0, t1⟩ := trod_struct2 he htr
      simp only [Prod.mk.injEq] at hy
      rw [hy.1] at hel
      have hp := sized_parts hel (j := 0) rfl rfl he
      rw [o0, k0] at t0
      rw [o1, k1] at t1
      match cs', hcl with
      | [c0, c1], _ =>
        simp only [List.drop_zero, List.drop_succ_cons, List.take_succ_cons, List.take_zero] at t0 t1
        obtain ⟨s0, e0, hx0, w0⟩ := DataW.trod_string u0 t0
        obtain ⟨a2, len2, cap2, rfl⟩ := slice_cell u1 t1
        obtain ⟨l2, hl2, hr2⟩ := open_bs u1 x1 k1' b1 (d := y1.1) (p := y1.2) ⟨n', t1⟩ hp 1 rfl rfl
        simp at e0
        subst e0
        have a0 := hat 0 (by omega)
        have a1 := hat 1 (by omega)
        rw [Go.Deep.add_add] at a0 a1
        obtain ⟨nm, rfl⟩ := str_of s0
        rw [hx0] at hp
        have hs := sized_string hp (j := 0) rfl rfl
        exact ⟨⟨nm, ⟨a2, len2, cap2, l2⟩⟩, a0, a1, hl2, by simpa [str_data, reachBytes] using hs, hr2⟩
    by_cases h0 : len = 0
    · subst h0
      exact ⟨[], ⟨rfl, by omega, fun e => by simp at e, fun i hi => absurd hi (by omega)⟩, hreach, fun c hc => by simp at hc⟩
    · obtain ⟨b, off, spot⟩ := ad
      have hspot : spot = none := by
        obtain ⟨q, hq, _⟩ := row 0 (by omega)
        simpa [Addr.add] using World.cell?_spot hq
      subst hspot
      obtain ⟨F, hF⟩ := Go.Deep.choose_lt row
      have hg : ∀ i, i < len → nck ((List.range len).map F) i = F i := fun i hi => by simp [nck, List.getD, List.getElem?_range hi]
      refine ⟨(List.range len).map F, ⟨by simp, by omega, fun e => by simp at e, fun i hi => ?_⟩, hreach, fun c hc => ?_⟩
      · rw [hg i hi]
        obtain ⟨a0, a1, hd, _⟩ := hF i hi
        rw [Go.WideShapes.add_plain] at a0 a1
        exact ⟨b, off, rfl, block_lt_of_cell a0, a0, by rw [Nat.add_assoc]; exact a1, hd⟩
      · obtain ⟨i, hi, rfl⟩ := List.mem_map.1 hc
        obtain ⟨_, _, _, h1, h2⟩ := hF i (List.mem_range.1 hi)
        exact ⟨h1, h2⟩
theorem open_found {t e e1 e3 : TypeId} {f0 f1 f2 f3 g0 g1 : Field} (ht : P.underlying t = some (.struct #[f0, f1, f2, f3])) (hc : P.cellsOf t = 4)
    (u0 : P.underlying f0.type = some (.slice e)) (he : P.underlying e = some (.struct #[g0, g1])) (v0' : P.underlying g0.type = some .string) (v1' : P.underlying g1.type = some (.slice e1)) (x1 : P.underlying e1 = some (.int .u8)) (k1' : P.cellsOf e1 = 1) (b1 : P.bytesOf e1 = 1)
    (k0 : P.cellsOf g0.type = 1) (k1 : P.cellsOf g1.type = 1) (q0 : g0.offset = 0) (q1 : g1.offset = 1) (hce : P.cellsOf e = 2) (hby : P.bytesOf e = 40)
    (u1 : P.underlying f1.type = some .string) (u2 : P.underlying f2.type = some (.int .i64)) (u3 : P.underlying f3.type = some (.slice e3)) (x3 : P.underlying e3 = some (.int .u8)) (k3 : P.cellsOf e3 = 1) (b3 : P.bytesOf e3 = 1)
    (c0 : P.cellsOf f0.type = 1) (c1 : P.cellsOf f1.type = 1) (c2 : P.cellsOf f2.type = 1) (c3 : P.cellsOf f3.type = 1) (o0 : f0.offset = 0) (o1 : f1.offset = 1) (o2 : f2.offset = 2) (o3 : f3.offset = 3)
    {v : Value} {r : Reach} {base : Nat} (hv : Value.okWide P W r base t v) {d : DataW H} {p : List MemPlace} (h : DataW.Trod enc P W 0 (fun _ => true) true t v d p)
    {ts : List TypeId} {ds : List (DataW H)} (hsz : (DataW.weightsEach P ts ds).all (· ≤ reachBytes) = true) (j : Nat) (htj : ts[j]? = some t) (hdj : ds[j]? = some d) :
    ∃ a len cap l s n a2 len2 cap2 l2, v = .agg #[.slice a len cap, .string (str s), .int .i64 n, .slice a2 len2 cap2] ∧ Cs W a len cap l ∧ cap * 40 ≤ 140737488351232 ∧ (∀ c ∈ l, c.n.length ≤ 140737488351232 ∧ c.s.cap ≤ 140737488351232) ∧ s.length ≤ 140737488351232 ∧ (Lit.int .i64 n).wf = true ∧ Bs W a2 len2 cap2 l2 ∧ cap2 ≤ 140737488351232 := by
  obtain ⟨cs, rfl, hcs⟩ := okWide_struct ht hv
  rw [hc] at hcs
  obtain ⟨w0, w1, w2, w3, rfl⟩ := Go.Joins.array4 hcs
  obtain ⟨fuel, hf⟩ := h
  obtain ⟨y0, y1, y2, y3, n, hx, _, t0, t1, t2, t3⟩ := Go.Joins.trod_struct4 ht hf
  rw [o0, c0] at t0
  rw [o1, c1] at t1
  rw [o2, c2] at t2
  rw [o3, c3] at t3
  simp only [Value.cells, List.drop_zero, List.drop_succ_cons, List.take_succ_cons, List.take_zero] at t0 t1 t2 t3
  simp only [Prod.mk.injEq] at hx
  obtain ⟨rfl, _⟩ := hx
  have hp := sized_parts hsz htj hdj ht
  obtain ⟨a, len, cap, rfl⟩ := slice_cell u0 t0
  obtain ⟨s0, e1', hx1, z1⟩ := DataW.trod_string u1 t1
  obtain ⟨m2, e2, _, z2⟩ := DataW.trod_int u2 t2
  obtain ⟨a2, len2, cap2, rfl⟩ := slice_cell u3 t3
  simp only [List.cons.injEq, and_true] at e1' e2
  subst e1' e2
  obtain ⟨nm, rfl⟩ := str_of s0
  obtain ⟨l, hl, hr, hn⟩ := open_cks u0 he v0' v1' x1 k1' b1 k0 k1 q0 q1 hce hby (d := y0.1) (p := y0.2) ⟨n, t0⟩ hp 0 rfl rfl
  obtain ⟨l2, hl2, hr2⟩ := open_bs u3 x3 k3 b3 (d := y3.1) (p := y3.2) ⟨n, t3⟩ hp 3 rfl rfl
  rw [hx1] at hp
  have hs := sized_string hp (j := 1) rfl rfl
  exact ⟨a, len, cap, l, nm, m2, a2, len2, cap2, l2, rfl, hl, hr, hn, by simpa [str_data, reachBytes] using hs, z2, hl2, hr2⟩
end
end Go.Proofs.Ytbgaaocgdjkkeaa
end
