/- chunk.appended: its contract. -/
import Derived.Test.YtbgaaocgdjkkeaaZ19
import Derived.Test.YtbgaaocgdjkkeaaZ24
import Derived.Test.YtbgaaocgdjkkeaaZ30
import Derived.Test.YtbgaaocgdjkkeaaZ31
import Derived.Laws.IdiomStrings
set_option linter.unusedSimpArgs false
set_option linter.unusedVariables false
section
namespace Go.Proofs.Ytbgaaocgdjkkeaa
open Go.RowKit

/-- A row of the call's own, or a slice without room. -/
def Uo (w : World) (base : Nat) (e : TypeId) (v : Value) (n : Nat) (xs : List Value) : Prop :=
  w.ownsRow base e 1 v n xs ∨ ∃ b off, v = .slice (some ⟨b, off, none⟩) n n ∧ b < w.heap.size ∧ xs.length = n ∧ ∀ j u, xs[j]? = some u → w.cell? (Addr.add ⟨b, off, none⟩ j) = some u
theorem Uo.below {w w' : World} {base : Nat} {e : TypeId} {v : Value} {n : Nat} {xs : List Value} (h : Uo w base e v n xs) (hb : Below w.heap.size w w') : Uo w' base e v n xs := by
  rcases h with h | ⟨b, off, rfl, hlt, hl, hc⟩
  · exact .inl (own_below h hb)
  · exact .inr ⟨b, off, rfl, Nat.lt_of_lt_of_le hlt hb.size, hl, fun j u hu => by have := hc j u hu; rw [hb.cell (block_lt_of_cell this)]; exact this⟩
section
variable {P : Program} {w : World} {ops : Array Oper} {rest : List Oper} {o : Oper} {a : Act} {Q : Exit → Act → World → Prop}
variable {t e : TypeId} {z : Value} {by' : Nat}
theorem wpl_append_u (R : RowTy P t e z 1 by') (hg : o.guard = none) (s x : Operand) (hop : o.op = Op.call { callee := Callee.builtin Builtin.append, args := #[s, x], argTypes := #[t, t] })
    {base n : Nat} {v : Value} {xs : List Value} (hown : Uo w base e v n xs) {ad : Addr} {m c : Nat} {news : List Value} (hsrc : SrcRow w (some ad) m c news 1)
    (hs : a.eval s = v) (hx : a.eval x = .slice (some ad) m c) (hm : 0 < m) (h63 : n + m ≤ 9223372036854775807) (hbytes : (n + m) * by' ≤ 140737488355328) (hbase : base ≤ w.heap.size)
    (hK : ∀ v' w', w'.ownsRow base e 1 v' (n + m) (xs ++ news) → Ch w w' (fun k => v.ownBlock = some k ∧ base ≤ k) → (∀ k, v'.ownBlock = some k → (v.ownBlock = some k ∧ base ≤ k) ∨ w.heap.size ≤ k) → wpList P ops Q rest (a.put o.dst v') w') :
    wpList P ops Q (o :: rest) a w := by
  rcases hown with hown | ⟨b, off, rfl, _, hl, hc⟩
  · refine wpl_append2 R hg s x hop hown hsrc hs hx hm h63 hbytes hbase (fun v' w' h1 h2 => hK v' w' h1 ((Ch.step h2).wide (fun k hk => .inl ⟨hk, (hown.lt k hk).1⟩)) (fun k hk => (h2.block k hk).elim (fun h => .inl ⟨h, (hown.lt k h).1⟩) .inr))
  · obtain ⟨i0, hi, hz0, hz1, hz2⟩ := info_parts R.info
    have hml : n + m ≤ maxLen := by unfold maxLen; omega
    obtain ⟨v', w', hrun, r1, r2⟩ := run_append_arg_grows (P := P) w t o.type e i0 z 1 by' R.ht hi hz0 hz1 hz2 R.hzs R.hsz ⟨b, off, none⟩ n n xs (by rw [hl, Nat.mul_one]) hc ad m c news hsrc.hl (hsrc.hc ad rfl) (by omega) hml hbytes
    refine wpList_plain hg fun K hK' => ?_
    unfold Oper.wp
    simp [execOp, hop, resolve, invoke, builtin, hs, hx, hrun, Result.andThen]
    exact hK' _ _ (hK v' w' (own_base r1 (fun g hg => Nat.le_trans hbase ((r1.lt g hg).1))) ⟨r2.os, r2.tape, r2.output, r2.size, fun i hi _ => r2.block i hi (by simp)⟩ (fun k hk => .inr (r1.lt k hk).1))
end
theorem Bs.chg {w w' : World} {a : Option Addr} {len cap : Nat} {l : List UInt8} {T : Nat → Prop} (h : Bs w a len cap l) (hc : Ch w w' T) (hn : ∀ b off, a = some ⟨b, off, none⟩ → ¬ T b) : Bs w' a len cap l :=
  ⟨h.hlen, h.hle, h.hcap, h.hmax, h.hnil, fun i hi => by
    obtain ⟨b, off, e, hlt, hx⟩ := h.at' i hi
    exact ⟨b, off, e, Nat.lt_of_lt_of_le hlt hc.size, by rw [World.cell?_of_block (w := w) (hc.block b hlt (hn b off e))]; exact hx⟩⟩
/-- What []byte of a text reads as. -/
theorem bs_string (w : World) (l : List UInt8) (e : TypeId) (c : Nat) (fr : Nat × Nat) (hl : l.length ≤ 140737488355328) (hc : l.length ≤ c) (hc2 : c ≤ 9223372036854775807) :
    Bs (w.drew.alloc (.cells (bytesRow (str l) c) e fr)) (some ⟨w.heap.size, 0, none⟩) l.length c l := by
  refine ⟨rfl, hc, by omega, hc2, fun h => by simp at h, fun i hi => ⟨w.heap.size, 0, rfl, by simp, ?_⟩⟩
  have hcr := cell_of_row (w.drew.alloc (.cells (bytesRow (str l) c) e fr)) w.heap.size i _ e fr (heap_alloc_last w.drew _)
  rw [Nat.zero_add, hcr]
  unfold bytesRow
  rw [Array.getElem?_append_left (by simp [str]; exact hi)]
  simp [str, gb, List.getD, List.getElem?_eq_getElem hi]
/-- []byte of a text: a new row that reads as it. -/
theorem conv_string {P : Program} (w : World) (src dst e : TypeId) (l : List UInt8) (hs : P.underlying src = some .string) (hd : P.underlying dst = some (.slice e)) (he : P.underlying e = some (.int .u8)) (hl : l.length ≤ 140737488355328) :
    ∃ b c w', (convert src dst (.string (str l))).run P w = .ok (.slice (some ⟨b, 0, none⟩) l.length c) w' ∧ Bs w' (some ⟨b, 0, none⟩) l.length c l ∧ w.heap.size ≤ b ∧ Below w.heap.size w w' := by
  have h := run_bytes_of_string (P := P) w src dst e (str l) hs hd he
  rw [str_size] at h
  have h1 := grownCap_ge w l.length 0 e
  have h2 := grownCap_le_maxLen w l.length 0 e (by unfold maxLen; omega)
  unfold maxLen at h2
  refine ⟨_, _, _, h, bs_string w l e _ _ hl h1 (by omega), Nat.le_refl _, ?_⟩
  exact ((Below.refl _ _).drew).alloc (by exact Nat.le_refl _) _
/-- What appended leaves. -/
def ApPost (w0 : World) (n : Nat) (o : List UInt8) (c : Ck.C) (e : Ending) (w' : World) : Prop :=
  ∃ v', e = .returned (.tuple #[v', .nilIface]) ∧ w'.ownsRow w0.heap.size 5 1 v' (n + (12 + c.2.length)) (bvs (o ++ Ck.enc c)) ∧ Below w0.heap.size w0 w'
set_option maxRecDepth 100000 in
set_option maxHeartbeats 4000000 in
theorem appended_any (w0 w : World) (v : Value) (n : Nat) (o nm : List UInt8) (s : Sl) (hb : Below w0.heap.size w0 w) (hu : Uo w w0.heap.size 5 v n (bvs o)) (hs : s.at w0) (hn : nm.length = 4) (hn2 : n ≤ 1048576) (hl2 : s.len ≤ 1048576) :
    Calls Try.prog 59 #[v, .agg #[.string (str nm), s.val]] w (ApPost w0 n o (nm, s.l)) := by
  obtain ⟨sa, sl, sc, sd⟩ := s
  simp only at hl2
  have hs : Bs w0 sa sl sc sd := hs
  have hle := hs.hle
  have HL := Lib.hid hs.hlen
  have HN := Lib.hid hn
  have HS := Lib.hid hs
  have hz := hb.size
  unfold Sl.val
  have hb1 := hb.alloc hz (.cells #[.string (str nm), .slice sa sl sc] 26)
  have hba := below_alloc w (.cells #[.string (str nm), .slice sa sl sc] 26)
  have r1 := heap_alloc_last w (.cells #[.string (str nm), .slice sa sl sc] 26)
  obtain ⟨b1, c1, w2, kb, hbs, hz2, hb2⟩ := conv_string (P := Try.prog) (w.alloc (.cells #[.string (str nm), .slice sa sl sc] 26)) 9 24 5 nm Try.underlying9 Try.underlying24 Try.underlying5 (by omega)
  have hU2 := (hu.below hba).below hb2
  have r2 := (hb2.block w.heap.size (by simp)).trans r1
  have hB2 : Below w0.heap.size w0 w2 := below_then hb1 hb2
  rw [hn] at kb hbs
  have HU2 := Lib.hid hU2
  have HB2 := Lib.hid hB2
  have HBS := Lib.hid hbs
  have HR2 := Lib.hid r2
  have HVL : Hid (∀ k, v.ownBlock = some k → k < w.heap.size) := Lib.hid (fun k hk => by
    rcases hu with h | ⟨b, off, rfl, hlt, _⟩
    · exact (h.lt k hk).2
    · simp [Value.ownBlock] at hk; omega)
  have hwz : w.heap.size < w2.heap.size := by have := hb2.size; simp at this; omega
  have y0 : w2.cell? ⟨w.heap.size, 0, none⟩ = some (.string (str nm)) := by rw [cell_of_row _ _ 0 _ _ (0, 0) r2]; rfl
  have y1 : w2.cell? ⟨w.heap.size, 1, none⟩ = some (.slice sa sl sc) := by rw [cell_of_row _ _ 1 _ _ (0, 0) r2]; rfl
  have hzb1 : w.heap.size < b1 := by simp at hz2; omega
  clear hs hn hu hb hb1 hba r1 hb2 hz2 r2 hU2 hB2 hbs
  go_enter Try.func59, Try.ntmps59
  go_wp2_with fail
  refine (put_ok _ _ _ [] 4 sl _ (bs_nil _) (by omega) (by omega) (by omega)).mono ?_
  rintro e w3 ⟨g3, rfl, ho3, hb3⟩
  rw [Nat.zero_add, List.nil_append] at ho3
  have HU3 := Lib.hid (HU2.out.below hb3)
  have HO3 := Lib.hid ho3
  have HB3 := Lib.hid (below_then HB2.out hb3)
  have HBS3 := Lib.hid (HBS.out.mono hb3)
  have HR3 := Lib.hid ((hb3.block w.heap.size (by omega)).trans HR2.out)
  have x0 : w3.cell? ⟨w.heap.size, 0, none⟩ = some (.string (str nm)) := by rw [cell_of_row _ _ 0 _ _ (0, 0) HR3.out]; rfl
  have x1 : w3.cell? ⟨w.heap.size, 1, none⟩ = some (.slice sa sl sc) := by rw [cell_of_row _ _ 1 _ _ (0, 0) HR3.out]; rfl
  clear ho3 hb3 HU2 HB2 HBS HR2 kb y0 y1
  go_wp2_with fail
  have hpa := parts_new w3 w3.heap.size rfl [⟨some ⟨b1, 0, none⟩, 4, c1, nm⟩, ⟨sa, sl, sc, sd⟩] 24 2 rfl (by omega) _ rfl (by
    intro t ht
    simp only [List.mem_cons, List.not_mem_nil, or_false] at ht
    rcases ht with rfl | rfl
    · exact HBS3.out
    · exact HS.out.mono HB3.out)
  have hfl : flat [⟨some ⟨b1, 0, none⟩, 4, c1, nm⟩, ⟨sa, sl, sc, sd⟩] = nm ++ sd := by simp [flat]
  refine (crc_any _ _ _ _ _ hpa).mono ?_
  rintro e w4 ⟨rfl, hb4⟩
  rw [hfl]
  have hcl : Crc.crc (nm ++ sd) < 4294967296 := by unfold Crc.crc; omega
  have HCE := Lib.hid (show Ck.enc (nm, sd) = Pt.dig 4 sl ++ (nm ++ sd) ++ Pt.dig 4 (Crc.crc (nm ++ sd)) by rw [Ck.enc, HL.out])
  have hba4 := below_then (below_alloc w3 (.cells #[.slice (some ⟨b1, 0, none⟩) 4 c1, .slice sa sl sc] 24)) hb4
  have HU4 := Lib.hid (HU3.out.below hba4)
  have HO4 := Lib.hid (own_below HO3.out hba4)
  have HB4 := Lib.hid (below_then HB3.out hba4)
  have HBS4 := Lib.hid (HBS3.out.mono hba4)
  have hz3 := (Array.getElem?_eq_some_iff.1 HR3.out).1
  have HR4 := Lib.hid ((hba4.block w.heap.size hz3).trans HR3.out)
  have hz4 := hba4.size
  clear hpa hfl hb4 hba4 HU3 HO3 HB3 HBS3 HR3 x0 x1
  generalize Crc.crc (nm ++ sd) = cr at *
  go_wp2_with fail
  refine (put_ok _ _ _ [] 4 cr _ (bs_nil _) (by omega) (by omega) (by omega)).mono ?_
  rintro e w5 ⟨g5, rfl, ho5, hb5⟩
  rw [Nat.zero_add, List.nil_append] at ho5
  have HU5 := Lib.hid (HU4.out.below hb5)
  have HO5 := Lib.hid (own_below HO4.out hb5)
  have HP5 := Lib.hid ho5
  have HB5 := Lib.hid (below_then HB4.out hb5)
  have HBS5 := Lib.hid (HBS4.out.mono hb5)
  have HR5 := Lib.hid ((hb5.block w.heap.size (by omega)).trans HR4.out)
  have hz5 := hb5.size
  clear ho5 hb5 HU4 HO4 HB4 HBS4 HR4
  have hn5 := HBS5.out
  have hnb := hn5.at' 0 (by omega)
  obtain ⟨b1', off', e1', hb1lt, _⟩ := hnb
  simp only [Option.some.injEq, Addr.mk.injEq, and_true] at e1'
  obtain ⟨rfl, rfl⟩ := e1'
  have hl5 := bs_of_own HO5.out (by omega) 4 (by omega)
  have hs5 := bs_of_own HP5.out (by omega) 4 (by omega)
  rw [List.take_of_length_le (by rw [Pt.dig_length]; omega)] at hl5 hs5
  have hg3 := HO5.out.lt g3 rfl
  have hg5 := HP5.out.lt g5 rfl
  obtain ⟨T, hTd⟩ : ∃ T : Nat → Prop, ∀ k, T k ↔ ((w0.heap.size ≤ k ∧ k < w.heap.size) ∨ w5.heap.size ≤ k) := ⟨_, fun _ => Iff.rfl⟩
  have hvT : ∀ k, v.ownBlock = some k ∧ w0.heap.size ≤ k → T k := fun k hk => (hTd k).2 (.inl ⟨hk.2, HVL.out k hk.1⟩)
  have HT := Lib.hid hvT
  have HD5 := Lib.hid (HS.out.mono HB5.out)
  have dB : ∀ b off, sa = some ⟨b, off, none⟩ → sl = 0 ∨ b < w0.heap.size := fun b off e => by
    by_cases h0 : sl = 0
    · exact .inl h0
    · obtain ⟨b', off', e', hlt, _⟩ := HS.out.at' 0 (by omega)
      rw [e] at e'
      simp only [Option.some.injEq, Addr.mk.injEq, and_true] at e'
      exact .inr (by omega)
  have hd5 : SrcRow w5 sa sl sc (bvs sd) 1 := HD5.out.src
  have x0 : w5.cell? ⟨w.heap.size, 0, none⟩ = some (.string (str nm)) := by rw [cell_of_row _ _ 0 _ _ (0, 0) HR5.out]; rfl
  have x1 : w5.cell? ⟨w.heap.size, 1, none⟩ = some (.slice sa sl sc) := by rw [cell_of_row _ _ 1 _ _ (0, 0) HR5.out]; rfl
  have HU := HU5.out
  have HLS := Lib.hid hl5
  have HSS := Lib.hid hs5
  have HBB := Lib.hid dB
  have HTD := Lib.hid hTd
  clear hTd hvT hl5 hs5 hn5 dB hd5 HU
  go_wp2_with (at_builtin; refine wpl_append_u tyB rfl _ _ rfl HU5.out HLS.out.src rfl rfl (by omega) (by omega) (by omega) (by omega) ?_)
  intro v6 w6 own6 ch6 bk6
  rw [← bvs_append] at own6
  have ch6 : Ch w5 w6 T := ch6.wide (fun k hk => .inl (HT.out k hk))
  have bk6 : ∀ k, v6.ownBlock = some k → T k := fun k hk => (bk6 k hk).elim (HT.out k) (fun h => (HTD.out k).2 (.inr h))
  have nT : ∀ k, w.heap.size ≤ k → k < w5.heap.size → ¬ T k := fun k h1 h2 h3 => by have := (HTD.out k).1 h3; omega
  have nT0 : ∀ k, k < w0.heap.size → ¬ T k := fun k h1 h3 => by have := (HTD.out k).1 h3; omega
  have hN6 := HBS5.out.chg ch6 (fun b off e => by
    obtain ⟨rfl, _⟩ : b1 = b ∧ 0 = off := by simpa using e
    exact nT _ (by omega) (by omega))
  have HO6 := Lib.hid own6
  have HN6 := Lib.hid hN6
  have HC6 := Lib.hid ch6
  have HK6 := Lib.hid bk6
  have hz6 := ch6.size
  have HNT := Lib.hid nT
  have HNT0 := Lib.hid nT0
  obtain ⟨a6, c6, rfl, _⟩ := own_slice own6
  clear own6 hN6 ch6 bk6 nT nT0 x0 x1
  go_wp2_with (at_builtin; refine wpl_append3 tyB rfl _ _ rfl HO6.out HN6.out.src rfl rfl (by omega) (by omega) (by omega) ?_)
  intro v7 w7 own7 ch7 bk7
  rw [← bvs_append] at own7
  have HC7 : Hid (Ch w5 w7 T) := Lib.hid (HC6.out.trans ch7 (fun k hk => .inl (HK6.out k hk)))
  have HK7 : Hid (∀ k, v7.ownBlock = some k → T k) := Lib.hid (fun k hk => (bk7 k hk).elim (HK6.out k) (fun h => (HTD.out k).2 (.inr (by omega))))
  have hR7 : w7.heap[w.heap.size]? = some (.cells #[.string (str nm), .slice sa sl sc] 26 (0, 0)) := by rw [HC7.out.block _ (by omega) (HNT.out _ (by omega) (by omega))]; exact HR5.out
  have x0 : w7.cell? ⟨w.heap.size, 0, none⟩ = some (.string (str nm)) := by rw [cell_of_row _ _ 0 _ _ (0, 0) hR7]; rfl
  have x1 : w7.cell? ⟨w.heap.size, 1, none⟩ = some (.slice sa sl sc) := by rw [cell_of_row _ _ 1 _ _ (0, 0) hR7]; rfl
  have HO7 := Lib.hid own7
  have HB7 : Hid (Below w0.heap.size w0 w7) := Lib.hid (HB5.out.trans (HC7.out.below (by omega) (fun k hk => by have := (HTD.out k).1 hk; omega)))
  have HD7 := Lib.hid (HS.out.mono HB7.out)
  have hz7 := HC7.out.size
  obtain ⟨a7, c7, rfl, _⟩ := own_slice own7
  clear own7 ch7 bk7 hR7 HO6 HN6 HC6 HK6
  go_wp2_with (at_builtin; refine wpl_append3 tyB rfl _ _ rfl HO7.out HD7.out.src rfl rfl (by omega) (by omega) (by omega) ?_)
  intro v8 w8 own8 ch8 bk8
  rw [← bvs_append] at own8
  have HC8 : Hid (Ch w5 w8 T) := Lib.hid (HC7.out.trans ch8 (fun k hk => .inl (HK7.out k hk)))
  have HK8 : Hid (∀ k, v8.ownBlock = some k → T k) := Lib.hid (fun k hk => (bk8 k hk).elim (HK7.out k) (fun h => (HTD.out k).2 (.inr (by omega))))
  have HB8 : Hid (Below w0.heap.size w0 w8) := Lib.hid (HB5.out.trans (HC8.out.below (by omega) (fun k hk => by have := (HTD.out k).1 hk; omega)))
  have HS8 : Hid (Bs w8 (some ⟨g5, 0, none⟩) 4 4 (Pt.dig 4 cr)) := Lib.hid (HSS.out.chg HC8.out (fun b off e => by
    obtain ⟨rfl, _⟩ : g5 = b ∧ 0 = off := by simpa using e
    exact HNT.out _ (by omega) (by omega)))
  have HO8 := Lib.hid own8
  have hz8 := HC8.out.size
  obtain ⟨a8, c8, rfl, _⟩ := own_slice own8
  clear own8 ch8 bk8 HO7 HC7 HK7 x0 x1
  go_wp2_with (at_builtin; refine wpl_append3 tyB rfl _ _ rfl HO8.out HS8.out.src rfl rfl (by omega) (by omega) (by omega) ?_)
  intro v9 w9 own9 ch9 bk9
  rw [← bvs_append] at own9
  have HC9 : Hid (Ch w5 w9 T) := Lib.hid (HC8.out.trans ch9 (fun k hk => .inl (HK8.out k hk)))
  have HB9 : Hid (Below w0.heap.size w0 w9) := Lib.hid (HB5.out.trans (HC9.out.below (by omega) (fun k hk => by have := (HTD.out k).1 hk; omega)))
  have HO9 : Hid (w9.ownsRow w0.heap.size 5 1 v9 (n + (12 + sl)) (bvs (o ++ Ck.enc (nm, sd)))) := Lib.hid (by
    have h9 := own9
    rw [show n + 4 + 4 + sl + 4 = n + (12 + sl) by omega] at h9
    rw [HCE.out]
    simp only [List.append_assoc] at h9 ⊢
    exact h9)
  clear own9 ch9 bk9 HO8 HC8 HK8
  go_wp2_with (fail)
  go_ret2
  exact ⟨_, rfl, by rw [HL.out]; exact HO9.out, HB9.out⟩
end Go.Proofs.Ytbgaaocgdjkkeaa
end
