/- burnishref12.Good, Sign, Chunk, Write: their contracts. -/
import Derived.Test.YtaedajedjbgnbaaCkApp
import Derived.Test.YtaedajedjbgnbaaCkRefName
import Derived.Test.YtaedajedjbgnbaaRef01n
import Derived.Test.YtaedajedjbgnbaaRef01a
import Derived.ArgAppend
namespace Go.Proofs.Ytaedajedjbgnbaa
open Go.RowKit

section
variable {P : Program} {w : World} {ops : Array Oper} {rest : List Oper} {o : Oper} {a : Act} {Q : Exit → Act → World → Prop}
variable {t e : TypeId} {z : Value} {by' : Nat}
/-- append to a slice of bytes whose spare room may be written. -/
theorem wpl_append_fr (R : RowTy P t e z 1 by') (hg : o.guard = none) (s x : Operand) (hop : o.op = Op.call { callee := Callee.builtin Builtin.append, args := #[s, x], argTypes := #[t, t] })
    {b n cap : Nat} {l d : List UInt8} (hbs : Bs w (some ⟨b, 0, none⟩) n cap l) (hblt : b < w.heap.size) (hsp : ∀ j, n ≤ j → j < cap → (w.cell? ⟨b, j, none⟩).isSome = true ∧ w.frozen? ⟨b, j, none⟩ = false) {ao : Option Addr} {m c : Nat} (hsrc : SrcRow w ao m c (bvs d) 1)
    (hs : a.eval s = .slice (some ⟨b, 0, none⟩) n cap) (hx : a.eval x = .slice ao m c) (h63 : n + m ≤ 281474976710656) (hbytes : (n + m) * by' ≤ 140737488355328)
    (hK : ∀ a' c' w', Bs w' a' (n + m) c' (l ++ d) → Ch w w' (fun k => k = b) → wpList P ops Q rest (a.put o.dst (.slice a' (n + m) c')) w') :
    wpList P ops Q (o :: rest) a w := by
  obtain ⟨i0, hi, hz0, hz1, hz2⟩ := info_parts R.info
  have hl := hbs.hlen
  have hle := hbs.hle
  have hd : d.length = m := by have := hsrc.hl; rw [bvs_length] at this; omega
  have fin : ∀ a' c' w', (Builtin.append_ #[t, t] o.type #[.slice (some ⟨b, 0, none⟩) n cap, .slice ao m c]).run P w = .ok (.slice a' (n + m) c') w' → Bs w' a' (n + m) c' (l ++ d) → Ch w w' (fun k => k = b) → wpList P ops Q (o :: rest) a w := by
    intro a' c' w' hrun h1 h2
    refine wpList_plain hg fun K hK' => ?_
    unfold Oper.wp
    simp [execOp, hop, resolve, invoke, builtin, hs, hx, hrun, Result.andThen]
    exact hK' _ _ (hK a' c' w' h1 h2)
  cases ao with
  | none =>
    obtain ⟨rfl, rfl⟩ := hsrc.hnone rfl
    obtain rfl : d = [] := List.eq_nil_of_length_eq_zero hd
    refine fin _ cap w ?_ (by rw [List.append_nil]; exact hbs) (Ch.refl _ _)
    simp [Builtin.append_, run_underlying R.ht, sizeOf, typeInfo, hi, Builtin.lenOf, Builtin.firstCells, hle, storeCells]
  | some ad =>
    by_cases hr : n + m ≤ cap
    · have h1 : ∀ j, j < (bvs d).length → (w.cell? ⟨b, 0 + n * i0.size + j, none⟩).isSome = true := fun j hj => by rw [bvs_length, hd] at hj; rw [hz1, Nat.mul_one, Nat.zero_add]; exact (hsp _ (by omega) (by omega)).1
      have h2 : ∀ j, j < (bvs d).length → w.frozen? ⟨b, 0 + n * i0.size + j, none⟩ = false := fun j hj => by rw [bvs_length, hd] at hj; rw [hz1, Nat.mul_one, Nat.zero_add]; exact (hsp _ (by omega) (by omega)).2
      have hrun := run_append_room_cells (P := P) w t o.type e i0 R.ht hi b 0 n cap ad m c (bvs d) (by rw [hz1]; exact hsrc.hl) (hsrc.hc ad rfl) hsrc.h1 hr h1 h2
      rw [hz1, Nat.mul_one, Nat.zero_add] at hrun
      have h1 : ∀ j, j < (bvs d).length → (w.cell? ⟨b, n + j, none⟩).isSome = true := fun j hj => by rw [bvs_length, hd] at hj; exact (hsp _ (by omega) (by omega)).1
      refine fin _ _ _ hrun ⟨by simp; omega, hr, by omega, hbs.hmax, fun h => by simp at h, fun i hi' => ⟨b, 0, rfl, ?_, ?_⟩⟩ ?_
      · have := (below_setCells (B := 0) (Nat.zero_le b) (bvs d) n w (Below.refl 0 w)).size
        omega
      · by_cases hin : i < n
        · rw [World.cell?_setCells_out b (bvs d) _ w ⟨b, 0 + i, none⟩ (fun _ _ => .inl (by show 0 + i < n; omega))]
          obtain ⟨b', off', e', _, hc⟩ := hbs.at' i hin
          simp only [Option.some.injEq, Addr.mk.injEq, and_true] at e'
          obtain ⟨rfl, rfl⟩ := e'
          rw [hc]
          simp [gb, List.getD, List.getElem?_append_left (show i < l.length by omega)]
        · obtain ⟨q, rfl⟩ : ∃ q, i = n + q := ⟨i - n, by omega⟩
          rw [Nat.zero_add, World.cell?_setCells_in b (bvs d) n w h1 q (by rw [bvs_length]; omega)]
          rw [← List.getElem?_eq_getElem, bvs_get d q (by omega)]
          simp [gb, List.getD, List.getElem?_append_right (show l.length ≤ n + q by omega), show n + q - l.length = q by omega]
      · have hgen : ∀ (vs : List Value) (k : Nat) (w1 : World), Ch w w1 (fun j => j = b) → Ch w (w1.setCells b k vs) (fun j => j = b) := by
          intro vs
          induction vs with
          | nil => intro k w1 h; exact h
          | cons u r ih => intro k w1 h; exact ih (k + 1) _ (h.set (p := ⟨b, k, none⟩) (.inl rfl) u)
        exact hgen _ _ _ (Ch.refl _ _)
    · obtain ⟨v', w', hrun, r1, r2⟩ := run_append_arg_grows (P := P) w t o.type e i0 z 1 by' R.ht hi hz0 hz1 hz2 R.hzs R.hsz ⟨b, 0, none⟩ n cap (bvs l) (by rw [bvs_length]; omega) (fun j u hu => hbs.news _ rfl j u hu) ad m c (bvs d) hsrc.hl (hsrc.hc ad rfl) (by omega) (by unfold maxLen; omega) hbytes
      rw [← bvs_append] at r1
      have hb1 : Bs w' (match v' with | .slice a _ _ => a | _ => none) (n + m) (match v' with | .slice _ _ c => c | _ => 0) (l ++ d) ∧ v' = .slice (match v' with | .slice a _ _ => a | _ => none) (n + m) (match v' with | .slice _ _ c => c | _ => 0) := by
        obtain ⟨a', c', rfl, h⟩ := own_bs r1 h63
        exact ⟨h, rfl⟩
      obtain ⟨h1, h2⟩ := hb1
      rw [h2] at hrun
      exact fin _ _ w' hrun h1 ⟨r2.os, r2.tape, r2.output, r2.size, fun i hi _ => r2.block i hi (by simp)⟩
end
/-- []byte of a text: a new row that reads as it, with room that may be written. -/
theorem conv_string2 {P : Program} (w : World) (src dst e : TypeId) (l : List UInt8) (hs : P.underlying src = some .string) (hd : P.underlying dst = some (.slice e)) (he : P.underlying e = some (.int .u8)) (hl : l.length ≤ 140737488355328) :
    ∃ b c w', (convert src dst (.string (str l))).run P w = .ok (.slice (some ⟨b, 0, none⟩) l.length c) w' ∧ Bs w' (some ⟨b, 0, none⟩) l.length c l ∧ w.heap.size ≤ b ∧ b < w'.heap.size ∧ Below w.heap.size w w' ∧ ∀ j, l.length ≤ j → j < c → (w'.cell? ⟨b, j, none⟩).isSome = true ∧ w'.frozen? ⟨b, j, none⟩ = false := by
  have h := run_bytes_of_string (P := P) w src dst e (str l) hs hd he
  rw [str_size] at h
  have h1 := grownCap_ge w l.length 0 e
  have h2 := grownCap_le_maxLen w l.length 0 e (by unfold maxLen; omega)
  unfold maxLen at h2
  refine ⟨_, _, _, h, bs_string w l e _ _ hl h1 (by omega), Nat.le_refl _, by simp, ?_, fun j hj1 hj2 => ?_⟩
  · exact ((Below.refl _ _).drew).alloc (by exact Nat.le_refl _) _
  · generalize grownCap w l.length 0 e = c at *
    have h3 : (str l).data.size = l.length := by simp [str]
    have hsz : (bytesRow (str l) c).size = c := by simp only [bytesRow, Array.size_append, Array.size_map, Array.size_replicate, h3, str_size]; omega
    have hrow := heap_alloc_last w.drew (.cells (bytesRow (str l) c) e ((bytesRow (str l) c).size, (bytesRow (str l) c).size + 1))
    have hcr := cell_of_row _ w.drew.heap.size j _ e _ hrow
    refine ⟨?_, ?_⟩
    · show ((w.drew.alloc _).cell? ⟨w.drew.heap.size, j, none⟩).isSome = true
      rw [hcr]
      simp [hsz, hj2]
    · show (w.drew.alloc _).frozen? ⟨w.drew.heap.size, j, none⟩ = false
      simp only [World.frozen?, hrow]
      simp
      omega
theorem sign_any (w : World) : Calls Try.prog 32 #[] w fun e w' => ∃ g, e = .returned (.slice (some ⟨g, 0, none⟩) 8 8) ∧ w'.ownsRow w.heap.size 5 1 (.slice (some ⟨g, 0, none⟩) 8 8) 8 (bvs Ck.sign) ∧ Below w.heap.size w w' := by
  go_enter Try.func32, Try.ntmps32
  go_wp2
  go_ret
  exact ⟨_, rfl, own_new w w.heap.size 5 _ Ck.sign (Nat.le_refl _) (by decide) 8 rfl rfl, below_alloc _ _⟩
theorem refGood_any (a : Option Addr) (len cap : Nat) (l : List Ckm) (w : World) (h : Cs w a len cap l) (hr : len * 40 ≤ 140737488351232) (hd : ∀ c ∈ l, c.n.length ≤ 140737488351232 ∧ c.s.len ≤ 140737488351232) :
    Calls Try.prog 20 #[.slice a len cap] w fun e w' => e = .returned (.bool (Ck.good (cps l))) ∧ w = w' := by
  have hle := h.hle
  have HL := Lib.hid h.hlen
  have H := Lib.hid h
  have HD := Lib.hid hd
  clear h hd
  go_enter Try.func20, Try.ntmps20
  go_wp2
  go_loop [3, 4] (fun i _ => ∃ k : Nat, k ≤ len ∧ i = .int .i64 k ∧ Hid (∀ i, i < k → Ck.okAt (cps l) i = true)) (fun i _ => len - (intOf i).toNat)
  case atStart => exact ⟨0, by omega, rfl, Lib.hid (fun i hi => absurd hi (by omega))⟩
  case round =>
    obtain ⟨k, hk, rfl, HK⟩ := hrel
    by_cases hlt : k < len
    · have hkl : k < l.length := by rw [HL.out]; exact hlt
      obtain ⟨b, off, rfl, hb, c0, c1, hs⟩ := H.out.at' k hlt
      obtain ⟨hn1, hn2⟩ := HD.out _ (nck_mem l k hkl)
      have hsl := hs.hlen
      have hsle := hs.hle
      have hok : Ck.okAt (cps l) k = (Ck.named (nck l k).n && (((nck l k).n == Ck.iend) == decide (k + 1 = len)) && !(decide (k + 1 = len) && decide (0 < (nck l k).s.l.length))) := by
        unfold Ck.okAt; rw [cps_nth l k hkl, cps_length, HL.out]; rfl
      have HG := Lib.hid (Ck.good_not (cps l) k (by rw [cps_length]; exact hkl))
      obtain ⟨ok, hokd⟩ : ∃ ok, Ck.okAt (cps l) k = ok := ⟨_, rfl⟩
      rw [hokd] at hok HG
      have HOKD := Lib.hid (show Ck.okAt (cps l) k = ok from hokd)
      clear hokd
      generalize nck l k = c at *
      obtain ⟨nm, sa, sl, sc, sd⟩ := c
      simp only at *
      unfold Sl.val at c1
      simp only at c1
      rw [hsl] at hok
      have HNM := Lib.hid (refNamed_any nm w (by omega))
      have hend : ((str nm).toList == ([73, 69, 78, 68] : List UInt8)) = (nm == Ck.iend) := by rw [str_list]; rfl
      have hlast : ((k : Int) == (len : Int) - 1) = decide (k + 1 = len) := by apply Bool.eq_iff_iff.2; simp; omega
      have HOK := Lib.hid hok
      have HKN : ok = true → Hid (∀ i, i < k + 1 → Ck.okAt (cps l) i = true) := fun h => Lib.hid (fun i hi => by
        by_cases e : i = k
        · rw [e, HOKD.out, h]
        · exact HK.out i (by omega))
      have HKN := Lib.hid HKN
      clear hok hs hsl HK HOKD
      generalize Ck.named nm = b1 at *
      generalize (nm == Ck.iend) = b2 at *
      generalize decide (k + 1 = len) = b3 at *
      obtain ⟨b4, hpos⟩ : ∃ b, decide (0 < sl) = b := ⟨_, rfl⟩
      rw [hpos] at HOK
      cases b1 <;> cases b2 <;> cases b3 <;> cases b4
      all_goals
        go_wp2_with fail
        refine HNM.out.mono ?_
        rintro e w' ⟨rfl, rfl⟩
        go_wp2
        first
        | (go_ret; have hok := HOK.out; simp at hok; rw [HG.out hok]; exact ⟨rfl, rfl⟩)
        | (refine ⟨⟨k + 1, by omega, by go_num, HKN.out HOK.out⟩, ?_⟩
           simp [intOf]; omega)
        | fail
    · have hkl : len = k := by omega
      have HF : Hid (Ck.good (cps l) = decide (0 < (cps l).length)) := Lib.hid (Ck.good_of _ (fun i hi => HK.out i (by rw [cps_length, HL.out] at hi; omega)))
      have HL2 : Hid ((cps l).length = len) := Lib.hid (by rw [cps_length, HL.out])
      clear hkl
      obtain ⟨b4, hb4⟩ : ∃ b, decide (0 < len) = b := ⟨_, rfl⟩
      have H4 := Lib.hid hb4
      go_wp2
      go_ret
      exact ⟨by rw [HF.out, HL2.out, H4.out]; rfl, rfl⟩
/-- A chunk's bytes, in the document's words. -/
def RcPost (w : World) (c : Ck.C) (e : Ending) (w' : World) : Prop :=
  ∃ v, e = .returned v ∧ w'.ownsRow w.heap.size 5 1 v (12 + c.2.length) (bvs (Ck.enc c)) ∧ Below w.heap.size w w'
set_option maxRecDepth 100000 in
set_option maxHeartbeats 4000000 in
theorem refChunk_any (w : World) (nm : List UInt8) (s : Sl) (hs : s.at w) (hn : nm.length = 4) (hl2 : s.len ≤ 1048576) :
    Calls Try.prog 34 #[.agg #[.string (str nm), s.val]] w (RcPost w (nm, s.l)) := by
  obtain ⟨sa, sl, sc, sd⟩ := s
  simp only at hl2
  have hs : Bs w sa sl sc sd := hs
  have hle := hs.hle
  have HL := Lib.hid hs.hlen
  have HN := Lib.hid hn
  have HS := Lib.hid hs
  unfold Sl.val
  clear hs
  go_enter Try.func34, Try.ntmps34
  go_wp2_with fail
  refine (number_nat 4 sl _ (by omega) (by omega) (by omega)).mono ?_
  rintro e w2 ⟨hb2, ⟨hx, _⟩ | ⟨_, v2, rfl, ho2⟩⟩
  · exact absurd hx (by omega)
  have hz2 : w.heap.size < w2.heap.size := by have := hb2.size; simp at this; omega
  have ho2 := own_base (base' := w.heap.size) ho2 (fun g hg => by have := (ho2.lt g hg).1; simp at this; omega)
  have r2 := (hb2.block w.heap.size (by simp)).trans (heap_alloc_last w (.cells #[.string (str nm), .slice sa sl sc] 39))
  have hB2 := below_then (below_alloc w _) hb2
  obtain ⟨b3, c3, w3, kb, hbs3, hzb, hb3lt, hb3, hsp⟩ := conv_string2 (P := Try.prog) w2 9 22 5 nm Try.underlying9 Try.underlying22 Try.underlying5 (by omega)
  have x0 : w2.cell? ⟨w.heap.size, 0, none⟩ = some (.string (str nm)) := by rw [cell_of_row _ _ 0 _ _ (0, 0) r2]; rfl
  have r3 := (hb3.block w.heap.size (by omega)).trans r2
  have x1 : w3.cell? ⟨w.heap.size, 1, none⟩ = some (.slice sa sl sc) := by rw [cell_of_row _ _ 1 _ _ (0, 0) r3]; rfl
  have HO3 := Lib.hid (own_below ho2 hb3)
  have HV2 := Lib.hid (fun g (hg : v2.ownBlock = some g) => (ho2.lt g hg).2)
  have HB3 := Lib.hid (below_then hB2 hb3)
  rw [hn] at kb hbs3 hsp
  have HS3 := Lib.hid hbs3
  have HSP := Lib.hid hsp
  have HD3 := Lib.hid (HS.out.mono HB3.out)
  have hz3 := hb3.size
  obtain ⟨a2, k2, rfl, _⟩ := own_slice ho2
  clear hb2 ho2 r2 hB2 hbs3 hb3 hsp r3 hn
  go_wp2_with (at_builtin; refine wpl_append_fr tyB rfl _ _ rfl HS3.out hb3lt HSP.out HD3.out.src rfl rfl (by omega) (by omega) ?_)
  intro a4 c4 w4 hbs4 hc4
  have HS4 := Lib.hid hbs4
  have HB4 : Hid (Below w.heap.size w w4) := Lib.hid (HB3.out.trans (hc4.below (by omega) (fun k hk => by omega)))
  have HO4 := Lib.hid (hc4.own HO3.out (fun g hg e => by have := HV2.out g hg; omega))
  have hcl : Crc.crc (nm ++ sd) < 4294967296 := by unfold Crc.crc; omega
  have HCE := Lib.hid (show Ck.enc (nm, sd) = Pt.dig 4 sl ++ (nm ++ sd) ++ Pt.dig 4 (Crc.crc (nm ++ sd)) by rw [Ck.enc, HL.out])
  have hz4 := hc4.size
  clear hbs4 hc4 HO3 HV2 HB3 HS3 HSP HD3 kb x0 x1
  go_wp2_with fail
  refine (refCrc_any _ _ _ _ _ HS4.out).mono ?_
  rintro e w' ⟨rfl, rfl⟩
  generalize Crc.crc (nm ++ sd) = cr at *
  go_wp2_with fail
  refine (number_nat 4 cr _ (by omega) (by omega) (by omega)).mono ?_
  rintro e w5 ⟨hb5, ⟨hx, _⟩ | ⟨_, v5, rfl, ho5⟩⟩
  · exact absurd hx (by omega)
  have HS5 := Lib.hid (HS4.out.mono hb5)
  have HO5 := Lib.hid (own_below HO4.out hb5)
  have HP5 := Lib.hid ho5
  have HB5 := Lib.hid (below_then HB4.out hb5)
  have hz5 := hb5.size
  have HV5 : Hid (∀ g, (Value.slice a2 4 k2).ownBlock = some g → g < w4.heap.size) := Lib.hid (fun g hg => (HO4.out.lt g hg).2)
  obtain ⟨a5, k5, rfl, hs5⟩ := own_bs ho5 (by omega)
  have HN5 := Lib.hid hs5
  clear hb5 ho5 HS4 HO4 HB4 hs5
  go_wp2_with (at_builtin; refine wpl_append3 tyB rfl _ _ rfl HO5.out HS5.out.src rfl rfl (by omega) (by omega) (by omega) ?_)
  intro v6 w6 own6 ch6 bk6
  rw [← bvs_append] at own6
  have HO6 := Lib.hid own6
  have HB6 : Hid (Below w.heap.size w w6) := Lib.hid (HB5.out.trans (ch6.below (by omega) (fun k hk => (HO5.out.lt k hk).1)))
  have HP6 := Lib.hid (ch6.own HP5.out (fun g hg e => by have h1 := (HP5.out.lt g hg).1; have h2 := HV5.out g e; omega))
  have hz6 := ch6.size
  obtain ⟨a6, k6, rfl, _⟩ := own_slice own6
  obtain ⟨a7, k7, e7, hs6⟩ := own_bs HP6.out (by omega)
  simp only [Value.slice.injEq, true_and] at e7
  obtain ⟨rfl, rfl⟩ := e7
  have HN6 := Lib.hid hs6
  clear own6 ch6 bk6 HO5 HB5 HP5 HN5 HS5 hs6
  go_wp2_with (at_builtin; refine wpl_append3 tyB rfl _ _ rfl HO6.out HN6.out.src rfl rfl (by omega) (by omega) (by omega) ?_)
  intro v7 w7 own7 ch7 bk7
  rw [← bvs_append] at own7
  have HB7 : Hid (Below w.heap.size w w7) := Lib.hid (HB6.out.trans (ch7.below (by omega) (fun k hk => (HO6.out.lt k hk).1)))
  have HO7 : Hid (w7.ownsRow w.heap.size 5 1 v7 (12 + sl) (bvs (Ck.enc (nm, sd)))) := Lib.hid (by
    have h7 := own7
    rw [show 4 + (4 + sl) + 4 = 12 + sl by omega] at h7
    rw [HCE.out]
    simp only [List.append_assoc] at h7 ⊢
    exact h7)
  clear own7 ch7 bk7 HO6 HB6
  go_wp2_with (fail)
  go_ret
  exact ⟨_, rfl, by rw [HL.out]; exact HO7.out, HB7.out⟩
end Go.Proofs.Ytaedajedjbgnbaa
