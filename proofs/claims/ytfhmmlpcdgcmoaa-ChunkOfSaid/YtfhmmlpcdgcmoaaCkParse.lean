/- chunk.Signed, chunk.Parse: their contracts. -/
import Derived.Test.YtfhmmlpcdgcmoaaCkChunk
import Derived.Lib.SlBytesConst
namespace Go.Proofs.Ytfhmmlpcdgcmoaa
open Go.RowKit

theorem signed_any (a : Option Addr) (len cap : Nat) (l : List UInt8) (w : World) (h : Bs w a len cap l) :
    Calls Try.prog 30 #[.slice a len cap] w fun e w' => e = .returned (.bool (l.take 8 == Ck.sign)) ∧ Below w.heap.size w w' := by
  have kc := fun (w : World) (C : Array Value) (n c : Nat) => Lib.run_convert_bytes_const (P := Try.prog) w 23 5 C n c Try.underlying23 Try.underlying5
  have hb1 := below_alloc w (.cells #[.int .u8 137, .int .u8 80, .int .u8 78, .int .u8 71, .int .u8 13, .int .u8 10, .int .u8 26, .int .u8 10] 5 (8, 9))
  have hsg := bs_new w _ rfl Ck.sign 5 (8, 9) 8 rfl (by omega) _ rfl
  have HL := Lib.hid h.hlen
  by_cases h8 : len < 8
  · have hno : (l.take 8 == Ck.sign) = false := by
      apply beq_false_of_ne
      intro e
      have := congrArg List.length e
      rw [List.length_take, HL.out] at this
      simp [Ck.sign] at this
      omega
    rw [hno]
    have HN := Lib.hid (hasPrefix_no a (some ⟨w.heap.size, 0, none⟩) len cap 8 8 (w.alloc (.cells #[.int .u8 137, .int .u8 80, .int .u8 78, .int .u8 71, .int .u8 13, .int .u8 10, .int .u8 26, .int .u8 10] 5 (8, 9))) h8)
    have HB := Lib.hid hb1
    clear hno h8 h hsg hb1
    go_enter Try.func30, Try.ntmps30
    go_wp2_with fail
    refine HN.out.mono ?_
    rintro e w' ⟨rfl, rfl⟩
    go_wp2
    go_ret
    exact ⟨rfl, HB.out⟩
  · have HN := Lib.hid (hasPrefix_any a (some ⟨w.heap.size, 0, none⟩) len cap 8 8 l Ck.sign _ (h.mono hb1) hsg (by omega))
    have HB := Lib.hid hb1
    clear h8 h hsg hb1
    go_enter Try.func30, Try.ntmps30
    go_wp2_with fail
    refine HN.out.mono ?_
    rintro e w' ⟨rfl, rfl⟩
    go_wp2
    go_ret
    exact ⟨rfl, HB.out⟩

theorem tyK : RowTy Try.prog 22 52 (.agg #[.string { data := #[] }, .slice none 0 0]) 2 40 := ⟨Try.underlying22, by kernel_rfl, rfl, by omega⟩
/-- Chunks of the call's own, each with data of its own, in blocks from B on. -/
structure Lst (w : World) (B : Nat) (v : Value) (ms : List Ckm) : Prop where
  own : w.ownsRow B 52 2 v ms.length (cks ms)
  data : ∀ c ∈ ms, w.ownsRow B 5 1 c.s.val c.s.len (bvs c.s.l)
  dj : ∀ c ∈ ms, ∀ g, c.s.val.ownBlock = some g → v.ownBlock ≠ some g
  sm : ∀ c ∈ ms, c.s.len ≤ 1048576
theorem Lst.ch {w w' : World} {B : Nat} {v : Value} {ms : List Ckm} {T : Nat → Prop} (h : Lst w B v ms) (hc : Ch w w' T) (ht : ∀ k, T k → k < B) : Lst w' B v ms :=
  ⟨hc.own h.own (fun g hg e => by have := (h.own.lt g hg).1; have := ht g e; omega), fun c hm => hc.own (h.data c hm) (fun g hg e => by have := ((h.data c hm).lt g hg).1; have := ht g e; omega), h.dj, h.sm⟩
theorem Lst.below {w w' : World} {B : Nat} {v : Value} {ms : List Ckm} (h : Lst w B v ms) (hb : Below w.heap.size w w') : Lst w' B v ms :=
  h.ch (T := fun _ => False) (Ch.of_below hb) (fun _ h => h.elim)
theorem Lst.push {w w' : World} {B : Nat} {v v' : Value} {ms : List Ckm} {c : Ckm} (h : Lst w B v ms) (hd : w.ownsRow B 5 1 c.s.val c.s.len (bvs c.s.l)) (hdj : ∀ g, c.s.val.ownBlock = some g → v.ownBlock ≠ some g) (hsm : c.s.len ≤ 1048576)
    (ho : w'.ownsRow B 52 2 v' (ms.length + 1) (cks ms ++ cks [c])) (hc : Ch w w' (fun k => v.ownBlock = some k)) (hb : ∀ k, v'.ownBlock = some k → v.ownBlock = some k ∨ w.heap.size ≤ k) : Lst w' B v' (ms ++ [c]) := by
  have hall : ∀ x ∈ ms ++ [c], w.ownsRow B 5 1 x.s.val x.s.len (bvs x.s.l) ∧ ∀ g, x.s.val.ownBlock = some g → v.ownBlock ≠ some g := fun x hx => by
    rcases List.mem_append.1 hx with hx | hx
    · exact ⟨h.data x hx, h.dj x hx⟩
    · obtain rfl : x = c := by simpa using hx
      exact ⟨hd, hdj⟩
  have hsa : ∀ x ∈ ms ++ [c], x.s.len ≤ 1048576 := fun x hx => by
    rcases List.mem_append.1 hx with hx | hx
    · exact h.sm x hx
    · obtain rfl : x = c := by simpa using hx
      exact hsm
  refine ⟨by rw [cks_append, List.length_append]; exact ho, fun x hx => hc.own (hall x hx).1 (fun g hg e => (hall x hx).2 g hg e), fun x hx g hg e => ?_, hsa⟩
  rcases hb g e with h1 | h1
  · exact (hall x hx).2 g hg h1
  · have := ((hall x hx).1.lt g hg).2; omega
theorem Lst.cs {w : World} {B : Nat} {v : Value} {ms : List Ckm} (h : Lst w B v ms) : ∃ a cap, v = .slice a ms.length cap ∧ Cs w a ms.length cap ms :=
  own_cs h.own (fun c hc => by
    obtain ⟨a, k, e, hb⟩ := own_bs (h.data c hc) (by have := h.sm c hc; omega)
    unfold Sl.val at e
    simp only [Value.slice.injEq, true_and] at e
    obtain ⟨rfl, rfl⟩ := e
    exact hb)
/-- What Parse answers. -/
def PaPost (w : World) (l : List UInt8) (e : Ending) (w' : World) : Prop :=
  Below w.heap.size w w' ∧
  ((Ck.parse l).1 = 0 → ∃ v ms, e = .returned (.tuple #[v, .nilIface]) ∧ Lst w' w.heap.size v ms ∧ cps ms = (Ck.parse l).2) ∧
  ((Ck.parse l).1 ≠ 0 → e = .returned (.tuple #[.slice none 0 0, .iface 61 (.int .i64 ((Ck.parse l).1 : Nat))]))
theorem PaPost.err {w : World} {l : List UInt8} {e : Ending} {w' : World} {n : Nat} {m : List Ck.C} (h : Ck.parse l = (n, m)) (hn : n ≠ 0) (he : e = .returned (.tuple #[.slice none 0 0, .iface 61 (.int .i64 (n : Nat))])) (hb : Below w.heap.size w w') : PaPost w l e w' :=
  ⟨hb, fun h0 => absurd (by rw [h] at h0; exact h0) hn, fun _ => by rw [h]; exact he⟩
/-- How many bytes a reader has left. -/
def rdLen (w : World) (p : Nat) : Nat := match w.cell? ⟨p, 0, none⟩ with | some (.slice _ n _) => n | _ => 0
theorem Rdr.rdLen {w : World} {p b : Nat} {l : List UInt8} (h : Rdr w p b l) : rdLen w p = l.length := by
  obtain ⟨off, n, c, hr, hb⟩ := h.at'
  have x0 : w.cell? ⟨p, 0, none⟩ = some (.slice (some ⟨b, off, none⟩) n c) := by rw [cell_of_row _ _ 0 _ _ (0, 0) hr]; rfl
  unfold Go.Proofs.Ytfhmmlpcdgcmoaa.rdLen
  rw [x0]; exact hb.hlen.symm
set_option maxRecDepth 100000 in
set_option maxHeartbeats 4000000 in
theorem parse_any (a : Option Addr) (len cap : Nat) (l : List UInt8) (w : World) (h : Bs w a len cap l) :
    Calls Try.prog 47 #[.slice a len cap] w (PaPost w l) := by
  have HL := Lib.hid h.hlen
  have hle := h.hle
  have H := Lib.hid h
  clear h
  have hne4 : (4 : Nat) ≠ 0 := by decide
  have hne2 : (2 : Nat) ≠ 0 := by decide
  by_cases hbig : 1048576 < len
  · have HO : Hid (Ck.parse l = (4, [])) := Lib.hid (by unfold Ck.parse; rw [if_pos (by rw [HL.out]; exact hbig)])
    have dx : decide (1048576 < (len : Int)) = true := by simp; omega
    clear hbig
    go_enter Try.func47, Try.ntmps47
    go_wp2
    go_ret2
    exact PaPost.err HO.out hne4 rfl (Below.refl _ _)
  have dx : decide (1048576 < (len : Int)) = false := by simp; omega
  have HSG := Lib.hid (signed_any a len cap l w H.out)
  by_cases hsg : l.take 8 = Ck.sign
  rotate_left
  · have HO : Hid (Ck.parse l = (2, [])) := Lib.hid (by unfold Ck.parse; rw [if_neg (by rw [HL.out]; exact hbig), if_pos hsg])
    rw [beq_false_of_ne hsg] at HSG
    clear hbig hsg
    go_enter Try.func47, Try.ntmps47
    go_wp2_with fail
    refine HSG.out.mono ?_
    rintro e w1 ⟨rfl, hb1⟩
    go_wp2
    go_ret2
    exact PaPost.err HO.out hne2 rfl hb1
  have h8 : 8 ≤ len := by
    have := congrArg List.length hsg
    rw [List.length_take, HL.out] at this
    simp [Ck.sign] at this
    omega
  have HO : Hid (Ck.parse l = Ck.all l.length (l.drop 8)) := Lib.hid (by unfold Ck.parse; rw [if_neg (by rw [HL.out]; exact hbig), if_neg (by rw [hsg]; simp)])
  rw [show (l.take 8 == Ck.sign) = true by rw [hsg]; exact beq_self_eq_true _] at HSG
  obtain ⟨b, off, rfl, hbw, _⟩ := H.out.at' 0 (by omega)
  have hc2 := H.out.hcap
  have hmx := H.out.hmax
  clear hsg
  by_cases hc8 : cap = 8
  · subst hc8
    obtain rfl : len = 8 := by omega
    have hd0 : l.drop 8 = [] := List.drop_eq_nil_of_le (by rw [HL.out]; omega)
    have hone : Ck.one [] = (8, ([], []), []) := Ck.one_a (by simp)
    have HO8 : Hid (Ck.parse l = (8, [])) := Lib.hid (by
      rw [HO.out, hd0, HL.out]
      show Ck.all (7 + 1) [] = _
      rw [Ck.all, hone]; rfl)
    go_enter Try.func47, Try.ntmps47
    go_wp2_with fail
    refine HSG.out.mono ?_
    rintro e w1 ⟨rfl, hb1⟩
    have hz1 := hb1.size
    have hb2 := hb1.alloc hz1 (.cells #[.slice (some ⟨b, off, none⟩) 0 0] 101)
    have hd := (H.out.mono hb2).drop 8 (Nat.le_refl _) (some ⟨b, off, none⟩) (fun h => absurd rfl h)
    rw [hd0] at hd
    have HR : Hid (Rdr (w1.alloc (.cells #[.slice (some ⟨b, off, none⟩) 0 0] 101)) w1.heap.size b []) := Lib.hid ⟨by omega, _, _, _, heap_alloc_last w1 _, hd⟩
    have HB2 := Lib.hid hb2
    clear hb1 hb2 hd hd0
    go_wp2
    refine wp_loop_rounds 1 ?_
    rw [rounds_succ]
    go_wp2_with fail
    refine (chunk_any _ _ b [] HR.out (by simp; omega) (by simp)).mono ?_
    rintro e w3 ⟨hc3, _, he⟩
    have he := he (by rw [hone]; decide)
    rw [hone] at he
    subst he
    have HB3 : Hid (Below w.heap.size w w3) := Lib.hid (HB2.out.trans (hc3.below (by simp; omega) (fun k hk => by omega)))
    have HPE := Lib.hid (PaPost.err HO8.out (by decide) (e := .returned (.tuple #[.slice none 0 0, .iface 61 (.int .i64 8)])) rfl (HB3.out.alloc HB3.out.size (.cells #[.string { data := #[] }, .slice none 0 0] 52)))
    clear hone hc3
    go_wp2
    go_ret2
    exact HPE.out
  go_enter Try.func47, Try.ntmps47
  go_wp2_with fail
  refine HSG.out.mono ?_
  rintro e w1 ⟨rfl, hb1⟩
  have hz1 := hb1.size
  have hb2 := hb1.alloc hz1 (.cells #[.slice (some ⟨b, off + 8, none⟩) (len - 8) (cap - 8)] 101)
  have hbb := below_alloc w1 (.cells #[.slice (some ⟨b, off + 8, none⟩) (len - 8) (cap - 8)] 101)
  have HR : Hid (Rdr (w1.alloc (.cells #[.slice (some ⟨b, off + 8, none⟩) (len - 8) (cap - 8)] 101)) w1.heap.size b (l.drop 8)) := Lib.hid ⟨by omega, _, _, _, heap_alloc_last w1 _, (H.out.mono hb2).drop 8 h8 (some ⟨b, off + 8, none⟩) (fun _ => rfl)⟩
  have HB2 := Lib.hid hb2
  have hz2 : (w1.alloc (.cells #[.slice (some ⟨b, off + 8, none⟩) (len - 8) (cap - 8)] 101)).heap.size = w1.heap.size + 1 := by simp
  clear hb1 hb2 hbb
  go_wp2
  revert HR HB2 hz2
  generalize (w1.alloc (.cells #[.slice (some ⟨b, off + 8, none⟩) (len - 8) (cap - 8)] 101)) = w2
  intro HR HB2 hz2
  obtain ⟨P0, hP0⟩ : ∃ P0, w1.heap.size = P0 := ⟨_, rfl⟩
  rw [hP0] at HR hz2 ⊢
  have hpz : w.heap.size ≤ P0 := by omega
  clear hP0
  have hl20 : l.length ≤ 1048576 := by rw [HL.out]; omega
  have HL2 := Lib.hid hl20
  clear hl20
  go_loopw [5, 7] (fun v _ wr => ∃ (ms : List Ckm) (r : List UInt8) (f : Nat), Hid (Lst wr (P0 + 1) v ms) ∧ Hid (Rdr wr P0 b r) ∧ Hid (r.length < f) ∧ Hid (ms.length * 12 + r.length ≤ l.length) ∧ Hid (Ck.join (cps ms) (Ck.all f r) = Ck.parse l) ∧ Hid (Below w.heap.size w wr)) (fun _ _ wr => rdLen wr P0)
  case atStart =>
    refine ⟨[], l.drop 8, l.length, Lib.hid ⟨World.ownsRow_nil _ _ _ _, fun c hc => by simp at hc, fun c hc => by simp at hc, fun c hc => by simp at hc⟩, HR, Lib.hid (by rw [List.length_drop, HL.out]; omega), Lib.hid (by rw [List.length_drop, HL.out]; simp), Lib.hid ?_, HB2⟩
    rw [HO.out]
    exact Ck.join_nil _ _
  case round =>
    obtain ⟨ms, r, f, HLS, HRD, HF, HM, HJ, HB⟩ := hrel
    obtain ⟨f, rfl⟩ : ∃ g, f = g + 1 := ⟨f - 1, by have := HF.out; omega⟩
    have hrl : r.length ≤ 1048576 := by have := HM.out; have := HL2.out; omega
    have hzr := HRD.out.lt
    have hbl : b < wr.heap.size := by have := HB.out.size; omega
    go_wp2_with fail
    refine (chunk_any _ _ b r HRD.out hbl (by omega)).mono ?_
    rintro e w3 ⟨hc3, hok, hbad⟩
    have HB3 : Hid (Below w.heap.size w w3) := Lib.hid (HB.out.trans (hc3.below (by have := HB.out.size; omega) (fun k hk => by omega)))
    by_cases h0 : (Ck.one r).1 = 0
    rotate_left
    · have he := hbad h0
      obtain ⟨n, hn⟩ : ∃ n, (Ck.one r).1 = n := ⟨_, rfl⟩
      rw [hn] at he h0
      subst he
      have HP : Hid (Ck.parse l = (n, [])) := Lib.hid (by rw [← HJ.out, Ck.join_err _ hn h0])
      have HPE := Lib.hid (PaPost.err HP.out h0 (e := .returned (.tuple #[.slice none 0 0, .iface 61 (.int .i64 (n : Nat))])) rfl (HB3.out.alloc HB3.out.size (.cells #[.string { data := #[] }, .slice none 0 0] 52)))
      clear hok hbad hc3 hn h0 HJ HM HLS HRD HF HB
      go_wp2
      go_ret2
      exact HPE.out
    · obtain ⟨v4, n4, rfl, ho4, hr4⟩ := hok h0
      have hlen := Ck.one_len h0
      have HJE := Lib.hid (fun hi hl => (Ck.join_end (cps ms) (f := f) h0 hi hl).symm.trans HJ.out)
      have HJM := Lib.hid (fun hi hl => (Ck.join_more (cps ms) (f := f) h0 hi hl).symm.trans HJ.out)
      have HJS := Lib.hid (fun hi => (Ck.join_step (cps ms) (f := f) h0 hi).symm.trans HJ.out)
      have hz3 := hc3.size
      have HLS3 := Lib.hid (HLS.out.ch hc3 (fun k hk => by omega))
      have HLT3 : Hid (∀ k, u5.ownBlock = some k → k < w3.heap.size) := Lib.hid (fun k hk => (HLS3.out.own.lt k hk).2)
      have HRLEN := Lib.hid HRD.out.rdLen
      clear hok hbad h0
      generalize (Ck.one r).2.2 = rest at *
      generalize hnd : (Ck.one r).2.1 = nd at *
      clear hnd
      obtain ⟨nm, dd⟩ := nd
      simp only at *
      have hn4 : n4 = dd.length := by have := ho4.1; rw [bvs_length] at this; omega
      subst hn4
      have HO4 := Lib.hid ho4
      have ho4 := own_base (base' := P0 + 1) ho4 (fun g hg => by have := (ho4.lt g hg).1; omega)
      obtain ⟨a4, c4, rfl, hbs4⟩ := own_bs ho4 (by omega)
      have hdj4 : ∀ g, (Value.slice a4 dd.length c4).ownBlock = some g → u5.ownBlock ≠ some g := fun g hg e => by
        have h1 := (HO4.out.lt g hg).1
        have h2 := (HLS.out.own.lt g e).2
        omega
      have HD4 := Lib.hid ho4
      have HDJ := Lib.hid hdj4
      have HBS := Lib.hid hbs4
      have hb4 := below_alloc w3 (.cells #[.string (str nm), .slice a4 dd.length c4] 52)
      have hb5 := below_alloc2 w3 (.cells #[.string (str nm), .slice a4 dd.length c4] 52) (.cells #[.string (str nm), .slice a4 dd.length c4] 52)
      have HB5 := Lib.hid (HB3.out.trans (hb5.mono HB3.out.size))
      have HLS5 := Lib.hid (HLS3.out.below hb5)
      have HD5 := Lib.hid (own_below ho4 hb5)
      have hsz1 : (w3.alloc (.cells #[.string (str nm), .slice a4 dd.length c4] 52)).heap.size = w3.heap.size + 1 := by simp
      have hsr := src_ck (w3.alloc (.cells #[.string (str nm), .slice a4 dd.length c4] 52)) ⟨nm, ⟨a4, dd.length, c4, dd⟩⟩ 52
      rw [hsz1] at hsr
      have HSR := Lib.hid hsr
      clear hsz1 hsr
      have HQ5 := Lib.hid (heap_alloc2_old w3 (.cells #[.string (str nm), .slice a4 dd.length c4] 52) (.cells #[.string (str nm), .slice a4 dd.length c4] 52))
      have HR5 := Lib.hid (hr4.below hb5)
      have hml := HM.out
      have hml2 : ms.length ≤ 1048576 := by have := HL2.out; omega
      have hfl := HF.out
      unfold Sl.val at HSR
      simp only at HSR
      have HDL := Lib.hid (show dd.length = dd.length from rfl)
      clear hdj4 hbs4 hb4 hb5 ho4 hr4 HLS HLS3 HB HB3 HRD HD4 HBS HO4 hc3 HM HF HJ
      generalize dd.length = dn at *
      go_wp2_with (at_builtin; refine wpl_append3 tyK rfl _ _ rfl HLS5.out.own HSR.out rfl rfl (by omega) (by omega) (by simp; omega) ?_)
      intro v9 w9 own9 ch9 bk9
      have HLS9 := Lib.hid (HLS5.out.push (c := ⟨nm, ⟨a4, dn, c4, dd⟩⟩) HD5.out HDJ.out (by simp only; omega) own9 ch9 (fun k hk => (bk9 k hk).elim .inl (fun h => .inr (by simp; omega))))
      have HLT := Lib.hid (fun k (hk : u5.ownBlock = some k) => And.intro (HLS5.out.own.lt k hk).1 (show k < w3.heap.size from HLT3.out k hk))
      have HB9 : Hid (Below w.heap.size w w9) := Lib.hid (HB5.out.trans (ch9.below HB5.out.size (fun k hk => by have := (HLT.out k hk).1; omega)))
      have hz5 : ((w3.alloc (.cells #[.string (str nm), .slice a4 dn c4] 52)).alloc (.cells #[.string (str nm), .slice a4 dn c4] 52)).heap.size = w3.heap.size + 2 := by simp
      have hq9 : w9.heap[w3.heap.size]? = some (.cells #[.string (str nm), .slice a4 dn c4] 52 (0, 0)) := (ch9.block w3.heap.size (by rw [hz5]; omega) (fun h => by have := (HLT.out _ h).2; omega)).trans HQ5.out
      have x9 : w9.cell? ⟨w3.heap.size, 0, none⟩ = some (.string (str nm)) := (cell_of_row _ _ 0 _ _ (0, 0) hq9).trans rfl
      have HR9 : Hid (Rdr w9 P0 b rest) := Lib.hid (by
        obtain ⟨o7, n7, c7, hr7, hb7⟩ := HR5.out.at'
        refine ⟨HR5.out.ne, o7, n7, c7, (ch9.block P0 (by rw [hz5]; omega) (fun h => by have := (HLT.out _ h).1; omega)).trans hr7, hb7.chg ch9 (fun b' off' e h => ?_)⟩
        simp only [Option.some.injEq, Addr.mk.injEq, and_true] at e
        have h1 := (HLT.out b' h).1
        have h2 := hbw
        have h3 := e.1
        omega)
      have HM9 : Hid ((ms ++ [(⟨nm, ⟨a4, dn, c4, dd⟩⟩ : Ckm)]).length * 12 + rest.length ≤ l.length) := Lib.hid (by rw [List.length_append]; simp; omega)
      have HC9 : Hid (cps (ms ++ [(⟨nm, ⟨a4, dn, c4, dd⟩⟩ : Ckm)]) = cps ms ++ [(nm, dd)]) := Lib.hid (by simp [cps, Ckm.c])
      have HFL := Lib.hid hfl
      have hie : ((str nm).toList == ([73, 69, 78, 68] : List UInt8)) = (nm == Ck.iend) := by rw [str_list]; rfl
      have HRL := Lib.hid (HRLEN.out)
      obtain ⟨a9, c9, rfl⟩ : ∃ a c, v9 = .slice a (ms.length + 1) c := by
        rcases own_nil_or own9 with ⟨_, h⟩ | ⟨g, c, rfl, _⟩
        · omega
        · exact ⟨_, _, rfl⟩
      clear own9 ch9 bk9 HLS5 HD5 HDJ HQ5 HR5 HB5 hq9 HSR HLT HLT3 hz5
      by_cases hi : nm = Ck.iend
      · have d1 : (nm == Ck.iend) = true := by simpa using hi
        rw [d1] at hie
        obtain ⟨o7, n7, c7, hr7, hb7⟩ := HR9.out.at'
        have y9 : w9.cell? ⟨P0, 0, none⟩ = some (.slice (some ⟨b, o7, none⟩) n7 c7) := (cell_of_row _ _ 0 _ _ (0, 0) hr7).trans rfl
        have hl7 := hb7.hlen
        by_cases h7 : n7 = 0
        · have HP : Hid (Ck.parse l = (0, cps ms ++ [(nm, dd)])) := Lib.hid (HJE.out hi (List.eq_nil_of_length_eq_zero (by rw [hl7, h7]))).symm
          have HPE : Hid (PaPost w l (.returned (.tuple #[.slice a9 (ms.length + 1) c9, .nilIface])) w9) := Lib.hid ⟨HB9.out, fun _ => ⟨_, _, rfl, ⟨own_base HLS9.out.own (fun g hg => by have := (HLS9.out.own.lt g hg).1; omega), fun c hc => own_base (HLS9.out.data c hc) (fun g hg => by have := ((HLS9.out.data c hc).lt g hg).1; omega), HLS9.out.dj, HLS9.out.sm⟩, by rw [HC9.out, HP.out]⟩, fun h => by rw [HP.out] at h; exact absurd rfl h⟩
          subst h7
          clear hr7 hb7 hl7 hi d1 HJE HJM HJS
          go_wp2
          go_ret2
          exact HPE.out
        · have HP : Hid (Ck.parse l = (2, [])) := Lib.hid (HJM.out hi (fun h => h7 (by rw [← hl7, h]; rfl))).symm
          have HPE := Lib.hid (PaPost.err HP.out hne2 (e := .returned (.tuple #[.slice none 0 0, .iface 61 (.int .i64 2)])) rfl HB9.out)
          have d7 : decide (0 < n7) = true := by simp; omega
          clear hr7 hb7 hl7 hi d1 HJE HJM HJS h7
          go_wp2
          go_ret2
          exact HPE.out
      · have d1 : (nm == Ck.iend) = false := by simpa using hi
        rw [d1] at hie
        have HJN := Lib.hid (HJS.out hi)
        clear hi d1 HJE HJM HJS
        go_wp2
        go_roundw
        case rel => exact ⟨_, rest, f, HLS9, HR9, Lib.hid (by have := HFL.out; omega), HM9, Lib.hid (by rw [HC9.out]; exact HJN.out), HB9⟩
        case measure =>
          rw [HR9.out.rdLen, HRL.out]
          omega
end Go.Proofs.Ytfhmmlpcdgcmoaa
