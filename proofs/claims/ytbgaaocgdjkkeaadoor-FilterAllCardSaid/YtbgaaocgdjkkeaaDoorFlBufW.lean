/- bytes.Buffer's WriteByte, Write, Bytes, NewBuffer where there is room: their contracts. -/
import Derived.Test.YtbgaaocgdjkkeaaDoorFlBuf
import Derived.Test.YtbgaaocgdjkkeaaDoorDnB
import Derived.Deep.QuietTactic
import Derived.BigQuiet
namespace Go.Proofs.YtbgaaocgdjkkeaaDoor
open Go.RowKit

theorem Bf.set_take {F : List UInt8} {n : Nat} (x : UInt8) (h : n < F.length) : (F.set n x).take (n + 1) = F.take n ++ [x] := by
  rw [List.take_succ_eq_append_getElem (by simpa using h), List.take_set_of_le (Nat.le_refl n)]
  simp
/-- What a write leaves. -/
def BwPost (w : World) (b q cap n : Nat) (L : List UInt8) (v : Value) (e : Ending) (w' : World) : Prop :=
  e = .returned v ∧ Ch w w' (Bfc b q) ∧ ∃ F, Bf w' b q cap F n ∧ F.take n = L
set_option maxHeartbeats 1000000 in
theorem writeByte_any (b q cap : Nat) (F : List UInt8) (n x : Nat) (w : World) (h : Bf w b q cap F n) (hx : x < 256) (hn : n < cap) :
    Calls Tryd.prog 20 #[.pointer (some ⟨b, 0, none⟩), .int .u8 x] w (BwPost w b q cap (n + 1) (F.take n ++ [UInt8.ofNat x]) .nilIface) := by
  have h1 := h.last
  have h2 := h1.grow 1 hn
  have h3 := h2.put n x hx
  have hch : Ch w ((((w.setCell ⟨b, 2, none⟩ (.int .i8 0)).setCell ⟨b, 0, none⟩ (.slice (some ⟨q, 0, none⟩) (n + 1) cap)).setCell ⟨q, n, none⟩ (.int .u8 (x : Int)))) (Bfc b q) :=
    (((Ch.refl w (Bfc b q)).set (.inl (.inl rfl)) _).set (.inl (.inl rfl)) _).set (.inl (.inr rfl)) _
  have HT := Lib.hid (tryGrow_any b q cap 1 F n _ h1 hn)
  obtain ⟨_, _, c2⟩ := h.cells
  have f2 := h.fz 2
  obtain ⟨k0, _, _⟩ := h2.cells
  have kq := h2.bk.cell n (by rw [h.len]; exact hn)
  have kf := h2.bk.fz n
  have HP : Hid (Ch w ((((w.setCell ⟨b, 2, none⟩ (.int .i8 0)).setCell ⟨b, 0, none⟩ (.slice (some ⟨q, 0, none⟩) (n + 1) cap)).setCell ⟨q, n, none⟩ (.int .u8 (x : Int)))) (Bfc b q) ∧ ∃ F', Bf ((((w.setCell ⟨b, 2, none⟩ (.int .i8 0)).setCell ⟨b, 0, none⟩ (.slice (some ⟨q, 0, none⟩) (n + 1) cap)).setCell ⟨q, n, none⟩ (.int .u8 (x : Int)))) b q cap F' (n + 1) ∧ F'.take (n + 1) = F.take n ++ [UInt8.ofNat x]) :=
    Lib.hid ⟨hch, _, h3, Bf.set_take _ (by rw [h.len]; exact hn)⟩
  have hm := h.max
  have hI1 : (n : Int) < ((n + 1 : Nat) : Int) := by omega
  have hN1 : n < n + 1 := by omega
  generalize gb F n = y at *
  clear h h1 h2 h3 hch
  go_enter Tryd.func20, Tryd.ntmps20
  go_wp2_with fail
  refine HT.out.mono ?_
  rintro e w2 ⟨rfl, rfl⟩
  clear HT
  go_wp2
  go_ret
  exact ⟨rfl, HP.out⟩
/-- Where the source lies elsewhere. -/
theorem write_any (b q cap : Nat) (F : List UInt8) (n d dc : Nat) (sa : Option Addr) (l : List UInt8) (w : World) (h : Bf w b q cap F n) (hd : n + d ≤ cap) (hd1 : 1 ≤ d)
    (hs : Bs w sa d dc l) (hq : ∀ ad, sa = some ad → ad.block ≠ b ∧ ad.block ≠ q) :
    Calls Tryd.prog 21 #[.pointer (some ⟨b, 0, none⟩), .slice sa d dc] w (BwPost w b q cap (n + d) (F.take n ++ l) (.tuple #[.int .i64 d, .nilIface])) := by
  obtain ⟨sb, so, rfl, hsb, _⟩ := hs.at' 0 (by omega)
  obtain ⟨hqb, hqq⟩ := hq _ rfl
  simp only at hqb hqq
  have h1 := h.last
  have h2 := h1.grow d hd
  have hls := hs.hlen
  have hch2 : Ch w ((w.setCell ⟨b, 2, none⟩ (.int .i8 0)).setCell ⟨b, 0, none⟩ (.slice (some ⟨q, 0, none⟩) (n + d) cap)) (Bfc b q) :=
    ((Ch.refl w (Bfc b q)).set (.inl (.inl rfl)) _).set (.inl (.inl rfl)) _
  have HT := Lib.hid (tryGrow_any b q cap d F n _ h1 hd)
  obtain ⟨_, _, c2⟩ := h.cells
  have f2 := h.fz 2
  obtain ⟨k0, _, _⟩ := h2.cells
  have hm := h.max
  have hFl := h.len
  have HB2 := Lib.hid h2
  have HC2 := Lib.hid hch2
  have hsrc : ∀ j v, (bvs l)[j]? = some v → ((w.setCell ⟨b, 2, none⟩ (.int .i8 0)).setCell ⟨b, 0, none⟩ (.slice (some ⟨q, 0, none⟩) (n + d) cap)).cell? ((⟨sb, so, none⟩ : Addr).add j) = some v := fun j v hj => by
    have h9 := hs.news ⟨sb, so, none⟩ rfl j v hj
    rw [Addr.add_mid] at h9 ⊢
    rw [World.cell?_of_block (hch2.block sb hsb (fun e => e.elim hqb hqq))]
    exact h9
  have HSRC := Lib.hid hsrc
  have hnd : (n + d) - n = d := by omega
  have hI1 : (n : Int) ≤ ((n + d : Nat) : Int) := by omega
  have hI2 : n ≤ n + d := by omega
  have hI3 : ¬ cap = n := by omega
  clear h h1 h2 hs hq hsrc hch2
  go_enter Tryd.func21, Tryd.ntmps21
  go_wp2_with fail
  refine HT.out.mono ?_
  rintro e w3 ⟨rfl, rfl⟩
  clear HT c2 f2
  revert HB2 HC2 HSRC k0
  generalize ((w.setCell ⟨b, 2, none⟩ (.int .i8 0)).setCell ⟨b, 0, none⟩ (.slice (some ⟨q, 0, none⟩) (n + d) cap)) = w2
  intro k0 HB2 HC2 HSRC
  have hcp := run_copy_row (P := Tryd.prog) w2 22 22 3 5 q n d (cap - n) ⟨sb, so, none⟩ d dc (bvs F).toArray 5 (bvs l) Tryd.underlying22 (by kernel_rfl) HB2.out.bk (by rw [bvs_length, hls]; exact (Nat.min_self d).symm) HSRC.out (by simp [bvs_length]; omega) (bvs_one l)
  have e1 : (bvs F).toArray.toList.take n ++ bvs l ++ (bvs F).toArray.toList.drop (n + (bvs l).length) = bvs (F.take n ++ (l ++ F.drop (n + d))) := by
    rw [bvs_append, bvs_append, bvs_length, hls, List.append_assoc]
    simp [bvs]
  have e2 : goInt (bvs l).length = .int .i64 d := by rw [bvs_length, hls]; rfl
  rw [e1, e2] at hcp
  have hrow : (w2.setRow q (bvs (F.take n ++ (l ++ F.drop (n + d)))).toArray).heap[q]? = some (.cells (bvs (F.take n ++ (l ++ F.drop (n + d)))).toArray 5 (0, 0)) := setRow_heap _ _ _ _ _ _ HB2.out.bk
  have HBF : Hid (Ch w (w2.setRow q (bvs (F.take n ++ (l ++ F.drop (n + d)))).toArray) (Bfc b q) ∧ ∃ F', Bf (w2.setRow q (bvs (F.take n ++ (l ++ F.drop (n + d)))).toArray) b q cap F' (n + d) ∧ F'.take (n + d) = F.take n ++ l) := Lib.hid ⟨HC2.out.trans (U := fun k => k = q) ⟨rfl, rfl, rfl, by simp [World.setRow], fun k _ hk => setRow_other w2 q k _ hk⟩ (fun k hk => .inl (.inr hk)), F.take n ++ (l ++ F.drop (n + d)),
    ⟨(setRow_other w2 q b _ HB2.out.ne).trans HB2.out.row, HB2.out.ne, hrow, by simp; omega, hd, hm⟩, by
      rw [← List.append_assoc, List.take_append_of_le_length (by simp; omega), List.take_of_length_le (by simp; omega)]⟩
  clear hrow e1 e2 HB2 HC2 HSRC
  generalize (w2.setRow q (bvs (F.take n ++ (l ++ F.drop (n + d)))).toArray) = w4 at *
  go_wp2
  go_ret2
  exact ⟨rfl, HBF.out⟩
theorem bufBytes_any (b q cap : Nat) (F : List UInt8) (n : Nat) (w : World) (h : Bf w b q cap F n) :
    Calls Tryd.prog 22 #[.pointer (some ⟨b, 0, none⟩)] w fun e w' => e = .returned (.slice (some ⟨q, 0, none⟩) n cap) ∧ Below w.heap.size w w' := by
  obtain ⟨c0, c1, _⟩ := h.cells
  clear h
  go_enter Tryd.func22, Tryd.ntmps22
  go_wp2_with fail
  go_quiet (fail)
  all_goals
    go_wp2
    go_ret
    exact ⟨by simp, dn_below _ _⟩
theorem newBuffer_any (q n cap : Nat) (w : World) :
    Calls Tryd.prog 17 #[.slice (some ⟨q, 0, none⟩) n cap] w fun e w' => e = .returned (.pointer (some ⟨w.heap.size, 0, none⟩)) ∧ w' = w.alloc (.cells #[.slice (some ⟨q, 0, none⟩) n cap, .int .i64 0, .int .i8 0] 61) := by
  go_enter Tryd.func17, Tryd.ntmps17
  go_wp2
  go_ret
  exact ⟨rfl, rfl⟩
end Go.Proofs.YtbgaaocgdjkkeaaDoor
