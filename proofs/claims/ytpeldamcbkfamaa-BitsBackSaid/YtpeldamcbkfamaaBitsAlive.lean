/- burnishlaw03.alive: the chapter's example holds. -/
import Derived.Test.YtpeldamcbkfamaaBitsBytes
namespace Go.Proofs.Ytpeldamcbkfamaa
open Go.RowKit

/-- Two writers, apart. -/
structure Two (w wx : World) (ga gb : Nat) (va vb : Value) (la lb : List Bool) : Prop where
  a : Wr wx w.heap.size ga false va la
  b : Wr wx w.heap.size gb true vb lb
  ne : ga ≠ gb
  n1 : va.ownBlock ≠ some gb
  n2 : vb.ownBlock ≠ some ga
  n3 : ∀ k, va.ownBlock = some k → vb.ownBlock ≠ some k
  bel : Below w.heap.size w wx
theorem Wr.wt_ge {w : World} {B g : Nat} {h : Bool} {v : Value} {l : List Bool} (H : Wr w B g h v l) {k : Nat} (hk : Wt g v k) : B ≤ k :=
  hk.elim (fun e => e ▸ H.hg) (fun e => (H.own.lt k e).1)
theorem Two.stepA {w wx wy : World} {ga gb : Nat} {va vb : Value} {la lb l2 : List Bool} {e : Ending} (H : Two w wx ga gb va vb la lb) (hp : PutWPost wx w.heap.size ga false va l2 e wy) :
    ∃ va', e = .returned .nilIface ∧ Two w wy ga gb va' vb l2 lb := by
  obtain ⟨he, va', h1, h2, h3⟩ := hp
  have hlt := H.b.lt
  refine ⟨va', he, h1, H.b.kept h2 (fun hk => ?_) (fun k hk hw => ?_), H.ne, fun hk => ?_, H.n2, fun k hk hb => ?_, (H.bel).trans (h2.below H.bel.size (fun k hk => H.a.wt_ge hk))⟩
  · exact hk.elim (fun e => H.ne e.symm) H.n1
  · exact hw.elim (fun e => H.n2 (e ▸ hk)) (fun e => H.n3 k e hk)
  · exact (h3 gb hk).elim H.n1 (fun h => by omega)
  · exact (h3 k hk).elim (fun e => H.n3 k e hb) (fun h => by have := (H.b.own.lt k hb).2; omega)
theorem Two.stepB {w wx wy : World} {ga gb : Nat} {va vb : Value} {la lb l2 : List Bool} {e : Ending} (H : Two w wx ga gb va vb la lb) (hp : PutWPost wx w.heap.size gb true vb l2 e wy) :
    ∃ vb', e = .returned .nilIface ∧ Two w wy ga gb va vb' la l2 := by
  obtain ⟨he, vb', h1, h2, h3⟩ := hp
  have hlt := H.a.lt
  refine ⟨vb', he, H.a.kept h2 (fun hk => ?_) (fun k hk hw => ?_), h1, H.ne, H.n1, fun hk => ?_, fun k hk hb => ?_, (H.bel).trans (h2.below H.bel.size (fun k hk => H.b.wt_ge hk))⟩
  · exact hk.elim (fun e => H.ne e) H.n2
  · exact hw.elim (fun e => H.n1 (e ▸ hk)) (fun e => H.n3 k hk e)
  · exact (h3 ga hk).elim H.n2 (fun h => by omega)
  · exact (h3 k hb).elim (fun e => H.n3 k hk e) (fun h => by have := (H.a.own.lt k hk).2; omega)
theorem alive_low : Bt.packs false false ([] ++ Bt.dg false 5 3 ++ Bt.dg false 1 1) = [13] := by decide
theorem alive_high : Bt.packs true true ([] ++ Bt.dg true 5 3 ++ Bt.dg true 1 1) = [191] := by decide
set_option maxHeartbeats 1000000 in
theorem alive_any (w : World) : Calls Try.prog 9 #[] w fun e w' => e = .returned (.bool true) ∧ Below w.heap.size w w' := by
  go_enter Try.func9, Try.ntmps9
  go_wp2_with fail
  refine (newWriter_any false w.heap.size _ (Nat.le_refl _)).mono ?_
  rintro e w1 ⟨rfl, ha, hb1⟩
  have hz1 : w.heap.size < w1.heap.size := ha.lt
  have HA := Lib.hid ha
  clear ha
  go_wp2_with fail
  refine (newWriter_any true w.heap.size _ (Nat.le_of_lt hz1)).mono ?_
  rintro e w2 ⟨rfl, hb, hb2⟩
  have HT := Lib.hid (show Two w w2 w.heap.size w1.heap.size (.slice none 0 0) (.slice none 0 0) [] [] from
    ⟨HA.out.mono hb2, hb, by omega, by simp [Value.ownBlock], by simp [Value.ownBlock], fun k hk => by simp [Value.ownBlock] at hk, hb1.trans (hb2.mono (by omega))⟩)
  generalize w1.heap.size = gb at *
  clear HA hb hb1 hb2
  go_wp2_with fail
  refine (putw_ok _ w.heap.size _ false _ [] 5 3 HT.out.a HT.out.bel.size (by omega) (by omega) (by simp)).mono ?_
  intro e w3 hp
  obtain ⟨va3, rfl, ht3⟩ := HT.out.stepA hp
  have HT3 := Lib.hid ht3
  clear HT hp ht3
  go_wp2_with fail
  refine (putw_ok _ w.heap.size _ false _ _ 1 1 HT3.out.a HT3.out.bel.size (by omega) (by omega) (by simp [Bt.dg_length])).mono ?_
  intro e w4 hp
  obtain ⟨va4, rfl, ht4⟩ := HT3.out.stepA hp
  have HT4 := Lib.hid ht4
  clear HT3 hp ht4
  go_wp2_with fail
  refine (putw_ok _ w.heap.size _ true _ [] 5 3 HT4.out.b HT4.out.bel.size (by omega) (by omega) (by simp)).mono ?_
  intro e w5 hp
  obtain ⟨vb5, rfl, ht5⟩ := HT4.out.stepB hp
  have HT5 := Lib.hid ht5
  clear HT4 hp ht5
  go_wp2_with fail
  refine (putw_ok _ w.heap.size _ true _ _ 1 1 HT5.out.b HT5.out.bel.size (by omega) (by omega) (by simp [Bt.dg_length])).mono ?_
  intro e w6 hp
  obtain ⟨vb6, rfl, ht6⟩ := HT5.out.stepB hp
  have HT6 := Lib.hid ht6
  clear HT5 hp ht6
  go_wp2_with fail
  refine (bytes_any _ w.heap.size _ false _ _ HT6.out.a (by simp [Bt.dg_length])).mono ?_
  rintro e w7 ⟨x, rfl, ox, hb7⟩
  have HB := Lib.hid (HT6.out.b.mono hb7)
  have hbel := HT6.out.bel.trans (hb7.mono HT6.out.bel.size)
  rw [alive_low] at ox
  have OX := Lib.hid ox
  clear HT6 hb7 ox
  go_wp2_with fail
  refine (bytes_any _ w.heap.size _ true _ _ HB.out (by simp [Bt.dg_length])).mono ?_
  rintro e w8 ⟨y, rfl, oy, hb8⟩
  rw [alive_high] at oy
  have hbel2 := hbel.trans (hb8.mono hbel.size)
  obtain ⟨xa, xc, rfl, hxs⟩ := own_bs (own_below OX.out hb8) (by simp [Bt.dg_length])
  obtain ⟨ya, yc, rfl, hys⟩ := own_bs oy (by simp [Bt.dg_length])
  have e1 : (([] ++ Bt.dg false 5 3 ++ Bt.dg false 1 1).length + 7) / 8 = 1 := by decide
  have e2 : (([] ++ Bt.dg true 5 3 ++ Bt.dg true 1 1).length + 7) / 8 = 1 := by decide
  rw [e1] at hxs ⊢
  rw [e2] at hys ⊢
  obtain ⟨bx, offx, rfl, _, cx⟩ := hxs.at' 0 (by omega)
  obtain ⟨by', offy, rfl, _, cy⟩ := hys.at' 0 (by omega)
  have hxc := hxs.hle
  have hyc := hys.hle
  have cx' : w8.cell? ⟨bx, offx, none⟩ = some (.int .u8 13) := cx
  have cy' : w8.cell? ⟨by', offy, none⟩ = some (.int .u8 191) := cy
  clear HB OX hbel hb8 oy hxs hys cx cy e1 e2
  go_wp2
  go_ret
  exact ⟨rfl, hbel2⟩
end Go.Proofs.Ytpeldamcbkfamaa
