/- (*Book).Read: its contract. (*Book).inOrder: the iterator's contract. -/
import Derived.Test.YtfgpmccmalddjaaDoorZ10
import Derived.Deep.LoopGhost
import Derived.Deep.QuietTactic
import Derived.BigQuiet
import Derived.RangeFuncNested
import Derived.RangeFuncBound
import Derived.RangeFuncCalls
import Derived.RangeFuncLeaves
import Derived.RangeFuncFrom
import Derived.Shelf.Abstract
import Derived.Shelf.RegionOpen
import Derived.OwnWalkIn
import Derived.TacticsInMore
import Derived.LoopNIn
import Derived.LoopIn
import Derived.RegionIn
set_option linter.unusedSimpArgs false
set_option linter.unusedVariables false
section
namespace Go.Proofs.YtfgpmccmalddjaaDoor
open Go.RowKit

namespace Bk
def errV (k : Int) : Value := if k = 0 then .nilIface else .iface 39 (.int .i64 k)
def ReadPost (w : World) (B gr : Nat) (h : Bool) (v : Value) (l : List UInt8) (p : Nat) (R : Nat → List Nat) (e : Ending) (w' : World) : Prop :=
  e = .returned (.tuple #[.int .i64 (Cn.rd (ks R) ((Bt.rbits h l).drop p)).1, errV (Cn.rd (ks R) ((Bt.rbits h l).drop p)).2.2]) ∧ Rd w' B gr h v l (p + (Cn.rd (ks R) ((Bt.rbits h l).drop p)).2.1) ∧ Ch w w' (fun k => k = gr)
/-- What reading comes to from n bits on. -/
def rdF (R : Nat → List Nat) (u : List Bool) (n : Nat) : Int × Nat × Int := if n = 0 then Cn.rd (ks R) u else Cn.rdAt (ks R) u (17 - n) n
theorem rdF_hit (R : Nat → List Nat) (h : Good R) (u : List Bool) (n : Nat) (hn : n ≤ 16) (hu : n ≤ u.length) (hf : fst R n ≤ Bt.numH (u.take n)) (hi : Bt.numH (u.take n) - fst R n < (R n).length) : rdF R u n = ((((R n).getD (Bt.numH (u.take n) - fst R n) 0 : Nat) : Int), n, 0) := by
  have h0 : n ≠ 0 := fun e => by subst e; rw [h.r0] at hi; simp at hi
  unfold rdF
  rw [if_neg h0]
  exact rdAt_hit R h u n _ hn hi hu (by omega)
theorem rdF_bad (R : Nat → List Nat) (h : Good R) (u : List Bool) (n : Nat) (hn : n ≤ 16) (hu : n ≤ u.length) (hc : fst R n + (R n).length ≤ Bt.numH (u.take n)) (he : nx R 17 ≤ Bt.numH (u.take n) * 2 ^ (16 - n)) : rdF R u n = (0, n, 2) := by
  unfold rdF
  by_cases h0 : n = 0
  · subst h0
    rw [if_pos rfl]
    exact rd_empty R u (by simpa [Bt.numH] using he)
  · rw [if_neg h0]; exact rdAt_bad R h u n hn hu hc he
theorem rdF_more (R : Nat → List Nat) (h : Good R) (u : List Bool) (n : Nat) (hn : n ≤ 16) (hu : n ≤ u.length) (hc : fst R n + (R n).length ≤ Bt.numH (u.take n)) (he : Bt.numH (u.take n) * 2 ^ (16 - n) < nx R 17) : n < 16 ∧ rdF R u n = rdF R u (n + 1) := by
  unfold rdF
  by_cases h0 : n = 0
  · subst h0
    rw [if_pos rfl, if_neg (by omega)]
    exact ⟨by omega, rd_some R h u (by simpa [Bt.numH] using he)⟩
  · rw [if_neg h0, if_neg (by omega)]; exact rdAt_more R h u n hn hu hc he
theorem rdF_end (R : Nat → List Nat) (u : List Bool) (n : Nat) (hn : n < 16) (hu : u.length ≤ n) : rdF R u (n + 1) = (0, u.length, 8) := by
  unfold rdF
  rw [if_neg (by omega)]
  exact rdAt_end R u (n + 1) (by omega) (by omega)
theorem numH_bit (u : List Bool) (n : Nat) (h : n < u.length) : Bt.numH (u.take (n + 1)) = 2 * Bt.numH (u.take n) + (u.getD n false).toNat := by
  rw [List.take_succ_eq_append_getElem h, Bt.numH_snoc]; simp [List.getD, List.getElem?_eq_getElem h]
theorem take_bit (h : Bool) (u : List Bool) (n : Nat) (hn : n < u.length) : Bt.num h ((u.drop n).take 1) = (u.getD n false).toNat := by
  have e : (u.drop n).take 1 = [u.getD n false] := by
    rw [List.drop_eq_getElem_cons hn, List.take_succ_cons, List.take_zero]; simp [List.getD, List.getElem?_eq_getElem hn]
  rw [e]
  cases h <;> simp [Bt.num, Bt.numH]
theorem or_bit2 (a : Nat) (b : Bool) (ha : a < 4294967296) : bits .or .i64 ((a : Int) * 2) ((b.toNat : Nat) : Int) = ((2 * a + b.toNat : Nat) : Int) := by
  have hb : b.toNat ≤ 1 := Bool.toNat_le b
  rw [show (a : Int) * 2 = ((a * 2 : Nat) : Int) by omega, i64_or_nat _ _ (by omega) (by omega)]
  congr 1
  have h1 := nat_join 1 (a * 2) b.toNat (by omega) (by omega)
  omega
theorem rd_read_nil (w : World) (r : Value) (hr : r = .pointer none ∨ ∃ g, r = .pointer (some ⟨g, 0, none⟩)) : Calls Tryd.prog 95 #[.pointer none, r] w fun e w' => e = .returned (.tuple #[.int .i64 0, .iface 39 (.int .i64 2)]) ∧ w = w' := by
  go_enter Tryd.func95, Tryd.ntmps95
  go_wp2
  go_ret2
  exact ⟨rfl, rfl⟩
set_option maxRecDepth 100000 in
set_option maxHeartbeats 4000000 in
theorem read_core (w : World) (g : Nat) (R : Nat → List Nat) (ws : List (Nat × Nat)) (B gr : Nat) (hb : ∀ wr, Ch w wr (fun k => k = gr) → ∃ (B2 : Nat) (fs : Nat → Int) (vs : Nat → Value) (wv : Value), (∀ n, n < 17 → fs n = (fst R n : Nat)) ∧ NB wr B2 g fs vs wv (nx R 17 : Nat) R ws) (hG : Good R) (h : Bool) (v : Value) (l : List UInt8) (p : Nat) (H : Rd w B gr h v l p) (hB : B ≤ w.heap.size) (hp : p ≤ 8 * l.length) (hl : l.length ≤ 1000000000) :
    Calls Tryd.prog 95 #[.pointer (some ⟨g, 0, none⟩), .pointer (some ⟨gr, 0, none⟩)] w (ReadPost w B gr h v l p R) := by
  have hul : ((Bt.rbits h l).drop p).length = 8 * l.length - p := by rw [List.length_drop, Bt.rbits_length]
  have HUD : Hid (∀ n, (Bt.rbits h l).drop (p + n) = ((Bt.rbits h l).drop p).drop n) := Lib.hid (fun n => by rw [List.drop_drop])
  have HPOST : Hid (∀ e w', ReadPost w B gr h v l p R e w' ↔ e = .returned (.tuple #[.int .i64 (rdF R ((Bt.rbits h l).drop p) 0).1, errV (rdF R ((Bt.rbits h l).drop p) 0).2.2]) ∧ Rd w' B gr h v l (p + (rdF R ((Bt.rbits h l).drop p) 0).2.1) ∧ Ch w w' (fun k => k = gr)) := Lib.hid (fun e w' => by
    unfold ReadPost rdF; rw [if_pos rfl])
  have HBK := Lib.hid hb
  have H0 := Lib.hid H
  have HUL := Lib.hid hul
  have HL := Lib.hid hl
  clear hb H hul hl
  generalize hu : (Bt.rbits h l).drop p = u at *
  have HU := Lib.hid hu
  clear hu
  go_enter Tryd.func95, Tryd.ntmps95
  go_wp2
  go_loopg [6, 15] 17 (fun gk cv iv wr => ∃ n : Nat, n ≤ 16 ∧ gk = 17 - n ∧ iv = .int .i64 n ∧ cv = .int .i64 (Bt.numH (u.take n) : Nat) ∧ n ≤ u.length ∧ fst R n ≤ Bt.numH (u.take n) ∧ Hid (Rd wr B gr h v l (p + n) ∧ Ch w wr (fun k => k = gr)) ∧ Hid (rdF R u 0 = rdF R u n))
  case atStart => exact ⟨0, by omega, by omega, rfl, by simp [Bt.numH], by omega, by simp [fst, nx], Lib.hid ⟨H0.out, Ch.refl _ _⟩, Lib.hid rfl⟩
  case round =>
    obtain ⟨n, hn, rfl, rfl, rfl, hnu, hfn, HR, HF⟩ := hrel
    obtain ⟨B2, fs, vs, wv, hfs, hnb⟩ := HBK.out wr HR.out.2
    have hlt : n < 17 := by omega
    have cv : wr.cell? ⟨g, n * 2 + 1, none⟩ = some (vs n) := by rw [Nat.mul_comm]; exact hnb.cV n hlt
    have cf : wr.cell? ⟨g, n * 2, none⟩ = some (.int .i64 (fst R n : Nat)) := by rw [Nat.mul_comm, ← hfs n hlt]; exact hnb.cF n hlt
    have ce := hnb.cE
    obtain ⟨ra, rc, hv, hat⟩ : ∃ ra rc, vs n = .slice ra (R n).length rc ∧ ∀ i, i < (R n).length → ∃ rb, ra = some ⟨rb, 0, none⟩ ∧ wr.cell? ⟨rb, i, none⟩ = some (.int .i64 ((R n).getD i 0 : Nat)) := by
      have hown := hnb.rows n hlt
      rcases own_nil_or hown with ⟨h1, h2⟩ | ⟨rb, rc, h1, _⟩
      · exact ⟨none, 0, by rw [h1, h2], fun i hi => by omega⟩
      · refine ⟨_, rc, h1, fun i hi => ⟨rb, rfl, ?_⟩⟩
        rw [h1] at hown
        rw [hown.cellAt i (by omega), ivs_get _ _ (by rw [sy_length]; exact hi), sy_getD]
    rw [hv] at cv
    have hclt : Bt.numH (u.take n) < 65536 := by
      have h1 := Bt.num_lt true (u.take n)
      rw [List.length_take, Nat.min_eq_left hnu] at h1
      have h2 := Bt.pow_le n 16 hn
      simp only [Nat.reducePow] at h2
      have h3 : Bt.num true (u.take n) = Bt.numH (u.take n) := rfl
      omega
    have hel : nx R 17 ≤ 65536 := by rw [end_val]; exact hG.le
    have hrl : (R n).length ≤ 65536 := by
      have h1 := code_lt R hG n (R n).length hn (Nat.le_refl _)
      have h2 := Bt.pow_le n 16 hn
      simp only [Nat.reducePow] at h2
      omega
    clear hnb hfs hv
    by_cases hhit : Bt.numH (u.take n) - fst R n < (R n).length
    · obtain ⟨rb, rfl, c1⟩ := hat _ hhit
      have hr := rdF_hit R hG u n hn hnu hfn hhit
      rw [← HF.out] at hr
      have HP : Hid (ReadPost w B gr h v l p R (.returned (.tuple #[.int .i64 ((R n).getD (Bt.numH (u.take n) - fst R n) 0 : Nat), .nilIface])) wr) := Lib.hid ((HPOST.out _ _).2 (by rw [hr]; exact ⟨rfl, HR.out.1, HR.out.2⟩))
      clear hr hat HPOST HF
      generalize (R n).getD (Bt.numH (u.take n) - fst R n) 0 = s at *
      generalize hcc : Bt.numH (u.take n) = c at *
      clear hcc
      generalize fst R n = f at *
      obtain ⟨d, rfl⟩ : ∃ d, c = f + d := ⟨c - f, by omega⟩
      have e1 : f + d - f = d := by omega
      rw [e1] at c1 hhit
      clear e1
      go_wp2
      go_ret2
      exact HP.out
    · have hc : fst R n + (R n).length ≤ Bt.numH (u.take n) := by omega
      have hpp := two_pos (16 - n)
      have hp16 := Bt.pow_le (16 - n) 16 (by omega)
      simp only [Nat.reducePow] at hp16
      have hmul : Bt.numH (u.take n) * 2 ^ (16 - n) ≤ 65536 * 65536 := Nat.mul_le_mul (by omega) hp16
      have hsh : ∃ x : Nat, Bt.numH (u.take n) * 2 ^ (16 - n) = x := ⟨_, rfl⟩
      obtain ⟨x, hx⟩ := hsh
      have hsh : wrap64 (((Bt.numH (u.take n) : Nat) : Int) * 2 ^ (16 - n)) = (x : Int) := by
        have e : ((Bt.numH (u.take n) : Nat) : Int) * 2 ^ (16 - n) = (x : Int) := by rw [Bt.pow_cast, ← hx, Int.natCast_mul]
        rw [e]
        rw [hx] at hmul
        exact IntWalk.wrap64_in _ ⟨by omega, by omega⟩
      by_cases hend : nx R 17 ≤ x
      · have hr := rdF_bad R hG u n hn hnu hc (by rw [hx]; exact hend)
        rw [← HF.out] at hr
        have HP : Hid (∀ d, ReadPost w B gr h v l p R (.returned (.tuple #[.int .i64 0, .iface 39 (.int .i64 2)])) (wr.drewN d)) := Lib.hid (fun d => (HPOST.out _ _).2 (by rw [hr]; exact ⟨rfl, HR.out.1.mono (drewN_below _ _), HR.out.2.trans (Ch.of_below (T := fun _ => False) (drewN_below wr d)) (fun _ h => h.elim)⟩))
        clear hr hat HPOST HF hpp hp16 hmul hx
        have dd : decide (((nx R 17 : Nat) : Int) ≤ wrap64 (((Bt.numH (u.take n) : Nat) : Int) * 2 ^ (16 - n))) = true := by rw [hsh]; simpa using hend
        clear hsh
        generalize Bt.numH (u.take n) = c at *
        generalize fst R n = f at *
        generalize (R n).length = rl at *
        generalize nx R 17 = en at *
        go_wp2
        go_quiet (fail)
        go_wp2
        go_ret2
        exact HP.out _
      · have dd : decide (((nx R 17 : Nat) : Int) ≤ wrap64 (((Bt.numH (u.take n) : Nat) : Int) * 2 ^ (16 - n))) = false := by rw [hsh]; exact decide_eq_false (fun h => hend (Int.ofNat_le.1 h))
        obtain ⟨hn16, hr⟩ := rdF_more R hG u n hn hnu hc (by rw [hx]; exact Nat.lt_of_not_le hend)
        clear hpp hp16 hmul hx hsh hend
        have hfn2 : fst R (n + 1) ≤ 2 * Bt.numH (u.take n) := by
          have e1 : fst R (n + 1) = 2 * nx R (n + 1) := rfl
          have e2 := nx_succ R n
          omega
        have HMR := Lib.hid (HF.out.trans hr)
        have hlen : 8 * l.length - (p + n) = u.length - n := by rw [HUL.out]; omega
        by_cases hend2 : u.length = n
        · have hr2 := rdF_end R u n hn16 (by omega)
          rw [← HMR.out] at hr2
          have HP : Hid (∀ d w', Below (wr.drewN d).heap.size (wr.drewN d) w' → ReadPost w B gr h v l p R (.returned (.tuple #[.int .i64 0, .iface 39 (.int .i64 8)])) w') := Lib.hid (fun d w' hb => (HPOST.out _ _).2 (by
            rw [hr2, hend2]
            have hb2 : Below wr.heap.size wr w' := (drewN_below wr d).trans hb
            exact ⟨rfl, HR.out.1.mono hb2, HR.out.2.trans (Ch.of_below (T := fun _ => False) hb2) (fun _ h => h.elim)⟩))
          have HSH := Lib.hid (fun d => take_short (wr.drewN d) B gr h v l (p + n) 1 (HR.out.1.mono (drewN_below _ _)) (by have := HUL.out; omega) (by have := HL.out; omega) (by omega) (by omega))
          clear hr hr2 hat HPOST HF HMR hlen
          generalize Bt.numH (u.take n) = c at *
          generalize fst R n = f at *
          generalize (R n).length = rl at *
          generalize nx R 17 = en at *
          go_wp2
          go_quiet (fail)
          go_wp2_with fail
          refine (HSH.out _).mono ?_
          rintro e w' ⟨rfl, hb⟩
          have HPP := Lib.hid (HP.out _ _ hb)
          clear hb
          go_wp2
          go_ret2
          exact HPP.out
        · have hnl : n < u.length := by omega
          have hbit := numH_bit u n hnl
          have HTK := Lib.hid (fun d => takeR_ok (wr.drewN d) B gr h v l (p + n) 1 (HR.out.1.mono (drewN_below _ _)) (by have := HR.out.2.size; show B ≤ wr.heap.size; omega) (by have := HL.out; omega) (by omega) (by have := HUL.out; omega))
          have HBV : Hid (Bt.num h (((Bt.rbits h l).drop (p + n)).take 1) = (u.getD n false).toNat) := Lib.hid (by rw [HUD.out n]; exact take_bit h u n hnl)
          have HC2 : Hid (∀ d w', Ch (wr.drewN d) w' (fun k => k = gr) → Ch w w' (fun k => k = gr)) := Lib.hid (fun d w' hc =>
            (HR.out.2.trans (Ch.of_below (T := fun _ => False) (drewN_below wr d)) (fun _ h => h.elim)).trans hc (fun _ h => .inl h))
          have HOR := Lib.hid (or_bit2 (Bt.numH (u.take n)) (u.getD n false) (by omega))
          have HBIT := Lib.hid hbit
          have hfin : fst R (n + 1) ≤ 2 * Bt.numH (u.take n) + (u.getD n false).toNat := by omega
          have HFIN := Lib.hid hfin
          clear hr hat HPOST HF hlen hbit hfin hfn2
          generalize Bt.numH (u.take n) = c at *
          generalize fst R n = f at *
          generalize (R n).length = rl at *
          generalize nx R 17 = en at *
          generalize (u.getD n false) = bt at *
          go_wp2
          go_quiet (fail)
          go_wp2_with fail
          refine (HTK.out _).mono ?_
          rintro e w' ⟨rfl, hrd, hch⟩
          rw [HBV.out]
          have HRD := Lib.hid (And.intro hrd (HC2.out _ _ hch))
          clear hrd hch
          have hbt : bt.toNat ≤ 1 := Bool.toNat_le bt
          go_wp2
          go_roundg (17 - (n + 1))
          case measure => omega
          case rel => exact ⟨n + 1, by omega, rfl, by go_num, int_eq (by rw [HBIT.out]; exact HOR.out), by omega, by rw [HBIT.out]; exact HFIN.out, HRD, HMR⟩
theorem read_any (w : World) (S g : Nat) (R : Nat → List Nat) (ws : List (Nat × Nat)) (hb : Book w S g R ws) (hG : Good R) (B gr : Nat) (h : Bool) (v : Value) (l : List UInt8) (p : Nat) (H : Rd w B gr h v l p) (hB : B ≤ w.heap.size) (hS : S ≤ gr) (hp : p ≤ 8 * l.length) (hl : l.length ≤ 1000000000) :
    Calls Tryd.prog 95 #[.pointer (some ⟨g, 0, none⟩), .pointer (some ⟨gr, 0, none⟩)] w (ReadPost w B gr h v l p R) :=
  read_core w g R ws B gr (fun _ c => (hb.below (c.below hb.size (fun k hk => hk ▸ hS))).nb) hG h v l p H hB hp hl
/-- A book whose blocks are no older than a base. -/
def BkAt (w : World) (S g : Nat) (R : Nat → List Nat) (ws : List (Nat × Nat)) : Prop :=
  ∃ (fs : Nat → Int) (vs : Nat → Value) (wv : Value), (∀ n, n < 17 → fs n = (fst R n : Nat)) ∧ NB w S g fs vs wv (nx R 17 : Nat) R ws
theorem BkAt.kept {w w' : World} {T : Nat → Prop} {S g : Nat} {R : Nat → List Nat} {ws : List (Nat × Nat)} (h : BkAt w S g R ws) (c : Ch w w' T) (hT : ∀ k, T k → k < S ∨ w.heap.size ≤ k) : BkAt w' S g R ws := by
  obtain ⟨fs, vs, wv, h1, h2⟩ := h
  refine ⟨fs, vs, wv, h1, h2.kept c (fun ht => ?_) (fun k hk ht => ?_) (fun k ⟨n, hn, hk⟩ ht => ?_)⟩
  · have := h2.hg; have := h2.lt; rcases hT _ ht with h | h <;> omega
  · have := (h2.words.lt k hk).1; have := (h2.words.lt k hk).2; rcases hT _ ht with h | h <;> omega
  · have := ((h2.rows n hn).lt k hk).1; have := ((h2.rows n hn).lt k hk).2; rcases hT _ ht with h | h <;> omega
/-- A book that is younger than the bits. -/
theorem read_low (w : World) (S g : Nat) (R : Nat → List Nat) (ws : List (Nat × Nat)) (hb : BkAt w S g R ws) (hG : Good R) (B gr : Nat) (h : Bool) (v : Value) (l : List UInt8) (p : Nat) (H : Rd w B gr h v l p) (hB : B ≤ w.heap.size) (hS : gr < S) (hp : p ≤ 8 * l.length) (hl : l.length ≤ 1000000000) :
    Calls Tryd.prog 95 #[.pointer (some ⟨g, 0, none⟩), .pointer (some ⟨gr, 0, none⟩)] w (ReadPost w B gr h v l p R) :=
  read_core w g R ws B gr (fun _ c => by
    obtain ⟨fs, vs, wv, h1, h2⟩ := hb.kept c (fun k hk => .inl (hk ▸ hS))
    exact ⟨S, fs, vs, wv, h1, h2⟩) hG h v l p H hB hp hl
end Bk
end Go.Proofs.YtfgpmccmalddjaaDoor
end

section
namespace Go.Proofs.YtfgpmccmalddjaaDoor
open Go.RowKit Go.Shelf
attribute [local go_sem] Oper.semAt_some
namespace Bk
/-- A code that is handed over. -/
structure Em (R : Nat → List Nat) where
  x : It
  mem : x ∈ seq R 17
def Em.encs {R : Nat → List Nat} (x : Em R) : Array Value := #[.int .i64 (x.x.s : Nat), .agg #[.int .i64 (x.x.c : Nat), .int .i64 (x.x.n : Nat)]]
set_option maxRecDepth 100000 in
set_option maxHeartbeats 2000000 in
theorem inOrder1_in (F : Fence) (n : Nat) (h7 : F.fn 116) (hro : F.round = none) (hn : 1 ≤ n) (y X g B : Nat) (U : Nat → Prop) (fs : Nat → Int) (vs : Nat → Value) (wv : Value) (ev : Int) (R : Nat → List Nat)
    (hfs : ∀ n, n < 17 → fs n = (fst R n : Nat)) (hsm : ∀ n, n < 17 → fst R n + (R n).length ≤ 1000000) (hT : ∀ k, Tr vs k → ¬ U k)
    (J Jx : List (Em R) → World → Prop)
    (hY : ∀ pre x W, J pre W → pre.length < (seq R 17).length → YieldAt F (n - 1) Tryd.prog y x.encs W fun e W' =>
      (e = .returned (.bool true) ∧ J (pre ++ [x]) W' ∧ Kc U W W') ∨ (e = .returned (.bool false) ∧ Jx (pre ++ [x]) W'))
    (W : World) (hx : W.cell? ⟨X, 0, none⟩ = some (.pointer (some ⟨g, 0, none⟩))) (hg : W.heap[g]? = some (.cells (bkCells fs vs wv ev) 189 (0, 0))) (hrows : Rows W B vs R) (h0 : J [] W)
    (hU : ∀ k, U k → k < W.heap.size) (hJn : ∀ xs A B, J xs A → A.grownBy B none → J xs B) :
    CallsIn F n Tryd.prog 116 #[.func (.yield y) #[] #[], .pointer (some ⟨X, 0, none⟩)] W fun e W' => (∃ v, e = .returned v) ∧
      ((∃ ys, ys.map Em.x = seq R 17 ∧ J ys W') ∨ (∃ pre, (∃ t, seq R 17 = pre.map Em.x ++ t) ∧ Jx pre W')) := by
  refine callsIn_of_wp Tryd.func116 rfl h7 ?_ hro
  simp only [Tryd.ntmps116, List.size_toArray, List.length_cons, List.length_nil, Nat.reduceAdd, Nat.reduceSub, Array.replicate_succ, Array.replicate_zero, List.push_toArray, List.append_toArray, List.nil_append, List.cons_append]
  have HG := Lib.hid (load_sqs W g fs vs wv ev hg)
  gi_wp2_with (refine wplIn_load rfl 185 _ rfl ⟨g, 0, none⟩ rfl _ HG.out ?_)
  clear HG hg hx
  have H0 := Lib.hid hrows
  have HFS := Lib.hid hfs
  have HSM := Lib.hid hsm
  have HT := Lib.hid hT
  have HU := Lib.hid hU
  have HJ := Lib.hid hJn
  have HY := Lib.hid hY
  have hb0 := Below.refl W.heap.size W
  clear hrows hfs hsm hT hU hJn hY
  gi_loopw [13] (fun i wr => ∃ (m : Nat) (ys : List (Em R)), m ≤ 17 ∧ i = .int .i64 m ∧ W.heap.size ≤ wr.heap.size ∧ Hid (ys.map Em.x = seq R m) ∧ Hid (J ys wr) ∧ Hid (Rows wr B vs R))
    (fun i _ => 17 - (intOf i).toNat)
  case atStart => exact ⟨0, [], by omega, rfl, Nat.le_refl _, Lib.hid rfl, Lib.hid h0, H0⟩
  case round =>
    obtain ⟨m, ys, hm, rfl, hz, HM, HJs, HR⟩ := hrel
    by_cases hlt : m < 17
    · have hix := fun w => idx_sqs w fs vs m hlt
      have hown := HR.out m hlt
      rw [HFS.out m hlt] at hix
      obtain ⟨ra, rc, hv, hat⟩ : ∃ ra rc, vs m = .slice ra (R m).length rc ∧ ∀ i, i < (R m).length → ∃ rb, ra = some ⟨rb, 0, none⟩ := by
        rcases own_nil_or hown with ⟨h1, h2⟩ | ⟨rb, rc, h1, _⟩
        · exact ⟨none, 0, by rw [h1, h2], fun i hi => by omega⟩
        · exact ⟨_, rc, h1, fun i _ => ⟨rb, rfl⟩⟩
      rw [hv] at hix
      have hle := HSM.out m hlt
      have HV := Lib.hid hv
      have HAT := Lib.hid hat
      clear hown hv hat
      gi_wp2
      have hgr : wr.grownBy (wr.alloc (.cells #[.int .i64 (fst R m : Nat), .slice ra (R m).length rc] 184)) none := World.grownBy_alloc wr _ none
      have HB2 := Lib.hid (World.alloc_heap_new wr (.cells #[.int .i64 (fst R m : Nat), .slice ra (R m).length rc] 184))
      have HJ2 := Lib.hid (HJ.out ys _ _ HJs.out hgr)
      have HR2 := Lib.hid (HR.out.mono (below_alloc wr (.cells #[.int .i64 (fst R m : Nat), .slice ra (R m).length rc] 184)))
      have hz2 : W.heap.size ≤ (wr.alloc (.cells #[.int .i64 (fst R m : Nat), .slice ra (R m).length rc] 184)).heap.size := by simp; omega
      have HNU := Lib.hid (show ¬ U wr.heap.size from fun h => by have := HU.out _ h; omega)
      clear hgr hix HJs HR
      revert HB2 HJ2 HR2 hz2
      generalize wr.alloc (.cells #[.int .i64 (fst R m : Nat), .slice ra (R m).length rc] 184) = wr2
      intro HB2 HJ2 HR2 hz2
      generalize wr.heap.size = sx at *
      generalize Value.bool (decide ((m : Int) < 17)) = tb
      gi_loopw [20] (fun i wx => ∃ (j : Nat) (ys : List (Em R)), j ≤ (R m).length ∧ i = .int .i64 j ∧ W.heap.size ≤ wx.heap.size ∧ Hid (ys.map Em.x = seq R m ++ rowS R m j) ∧ Hid (J ys wx) ∧ Hid (Rows wx B vs R) ∧ Hid (wx.heap[sx]? = some (.cells #[.int .i64 (fst R m : Nat), .slice ra (R m).length rc] 184)))
        (fun i _ => (R m).length - (intOf i).toNat)
      case atStart => exact ⟨0, ys, by omega, rfl, hz2, Lib.hid (by rw [HM.out]; simp [rowS]), HJ2, HR2, HB2⟩
      case round =>
        obtain ⟨j, zs, hj, rfl, hzx, HMx, HJx, HRx, HBx⟩ := hrel
        by_cases hjl : j < (R m).length
        · obtain ⟨rb, rfl⟩ := HAT.out j hjl
          have hcell : wr.cell? ⟨rb, j, none⟩ = some (.int .i64 ((R m).getD j 0 : Nat)) := by
            have h1 := HRx.out m hlt
            rw [HV.out] at h1
            rw [h1.cellAt j (by omega), ivs_get _ _ (by rw [sy_length]; exact hjl), sy_getD]
          have hc0 : wr.cell? ⟨sx, 0, none⟩ = some (.int .i64 (fst R m : Nat)) := by rw [cell_of_row _ _ _ _ _ (0, 0) HBx.out]; rfl
          have hmem : it R m j ∈ seq R 17 := (mem_seq R 17 _).2 ⟨m, j, hlt, hjl, rfl⟩
          have hlen : zs.length < (seq R 17).length := by
            obtain ⟨t, ht⟩ := seq_mono R (m + 1) 17 (by omega)
            have h1 : zs.length = (seq R m ++ rowS R m j).length := by rw [← HMx.out, List.length_map]
            rw [ht, seq_succ, h1]
            simp only [List.length_append, rowS_length]
            omega
          obtain ⟨fn, tmps, assign, body, hy, hRd⟩ := HY.out zs ⟨it R m j, hmem⟩ wr HJx.out hlen
          have hMn : Hid ((zs ++ [(⟨it R m j, hmem⟩ : Em R)]).map Em.x = seq R m ++ rowS R m (j + 1)) := Lib.hid (by rw [List.map_append, HMx.out, rowS_succ, List.append_assoc]; rfl)
          have henc : (⟨it R m j, hmem⟩ : Em R).encs = #[.int .i64 ((R m).getD j 0 : Nat), .agg #[.int .i64 ((fst R m : Nat) + (j : Nat)), .int .i64 (m : Nat)]] := by
            show #[Value.int .i64 ((R m).getD j 0 : Nat), .agg #[.int .i64 ((fst R m + j : Nat) : Int), .int .i64 (m : Nat)]] = _
            rw [Int.natCast_add]
          rw [henc] at hy
          clear henc hlen
          generalize (⟨it R m j, hmem⟩ : Em R) = x at *
          clear hmem
          generalize (R m).getD j 0 = s at *
          gi_wp2
          refine hRd.mono ?_
          rintro e W3 (⟨rfl, hJ3, hk3⟩ | ⟨rfl, hJx3⟩)
          · have hz3 : W.heap.size ≤ W3.heap.size := by
              have := (Array.getElem?_eq_some_iff.1 (hk3 sx _ HBx.out rfl HNU.out)).1
              omega
            have HJ3 := Lib.hid hJ3
            have HR3 := Lib.hid (HRx.out.kept hk3 HT.out)
            have HB3 := Lib.hid (hk3 sx _ HBx.out rfl HNU.out)
            clear hJ3 hk3 hRd hy hc0 hcell
            gi_wp2
            go_roundw
            case rel => exact ⟨j + 1, zs ++ [x], by omega, by go_num, hz3, hMn, HJ3, HR3, HB3⟩
            case measure => simp [intOf]; omega
          · have HX3 := Lib.hid hJx3
            have HP : Hid (∃ t, seq R 17 = (zs ++ [x]).map Em.x ++ t) := Lib.hid (by
              obtain ⟨t, ht⟩ := seq_mono R (m + 1) 17 (by omega)
              refine ⟨((List.range ((R m).length - (j + 1))).map fun i => it R m (j + 1 + i)) ++ t, ?_⟩
              rw [hMn.out, ht, seq_succ]
              simp only [List.append_assoc]
              congr 1
              rw [← List.append_assoc]
              congr 1
              unfold rowS
              conv => lhs; rw [show (R m).length = (j + 1) + ((R m).length - (j + 1)) by omega, List.range_add, List.map_append, List.map_map]
              rfl)
            clear hJx3 hRd hy hc0 hcell
            gi_wp2
            refine bodyPost_ret (results_none rfl _ _ _) rfl ?_
            exact ⟨⟨_, rfl⟩, .inr ⟨_, HP.out, HX3.out⟩⟩
        · obtain rfl : (R m).length = j := by omega
          gi_wp2
          go_roundw
          case rel => exact ⟨m + 1, zs, by omega, by go_num, hzx, Lib.hid (by rw [HMx.out, seq_succ]), HJx, HRx⟩
          case measure => simp [intOf]; omega
    · obtain rfl : m = 17 := by omega
      gi_wp2
      go_end0
      exact ⟨⟨_, rfl⟩, .inl ⟨ys, HM.out, HJs.out⟩⟩
theorem inOrder_stops (F : Fence) (n : Nat) (h7 : F.fn 116) (hro : F.round = none) (hn : 1 ≤ n) (X g B : Nat) (U : Nat → Prop) (fs : Nat → Int) (vs : Nat → Value) (wv : Value) (ev : Int) (R : Nat → List Nat)
    (hfs : ∀ n, n < 17 → fs n = (fst R n : Nat)) (hsm : ∀ n, n < 17 → fst R n + (R n).length ≤ 1000000) (hT : ∀ k, Tr vs k → ¬ U k)
    (w : World) (hx : w.cell? ⟨X, 0, none⟩ = some (.pointer (some ⟨g, 0, none⟩))) (hXl : X < w.heap.size) (hg : w.heap[g]? = some (.cells (bkCells fs vs wv ev) 189 (0, 0))) (hrows : Rows w B vs R) (hU : ∀ k, U k → k < w.heap.size) :
    SeqStopsK F n Tryd.prog 116 #[.pointer (some ⟨X, 0, none⟩)] (Em.encs (R := R)) (Kc U) (fun ys => ys.map Em.x = seq R 17) (fun pre => ∃ t, seq R 17 = pre.map Em.x ++ t) (seq R 17).length w := fun y J Jx W hW hJ _ hY h0 => by
  refine inOrder1_in F n h7 hro hn y X g B U fs vs wv ev R hfs hsm hT J Jx hY W ?_ ?_ (hrows.mono hW) h0 (fun k hk => Nat.lt_of_lt_of_le (hU k hk) hW.size) (fun xs A C h g' => hJ xs A C none h g' (fun r e => by cases e))
  · exact (hW.cell (p := ⟨X, 0, none⟩) hXl).trans hx
  · exact (hW.block g (Array.getElem?_eq_some_iff.1 hg).1).trans hg
set_option maxRecDepth 100000 in
theorem inOrder1_nil (F : Fence) (n : Nat) (h7 : F.fn 116) (hro : F.round = none) (y X : Nat) (J : Prop) (W : World) (hx : W.cell? ⟨X, 0, none⟩ = some (.pointer none)) (h0 : J) :
    CallsIn F n Tryd.prog 116 #[.func (.yield y) #[] #[], .pointer (some ⟨X, 0, none⟩)] W fun e W' => (∃ v, e = .returned v) ∧ J ∧ W = W' := by
  have H0 := Lib.hid h0
  clear h0
  refine callsIn_of_wp Tryd.func116 rfl h7 ?_ hro
  simp only [Tryd.ntmps116, List.size_toArray, List.length_cons, List.length_nil, Nat.reduceAdd, Nat.reduceSub, Array.replicate_succ, Array.replicate_zero, List.push_toArray, List.append_toArray, List.nil_append, List.cons_append]
  gi_wp2
  refine bodyPost_ret (results_none rfl _ _ _) rfl ?_
  exact ⟨⟨_, rfl⟩, H0.out, rfl⟩
def noRows : Nat → List Nat := fun _ => []
theorem inOrder_stops_nil (F : Fence) (n : Nat) (h7 : F.fn 116) (hro : F.round = none) (X : Nat) (U : Nat → Prop) (w : World) (hx : w.cell? ⟨X, 0, none⟩ = some (.pointer none)) (hXl : X < w.heap.size) :
    SeqStopsK F n Tryd.prog 116 #[.pointer (some ⟨X, 0, none⟩)] (Em.encs (R := noRows)) (Kc U) (fun ys => ys = []) (fun _ => True) 0 w := fun y J Jx W hW hJ _ hY h0 => by
  refine (inOrder1_nil F n h7 hro y X (J [] W) W ((hW.cell (p := ⟨X, 0, none⟩) hXl).trans hx) h0).mono ?_
  rintro e W' ⟨he, hj, rfl⟩
  exact ⟨he, .inl ⟨[], rfl, hj⟩⟩
theorem inOrder_in (F : Fence) (n : Nat) (h5 : F.fn 114) (hro : F.round = none) (p : Value) (w : World) (hp : p = .pointer none ∨ ∃ g, p = .pointer (some ⟨g, 0, none⟩)) :
    CallsIn F n Tryd.prog 114 #[p] w fun e w' => e = .returned (.func (.func 116) #[] #[.pointer (some ⟨w.heap.size, 0, none⟩)]) ∧ w' = w.alloc (.cells #[p] 116) := by
  refine callsIn_of_wp Tryd.func114 rfl h5 ?_ hro
  simp only [Tryd.ntmps114, List.size_toArray, List.length_cons, List.length_nil, Nat.reduceAdd, Nat.reduceSub, Array.replicate_succ, Array.replicate_zero, List.push_toArray, List.append_toArray, List.nil_append, List.cons_append]
  rcases hp with rfl | ⟨g, rfl⟩
  · gi_wp2
    go_ret
    exact ⟨rfl, rfl⟩
  · gi_wp2
    go_ret
    exact ⟨rfl, rfl⟩
end Bk
end Go.Proofs.YtfgpmccmalddjaaDoor
end
