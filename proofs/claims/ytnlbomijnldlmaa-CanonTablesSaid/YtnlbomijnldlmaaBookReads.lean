/- The law's reads: a book reads what codes say. -/
import Derived.Test.YtnlbomijnldlmaaBookTake
import Derived.Test.YtnlbomijnldlmaaBookGood
import Derived.Test.YtnlbomijnldlmaaBitsNewR
import Derived.Test.YtnlbomijnldlmaaRefBits
import Derived.Test.YtnlbomijnldlmaaNumErr
namespace Go.Proofs.Ytnlbomijnldlmaa
open Go.RowKit

theorem rdAt_le (ks : List (Int × List Bool)) (u : List Bool) : ∀ f n, f + n = 17 → n ≤ u.length + 1 → (Cn.rdAt ks u f n).2.1 ≤ u.length := by
  intro f
  induction f with
  | zero => intro n h1 h2; show 16 ≤ u.length; omega
  | succ f ih =>
    intro n h1 h2
    unfold Cn.rdAt
    by_cases h : u.length < n
    · rw [if_pos h]; exact Nat.le_refl _
    · rw [if_neg h]
      split
      · show n ≤ u.length; omega
      · split
        · exact ih (n + 1) (by omega) (by omega)
        · show n ≤ u.length; omega
theorem rd_le (ks : List (Int × List Bool)) (u : List Bool) : (Cn.rd ks u).2.1 ≤ u.length := by
  unfold Cn.rd
  split
  · exact Nat.zero_le _
  · exact rdAt_le ks u 16 1 rfl (by omega)
theorem num_errV (k : Int) (w : World) : Calls Try.prog 38 #[Bk.errV k] w fun e w' => e = .returned (.int .i64 k) ∧ w = w' := by
  unfold Bk.errV
  by_cases h : k = 0
  · subst h; rw [if_pos rfl]; exact num_nil w
  · rw [if_neg h]; exact num_err k (by simpa using h) w
theorem Is.drop {k : IntKind} {w : World} {b off len cap : Nat} {l : List Int} (h : Is k w (some ⟨b, off, none⟩) len cap l) (s : Nat) (hs : s ≤ len) (ao : Option Addr) (hao : ¬ cap = s → ao = some ⟨b, off + s, none⟩) :
    Is k w ao (len - s) (cap - s) (l.drop s) := by
  have h1 := h.hlen
  have h2 := h.hle
  refine ⟨by simp; omega, by omega, fun e => ?_, fun i hi => ?_, fun n hn => h.wf n (List.mem_of_mem_drop hn)⟩
  · by_cases hc : cap = s
    · omega
    · rw [hao hc] at e; simp at e
  · obtain ⟨b', off', e', hb', hc⟩ := h.at' (s + i) (by omega)
    simp only [Option.some.injEq, Addr.mk.injEq, and_true] at e'
    obtain ⟨rfl, rfl⟩ := e'
    refine ⟨b, off + s, hao (by omega), hb', ?_⟩
    rw [Nat.add_assoc, hc]
    simp [List.getD, List.getElem?_drop]
namespace Bk
/-- What lies in memory while codes are read. -/
structure RC (w wx : World) (B2 gr : Nat) (h : Bool) (v : Value) (l : List UInt8) (p : Nat) (a : Option Addr) (cap : Nat) : Prop where
  bel : Below w.heap.size w wx
  rd : Rd wx B2 gr h v l p
  is : Is .i64 wx a (8 * l.length - p) cap (bi ((Bt.rbits h l).drop p))
  lt : ∀ ad, a = some ad → gr < ad.block ∧ ∃ b o, ad = ⟨b, o, none⟩
  lp : p ≤ 8 * l.length
theorem RC.mono {w wx wy : World} {B2 gr : Nat} {h : Bool} {v : Value} {l : List UInt8} {p : Nat} {a : Option Addr} {cap : Nat} (H : RC w wx B2 gr h v l p a cap) (hb : Below wx.heap.size wx wy) : RC w wy B2 gr h v l p a cap :=
  ⟨H.bel.trans (hb.mono H.bel.size), H.rd.mono hb, H.is.mono hb, H.lt, H.lp⟩
theorem RC.step {w wx wy : World} {B2 gr : Nat} {h : Bool} {v : Value} {l : List UInt8} {p q : Nat} {a : Option Addr} {cap : Nat} (H : RC w wx B2 gr h v l p a cap) (hr : Rd wy B2 gr h v l (p + q)) (hc : Ch wx wy (fun k => k = gr)) (hg : w.heap.size ≤ gr) (hq : q ≤ 8 * l.length - p)
    (ao : Option Addr) (hao : ∀ b o, a = some ⟨b, o, none⟩ → ¬ cap = q → ao = some ⟨b, o + q, none⟩) (hn : a = none → ao = none) (hcc : ∀ b o, a = some ⟨b, o, none⟩ → cap = q → ∀ ad, ao = some ad → gr < ad.block ∧ ∃ b o, ad = ⟨b, o, none⟩) : RC w wy B2 gr h v l (p + q) ao (cap - q) := by
  have hi := H.is.kept hc (fun ad e e2 => by have := (H.lt ad e).1; omega)
  have e1 : 8 * l.length - (p + q) = 8 * l.length - p - q := by omega
  have e2 : bi ((Bt.rbits h l).drop (p + q)) = (bi ((Bt.rbits h l).drop p)).drop q := by rw [← List.drop_drop]; simp [bi]
  refine ⟨H.bel.trans (hc.below H.bel.size (fun k hk => hk ▸ hg)), hr, ?_, fun ad e => ?_, by have := H.lp; omega⟩
  · rw [e1, e2]
    cases ha : a with
    | none =>
      rw [ha] at hi
      have h0 := hi.hnil rfl
      have h1 := hi.hle
      rw [hn ha]
      refine ⟨by rw [List.length_drop, hi.hlen], by omega, fun _ => by omega, fun i hi' => by omega, fun n hn => hi.wf n (List.mem_of_mem_drop hn)⟩
    | some ad =>
      obtain ⟨_, b, o, rfl⟩ := H.lt ad ha
      rw [ha] at hi
      exact hi.drop q hq ao (fun hne => hao b o ha hne)
  · cases ha : a with
    | none => rw [hn ha] at e; cases e
    | some ad' =>
      obtain ⟨hgr, b, o, rfl⟩ := H.lt ad' ha
      by_cases hne : cap = q
      · exact hcc b o ha hne ad e
      · rw [hao b o ha hne] at e
        cases e
        exact ⟨hgr, b, o + q, rfl⟩
set_option maxRecDepth 100000 in
set_option maxHeartbeats 4000000 in
theorem reads_any (w : World) (S g : Nat) (R : Nat → List Nat) (ws : List (Nat × Nat)) (hb : Book w S g R ws) (hG : Good R) (B : Nat) (vd : Value) (n : Nat) (cs : List Cd) (hc : Cds w B vd n cs) (hn : n ≤ 1000000) (hk : cs.map Cd.k = ks R)
    (a : Option Addr) (len cap : Nat) (l : List UInt8) (hl : Bs w a len cap l) (hlen : len ≤ 1000) (h : Bool) (t : Int) :
    Calls Try.prog 27 #[.pointer (some ⟨g, 0, none⟩), vd, .slice a len cap, .bool h, .int .i64 t] w fun e w' => e = .returned (.bool true) ∧ Below w.heap.size w w' := by
  have h16 : ∀ i, i < n → (cth cs i).b.length ≤ 16 := fun i hi => by
    have hil : i < cs.length := by rw [hc.hn]; exact hi
    have hmc : cth cs i ∈ cs := by simp [cth, List.getD, List.getElem?_eq_getElem hil]
    have hm : (cth cs i).k ∈ cs.map Cd.k := List.mem_map.2 ⟨cth cs i, hmc, rfl⟩
    rw [hk] at hm
    obtain ⟨m, j, hm17, hj, e⟩ := (mem_ks R _).1 hm
    have e2 : (cth cs i).b = (it R m j).bits := congrArg Prod.snd e
    rw [e2, It.bits, Bt.dg_length]; show m ≤ 16; omega
  obtain ⟨va, vc, rfl, _⟩ := hc.cells
  have HL := Lib.hid hl.hlen
  have H := Lib.hid hl
  have HBK := Lib.hid hb
  have HC := Lib.hid hc
  have H16 := Lib.hid h16
  have HK := Lib.hid hk
  clear hl hb hc h16 hk
  go_enter Try.func27, Try.ntmps27
  go_wp2_with fail
  refine (newReader_any h a len cap l w H.out (by omega)).mono ?_
  rintro e w1 ⟨gr, v1, rfl, hrd, hb1⟩
  have HRD := Lib.hid hrd
  have HB1 := Lib.hid hb1
  clear hrd hb1
  go_wp2_with fail
  refine (refBits_any h a len cap l w1 (H.out.mono HB1.out) (by omega)).mono ?_
  rintro e w2 ⟨v2, rfl, own2, hb2⟩
  have hlt2 : ∀ k, v2.ownBlock = some k → w1.heap.size ≤ k := fun k hk => (own2.lt k hk).1
  obtain ⟨a2, c2, rfl, his, hat2⟩ : ∃ a2 c2, v2 = .slice a2 (8 * l.length) c2 ∧ Is .i64 w2 a2 (8 * l.length) c2 (bi (Bt.rbits h l)) ∧ ∀ ad, a2 = some ad → ∃ b o, ad = ⟨b, o, none⟩ := by
    obtain ⟨a2, c2, hv, his⟩ := own_is own2 (bi_wf _)
    refine ⟨a2, c2, hv, his, fun ad e => ?_⟩
    rcases own_nil_or own2 with ⟨h1, _⟩ | ⟨g2, c3, h1, _⟩
    · rw [hv] at h1; simp only [Value.slice.injEq] at h1; rw [h1.1] at e; cases e
    · rw [hv] at h1; simp only [Value.slice.injEq] at h1; rw [h1.1] at e; cases e; exact ⟨g2, 0, rfl⟩
  have ST := Lib.hid (show RC w w2 w.heap.size gr h v1 l 0 a2 c2 from
    ⟨below_then HB1.out hb2, HRD.out.mono hb2, by simpa using his, fun ad e => ⟨by have h1 := hlt2 ad.block (by rw [e]; rfl); have h2 := HRD.out.lt; omega, hat2 ad e⟩, by omega⟩)
  clear own2 hb2 his hlt2 hat2
  have hL := Lib.hid (show l.length ≤ 1000 by rw [HL.out]; exact hlen)
  obtain ⟨T, hT, hT1⟩ : ∃ T : Nat, wrap64 (1 + wrap64 ((IntKind.u64.wrap t).tmod 20)) = (T : Int) ∧ T ≤ 20 := by
    have hx : 0 ≤ IntKind.u64.wrap t := by rw [IntKind.wrap_u64]; exact Int.emod_nonneg _ (by decide)
    generalize IntKind.u64.wrap t = x at *
    rw [Int.tmod_eq_emod_of_nonneg hx]
    have h1 : 0 ≤ x % 20 := Int.emod_nonneg _ (by decide)
    have h2 : x % 20 < 20 := Int.emod_lt_of_pos _ (by decide)
    generalize x % 20 = y at *
    refine ⟨(1 + y).toNat, ?_, by omega⟩
    rw [IntWalk.wrap64_in y ⟨by omega, by omega⟩, IntWalk.wrap64_in _ ⟨by omega, by omega⟩]
    omega
  go_wp2
  rw [hT]
  clear hT
  generalize wrap64 ((IntKind.u64.wrap t).tmod 20) = t1
  generalize (IntKind.u64.wrap t).tmod 20 = t2
  generalize IntKind.u64.wrap t = t3
  have HGR : Hid (w.heap.size ≤ gr) := Lib.hid HRD.out.hg
  clear HL H HRD HB1 hlen
  go_loopw [12, 29] (fun lv iv wr => ∃ (k p : Nat) (a : Option Addr) (cap : Nat), k ≤ T ∧ iv = .int .i64 k ∧ lv = .slice a (8 * l.length - p : Nat) cap ∧ Hid (RC w wr w.heap.size gr h v1 l p a cap)) (fun _ i _ => T - (intOf i).toNat)
  case atStart => exact ⟨0, 0, a2, c2, by omega, rfl, rfl, ST⟩
  case round =>
    obtain ⟨k, p, a3, c3, hk, rfl, rfl, HS⟩ := hrel
    by_cases hlt : k < T
    · have HRDA := Lib.hid (read_any wr S g R ws (HBK.out.mono HS.out.bel) hG w.heap.size gr h v1 l p HS.out.rd HS.out.bel.size (Nat.le_trans HBK.out.size HGR.out) HS.out.lp (by have := hL.out; omega))
      have hle := rd_le (ks R) ((Bt.rbits h l).drop p)
      rw [List.length_drop, Bt.rbits_length] at hle
      have hlp := HS.out.lp
      have hlL := hL.out
      have hcap3 := HS.out.is.hle
      have HRR := Lib.hid (fun (wy : World) (hb : Below w.heap.size w wy) (hi : Is .i64 wy a3 (8 * l.length - p) c3 (bi ((Bt.rbits h l).drop p))) => refRead_any B (.slice va n vc) n cs a3 (8 * l.length - p) c3 ((Bt.rbits h l).drop p) wy (HC.out.mono hb) hi (by omega) hn H16.out)
      rw [HK.out] at HRR
      have HLF := Lib.hid (fun (wy : World) (q : Nat) (hq : q ≤ 8 * l.length - p) (hr : Rd wy w.heap.size gr h v1 l (p + q)) => left_any wy w.heap.size gr h v1 l (p + q) hr (by omega) (by omega))
      have hats := fun ad e => (HS.out.lt ad e).2
      have hgrb := fun ad e => (HS.out.lt ad e).1
      have hnil3 := HS.out.is.hnil
      go_wp2_with fail
      refine HRDA.out.mono ?_
      rintro e w4 ⟨rfl, hrd4, hch4⟩
      clear HRDA
      have hb4 : Below w.heap.size w w4 := HS.out.bel.trans (hch4.below HS.out.bel.size (fun k hk => hk ▸ HGR.out))
      have hi4 := HS.out.is.kept hch4 (fun ad e e2 => by have := (HS.out.lt ad e).1; omega)
      have HRR4 := Lib.hid (HRR.out w4 hb4 hi4)
      have HRD4 := Lib.hid hrd4
      have HCH4 := Lib.hid hch4
      clear HRR hrd4 hch4 hb4 hi4
      generalize (Cn.rd (ks R) ((Bt.rbits h l).drop p)).1 = x1 at *
      generalize (Cn.rd (ks R) ((Bt.rbits h l).drop p)).2.1 = x2 at *
      generalize (Cn.rd (ks R) ((Bt.rbits h l).drop p)).2.2 = x3 at *
      have HNE := Lib.hid (num_errV x3)
      generalize errV x3 = ev at *
      go_wp2_with fail
      refine HRR4.out.mono ?_
      rintro e w5 ⟨rfl, d5, rfl⟩
      go_wp2_with fail
      refine (HNE.out _).mono ?_
      rintro e w6 ⟨rfl, rfl⟩
      go_wp2_with fail
      refine (HLF.out _ x2 hle (HRD4.out.mono (drewN_below w4 d5))).mono ?_
      rintro e w7 ⟨rfl, d7, rfl⟩
      have dl : ((8 * l.length - (p + x2) : Nat) : Int) = ((8 * l.length - p : Nat) : Int) - (x2 : Int) := by omega
      have dl2 : (((8 * l.length - (p + x2) : Nat) : Int) != ((8 * l.length - p : Nat) : Int) - (x2 : Int)) = false := by rw [dl]; simp
      have HST := Lib.hid (fun ao => HS.out.step (q := x2) HRD4.out HCH4.out HGR.out hle ao)
      have HDB := Lib.hid ((drewN_below w4 d5).trans (drewN_below (w4.drewN d5) d7))
      clear HS HRD4 HCH4 HLF HRR4 dl
      generalize hM : 8 * l.length - p = M at *
      have HMM : Hid (M - x2 = 8 * l.length - (p + x2)) := Lib.hid (by omega)
      have hM8 : M ≤ 8000 := by omega
      clear hM
      cases a3 with
      | none =>
        have hc0 := hnil3 rfl
        have hM0 : M = 0 := by omega
        have hx0 : x2 = 0 := by omega
        subst hc0
        subst hM0
        subst hx0
        have HE := Lib.hid (HST.out none (fun b o e => by cases e) (fun _ => rfl) (fun b o e => by cases e))
        clear HST
        go_wp2
        go_roundw
        case rel => exact ⟨k + 1, p + 0, none, 0 - 0, by omega, by go_num, by rw [← HMM.out], Lib.hid (HE.out.mono (drewN_below w4 (d5 + d7)))⟩
        case measure => simp [intOf]; omega
      | some ad =>
        obtain ⟨b3, o3, rfl⟩ := hats ad rfl
        have hgr3 := hgrb _ rfl
        have HE := Lib.hid (HST.out (if c3 = x2 then some ⟨b3, o3, none⟩ else some ⟨b3, o3 + x2, none⟩) (fun b o e hne => by cases e; rw [if_neg hne]) (fun e => by cases e) (fun b o e he ad' e' => by
          cases e; rw [if_pos he] at e'; cases e'; exact ⟨hgr3, b3, o3, rfl⟩))
        clear HST hgr3 hgrb
        go_wp2
        refine ⟨⟨k + 1, p + x2, _, _, by omega, by go_num, by rw [← HMM.out], Lib.hid (HE.out.mono (drewN_below w4 (d5 + d7)))⟩, ?_⟩
        simp [intOf]; omega
    · obtain rfl : T = k := by omega
      go_wp2
      go_ret
      exact ⟨rfl, HS.out.bel⟩
end Bk
end Go.Proofs.Ytnlbomijnldlmaa
