/- (*Book).Read: its contract. -/
import Derived.Test.YtnlbomijnldlmaaBookWord
import Derived.Test.YtnlbomijnldlmaaBitsTake
import Derived.Deep.LoopGhost
import Derived.Deep.QuietTactic
import Derived.BigQuiet
namespace Go.Proofs.Ytnlbomijnldlmaa
open Go.RowKit

namespace Bk
def errV (k : Int) : Value := if k = 0 then .nilIface else .iface 35 (.int .i64 k)
def ReadPost (w : World) (B gr : Nat) (h : Bool) (v : Value) (l : List UInt8) (p : Nat) (R : Nat → List Nat) (e : Ending) (w' : World) : Prop :=
  e = .returned (.tuple #[.int .i64 (Cn.rd (ks R) ((Bt.rbits h l).drop p)).1, errV (Cn.rd (ks R) ((Bt.rbits h l).drop p)).2.2]) ∧ Rd w' B gr h v l (p + (Cn.rd (ks R) ((Bt.rbits h l).drop p)).2.1) ∧ Ch w w' (fun k => k = gr)
/-- What reading comes to from n bits on. -/
def rdF (R : Nat → List Nat) (u : List Bool) (n : Nat) : Int × Nat × Int := if n = 0 then Cn.rd (ks R) u else Cn.rdAt (ks R) u (17 - n) n
theorem rdF_hit (R : Nat → List Nat) (h : Good R) (u : List Bool) (n : Nat) (hn : n ≤ 16) (hu : n ≤ u.length) (hf : fst R n ≤ Bt.numH (u.take n)) (hi : Bt.numH (u.take n) - fst R n < (R n).length) : rdF R u n = ((((R n).getD (Bt.numH (u.take n) - fst R n) 0 : Nat) : Int), n, 0) := by
  have h0 : n ≠ 0 := fun e => by subst e; rw [h.r0] at hi; simp at hi
  unfold rdF
  rw [if_neg h0]
  exact rdAt_hit R h u n _ hn hi hu (by omega)
theorem rdF_bad (R : Nat → List Nat) (h : Good R) (u : List Bool) (n : Nat) (hn : n ≤ 16) (hu : n ≤ u.length) (hc : fst R n + (R n).length ≤ Bt.numH (u.take n)) (he : nx R 17 ≤ Bt.numH (u.take n) * 2 ^ (16 - n)) : rdF R u n = (0, n, 2) := by
  unfold rdF
  by_cases h0 : n = 0
  · subst h0
    rw [if_pos rfl]
    exact rd_empty R u (by simpa [Bt.numH] using he)
  · rw [if_neg h0]; exact rdAt_bad R h u n hn hu hc he
theorem rdF_more (R : Nat → List Nat) (h : Good R) (u : List Bool) (n : Nat) (hn : n ≤ 16) (hu : n ≤ u.length) (hc : fst R n + (R n).length ≤ Bt.numH (u.take n)) (he : Bt.numH (u.take n) * 2 ^ (16 - n) < nx R 17) : n < 16 ∧ rdF R u n = rdF R u (n + 1) := by
  unfold rdF
  by_cases h0 : n = 0
  · subst h0
    rw [if_pos rfl, if_neg (by omega)]
    exact ⟨by omega, rd_some R h u (by simpa [Bt.numH] using he)⟩
  · rw [if_neg h0, if_neg (by omega)]; exact rdAt_more R h u n hn hu hc he
theorem rdF_end (R : Nat → List Nat) (u : List Bool) (n : Nat) (hn : n < 16) (hu : u.length ≤ n) : rdF R u (n + 1) = (0, u.length, 8) := by
  unfold rdF
  rw [if_neg (by omega)]
  exact rdAt_end R u (n + 1) (by omega) (by omega)
theorem numH_bit (u : List Bool) (n : Nat) (h : n < u.length) : Bt.numH (u.take (n + 1)) = 2 * Bt.numH (u.take n) + (u.getD n false).toNat := by
  rw [List.take_succ_eq_append_getElem h, Bt.numH_snoc]; simp [List.getD, List.getElem?_eq_getElem h]
theorem take_bit (h : Bool) (u : List Bool) (n : Nat) (hn : n < u.length) : Bt.num h ((u.drop n).take 1) = (u.getD n false).toNat := by
  have e : (u.drop n).take 1 = [u.getD n false] := by
    rw [List.drop_eq_getElem_cons hn, List.take_succ_cons, List.take_zero]; simp [List.getD, List.getElem?_eq_getElem hn]
  rw [e]
  cases h <;> simp [Bt.num, Bt.numH]
theorem or_bit2 (a : Nat) (b : Bool) (ha : a < 4294967296) : bits .or .i64 ((a : Int) * 2) ((b.toNat : Nat) : Int) = ((2 * a + b.toNat : Nat) : Int) := by
  have hb : b.toNat ≤ 1 := Bool.toNat_le b
  rw [show (a : Int) * 2 = ((a * 2 : Nat) : Int) by omega, i64_or_nat _ _ (by omega) (by omega)]
  congr 1
  have h1 := nat_join 1 (a * 2) b.toNat (by omega) (by omega)
  omega
theorem rd_read_nil (w : World) (r : Value) (hr : r = .pointer none ∨ ∃ g, r = .pointer (some ⟨g, 0, none⟩)) : Calls Try.prog 34 #[.pointer none, r] w fun e w' => e = .returned (.tuple #[.int .i64 0, .iface 35 (.int .i64 2)]) ∧ w = w' := by
  go_enter Try.func34, Try.ntmps34
  go_wp2
  go_ret2
  exact ⟨rfl, rfl⟩
set_option maxRecDepth 100000 in
set_option maxHeartbeats 4000000 in
theorem read_any (w : World) (S g : Nat) (R : Nat → List Nat) (ws : List (Nat × Nat)) (hb : Book w S g R ws) (hG : Good R) (B gr : Nat) (h : Bool) (v : Value) (l : List UInt8) (p : Nat) (H : Rd w B gr h v l p) (hB : B ≤ w.heap.size) (hS : S ≤ gr) (hp : p ≤ 8 * l.length) (hl : l.length ≤ 1000000000) :
    Calls Try.prog 34 #[.pointer (some ⟨g, 0, none⟩), .pointer (some ⟨gr, 0, none⟩)] w (ReadPost w B gr h v l p R) := by
  have hul : ((Bt.rbits h l).drop p).length = 8 * l.length - p := by rw [List.length_drop, Bt.rbits_length]
  have HUD : Hid (∀ n, (Bt.rbits h l).drop (p + n) = ((Bt.rbits h l).drop p).drop n) := Lib.hid (fun n => by rw [List.drop_drop])
  have HPOST : Hid (∀ e w', ReadPost w B gr h v l p R e w' ↔ e = .returned (.tuple #[.int .i64 (rdF R ((Bt.rbits h l).drop p) 0).1, errV (rdF R ((Bt.rbits h l).drop p) 0).2.2]) ∧ Rd w' B gr h v l (p + (rdF R ((Bt.rbits h l).drop p) 0).2.1) ∧ Ch w w' (fun k => k = gr)) := Lib.hid (fun e w' => by
    unfold ReadPost rdF; rw [if_pos rfl])
  have HBK := Lib.hid hb
  have HSG := Lib.hid hS
  have H0 := Lib.hid H
  have HUL := Lib.hid hul
  have HL := Lib.hid hl
  clear hb hS H hul hl
  generalize hu : (Bt.rbits h l).drop p = u at *
  have HU := Lib.hid hu
  clear hu
  go_enter Try.func34, Try.ntmps34
  go_wp2
  go_loopg [6, 15] 17 (fun gk cv iv wr => ∃ n : Nat, n ≤ 16 ∧ gk = 17 - n ∧ iv = .int .i64 n ∧ cv = .int .i64 (Bt.numH (u.take n) : Nat) ∧ n ≤ u.length ∧ fst R n ≤ Bt.numH (u.take n) ∧ Hid (Rd wr B gr h v l (p + n) ∧ Ch w wr (fun k => k = gr)) ∧ Hid (rdF R u 0 = rdF R u n))
  case atStart => exact ⟨0, by omega, by omega, rfl, by simp [Bt.numH], by omega, by simp [fst, nx], Lib.hid ⟨H0.out, Ch.refl _ _⟩, Lib.hid rfl⟩
  case round =>
    obtain ⟨n, hn, rfl, rfl, rfl, hnu, hfn, HR, HF⟩ := hrel
    have hbel : Below S w wr := HR.out.2.below HBK.out.size (fun k hk => hk ▸ HSG.out)
    obtain ⟨B2, fs, vs, wv, hfs, hnb⟩ := (HBK.out.below hbel).nb
    have hlt : n < 17 := by omega
    have cv : wr.cell? ⟨g, n * 2 + 1, none⟩ = some (vs n) := by rw [Nat.mul_comm]; exact hnb.cV n hlt
    have cf : wr.cell? ⟨g, n * 2, none⟩ = some (.int .i64 (fst R n : Nat)) := by rw [Nat.mul_comm, ← hfs n hlt]; exact hnb.cF n hlt
    have ce := hnb.cE
    obtain ⟨ra, rc, hv, hat⟩ : ∃ ra rc, vs n = .slice ra (R n).length rc ∧ ∀ i, i < (R n).length → ∃ rb, ra = some ⟨rb, 0, none⟩ ∧ wr.cell? ⟨rb, i, none⟩ = some (.int .i64 ((R n).getD i 0 : Nat)) := by
      have hown := hnb.rows n hlt
      rcases own_nil_or hown with ⟨h1, h2⟩ | ⟨rb, rc, h1, _⟩
      · exact ⟨none, 0, by rw [h1, h2], fun i hi => by omega⟩
      · refine ⟨_, rc, h1, fun i hi => ⟨rb, rfl, ?_⟩⟩
        rw [h1] at hown
        rw [hown.cellAt i (by omega), ivs_get _ _ (by rw [sy_length]; exact hi), sy_getD]
    rw [hv] at cv
    have hclt : Bt.numH (u.take n) < 65536 := by
      have h1 := Bt.num_lt true (u.take n)
      rw [List.length_take, Nat.min_eq_left hnu] at h1
      have h2 := Bt.pow_le n 16 hn
      simp only [Nat.reducePow] at h2
      have h3 : Bt.num true (u.take n) = Bt.numH (u.take n) := rfl
      omega
    have hel : nx R 17 ≤ 65536 := by rw [end_val]; exact hG.le
    have hrl : (R n).length ≤ 65536 := by
      have h1 := code_lt R hG n (R n).length hn (Nat.le_refl _)
      have h2 := Bt.pow_le n 16 hn
      simp only [Nat.reducePow] at h2
      omega
    clear hbel hnb hfs hv
    by_cases hhit : Bt.numH (u.take n) - fst R n < (R n).length
    · obtain ⟨rb, rfl, c1⟩ := hat _ hhit
      have hr := rdF_hit R hG u n hn hnu hfn hhit
      rw [← HF.out] at hr
      have HP : Hid (ReadPost w B gr h v l p R (.returned (.tuple #[.int .i64 ((R n).getD (Bt.numH (u.take n) - fst R n) 0 : Nat), .nilIface])) wr) := Lib.hid ((HPOST.out _ _).2 (by rw [hr]; exact ⟨rfl, HR.out.1, HR.out.2⟩))
      clear hr hat HPOST HF
      generalize (R n).getD (Bt.numH (u.take n) - fst R n) 0 = s at *
      generalize hcc : Bt.numH (u.take n) = c at *
      clear hcc
      generalize fst R n = f at *
      obtain ⟨d, rfl⟩ : ∃ d, c = f + d := ⟨c - f, by omega⟩
      have e1 : f + d - f = d := by omega
      rw [e1] at c1 hhit
      clear e1
      go_wp2
      go_ret2
      exact HP.out
    · have hc : fst R n + (R n).length ≤ Bt.numH (u.take n) := by omega
      have hpp := two_pos (16 - n)
      have hp16 := Bt.pow_le (16 - n) 16 (by omega)
      simp only [Nat.reducePow] at hp16
      have hmul : Bt.numH (u.take n) * 2 ^ (16 - n) ≤ 65536 * 65536 := Nat.mul_le_mul (by omega) hp16
      have hsh : ∃ x : Nat, Bt.numH (u.take n) * 2 ^ (16 - n) = x := ⟨_, rfl⟩
      obtain ⟨x, hx⟩ := hsh
      have hsh : wrap64 (((Bt.numH (u.take n) : Nat) : Int) * 2 ^ (16 - n)) = (x : Int) := by
        have e : ((Bt.numH (u.take n) : Nat) : Int) * 2 ^ (16 - n) = (x : Int) := by rw [Bt.pow_cast, ← hx, Int.natCast_mul]
        rw [e]
        rw [hx] at hmul
        exact IntWalk.wrap64_in _ ⟨by omega, by omega⟩
      by_cases hend : nx R 17 ≤ x
      · have hr := rdF_bad R hG u n hn hnu hc (by rw [hx]; exact hend)
        rw [← HF.out] at hr
        have HP : Hid (∀ d, ReadPost w B gr h v l p R (.returned (.tuple #[.int .i64 0, .iface 35 (.int .i64 2)])) (wr.drewN d)) := Lib.hid (fun d => (HPOST.out _ _).2 (by rw [hr]; exact ⟨rfl, HR.out.1.mono (drewN_below _ _), HR.out.2.trans (Ch.of_below (T := fun _ => False) (drewN_below wr d)) (fun _ h => h.elim)⟩))
        clear hr hat HPOST HF hpp hp16 hmul hx
        have dd : decide (((nx R 17 : Nat) : Int) ≤ wrap64 (((Bt.numH (u.take n) : Nat) : Int) * 2 ^ (16 - n))) = true := by rw [hsh]; simpa using hend
        clear hsh
        generalize Bt.numH (u.take n) = c at *
        generalize fst R n = f at *
        generalize (R n).length = rl at *
        generalize nx R 17 = en at *
        go_wp2
        go_quiet (fail)
        go_wp2
        go_ret2
        exact HP.out _
      · have dd : decide (((nx R 17 : Nat) : Int) ≤ wrap64 (((Bt.numH (u.take n) : Nat) : Int) * 2 ^ (16 - n))) = false := by rw [hsh]; exact decide_eq_false (fun h => hend (Int.ofNat_le.1 h))
        obtain ⟨hn16, hr⟩ := rdF_more R hG u n hn hnu hc (by rw [hx]; exact Nat.lt_of_not_le hend)
        clear hpp hp16 hmul hx hsh hend
        have hfn2 : fst R (n + 1) ≤ 2 * Bt.numH (u.take n) := by
          have e1 : fst R (n + 1) = 2 * nx R (n + 1) := rfl
          have e2 := nx_succ R n
          omega
        have HMR := Lib.hid (HF.out.trans hr)
        have hlen : 8 * l.length - (p + n) = u.length - n := by rw [HUL.out]; omega
        by_cases hend2 : u.length = n
        · have hr2 := rdF_end R u n hn16 (by omega)
          rw [← HMR.out] at hr2
          have HP : Hid (∀ d w', Below (wr.drewN d).heap.size (wr.drewN d) w' → ReadPost w B gr h v l p R (.returned (.tuple #[.int .i64 0, .iface 35 (.int .i64 8)])) w') := Lib.hid (fun d w' hb => (HPOST.out _ _).2 (by
            rw [hr2, hend2]
            have hb2 : Below wr.heap.size wr w' := (drewN_below wr d).trans hb
            exact ⟨rfl, HR.out.1.mono hb2, HR.out.2.trans (Ch.of_below (T := fun _ => False) hb2) (fun _ h => h.elim)⟩))
          have HSH := Lib.hid (fun d => take_short (wr.drewN d) B gr h v l (p + n) 1 (HR.out.1.mono (drewN_below _ _)) (by have := HUL.out; omega) (by have := HL.out; omega) (by omega) (by omega))
          clear hr hr2 hat HPOST HF HMR hlen
          generalize Bt.numH (u.take n) = c at *
          generalize fst R n = f at *
          generalize (R n).length = rl at *
          generalize nx R 17 = en at *
          go_wp2
          go_quiet (fail)
          go_wp2_with fail
          refine (HSH.out _).mono ?_
          rintro e w' ⟨rfl, hb⟩
          have HPP := Lib.hid (HP.out _ _ hb)
          clear hb
          go_wp2
          go_ret2
          exact HPP.out
        · have hnl : n < u.length := by omega
          have hbit := numH_bit u n hnl
          have HTK := Lib.hid (fun d => takeR_ok (wr.drewN d) B gr h v l (p + n) 1 (HR.out.1.mono (drewN_below _ _)) (by have := HR.out.2.size; show B ≤ wr.heap.size; omega) (by have := HL.out; omega) (by omega) (by have := HUL.out; omega))
          have HBV : Hid (Bt.num h (((Bt.rbits h l).drop (p + n)).take 1) = (u.getD n false).toNat) := Lib.hid (by rw [HUD.out n]; exact take_bit h u n hnl)
          have HC2 : Hid (∀ d w', Ch (wr.drewN d) w' (fun k => k = gr) → Ch w w' (fun k => k = gr)) := Lib.hid (fun d w' hc =>
            (HR.out.2.trans (Ch.of_below (T := fun _ => False) (drewN_below wr d)) (fun _ h => h.elim)).trans hc (fun _ h => .inl h))
          have HOR := Lib.hid (or_bit2 (Bt.numH (u.take n)) (u.getD n false) (by omega))
          have HBIT := Lib.hid hbit
          have hfin : fst R (n + 1) ≤ 2 * Bt.numH (u.take n) + (u.getD n false).toNat := by omega
          have HFIN := Lib.hid hfin
          clear hr hat HPOST HF hlen hbit hfin hfn2
          generalize Bt.numH (u.take n) = c at *
          generalize fst R n = f at *
          generalize (R n).length = rl at *
          generalize nx R 17 = en at *
          generalize (u.getD n false) = bt at *
          go_wp2
          go_quiet (fail)
          go_wp2_with fail
          refine (HTK.out _).mono ?_
          rintro e w' ⟨rfl, hrd, hch⟩
          rw [HBV.out]
          have HRD := Lib.hid (And.intro hrd (HC2.out _ _ hch))
          clear hrd hch
          have hbt : bt.toNat ≤ 1 := Bool.toNat_le bt
          go_wp2
          go_roundg (17 - (n + 1))
          case measure => omega
          case rel => exact ⟨n + 1, by omega, rfl, by go_num, int_eq (by rw [HBIT.out]; exact HOR.out), by omega, by rw [HBIT.out]; exact HFIN.out, HRD, HMR⟩
end Bk
end Go.Proofs.Ytnlbomijnldlmaa
