/- match's forest.enter: its contract. -/
import Derived.Test.YtdojhglpiejfjaaDoorZ10
import Derived.Deep.RegionHeld3
import Derived.StillTailTactics
import Derived.Deep.QuietTactic
import Derived.BigQuiet
set_option linter.unusedSimpArgs false
set_option linter.unusedVariables false
section
namespace Go.Proofs.YtdojhglpiejfjaaDoor
open Go.RowKit Go.Maps

theorem EnPost.mono {w w1 w2 : World} {g mb bb : Nat} {a : Option Addr} {cap N n : Nat} {l : List UInt8} {t base : Nat} {v : Value} {R : List (Nat × Nat)} {e : Ending} (h : EnPost w g mb bb a cap N n l t base v R e w1) (hb : Below w1.heap.size w1 w2) : EnPost w g mb bb a cap N n l t base v R e w2 := by
  obtain ⟨v', Rt, h1, h2, h3, ⟨top, f, tr, k1, k2, k3⟩, h5, h6⟩ := h
  exact ⟨v', Rt, h1, h2, own_below h3 hb, ⟨top, f, tr, k1.kept (T := fun _ => False) (Ch.of_below hb) (fun h => h) (fun h => h) (fun h => h) (fun _ _ h => h), k2, k3⟩, h5.trans (Ch.of_below (T := fun _ => False) hb) (fun _ h => h.elim), h6⟩
theorem rep_bound {f : Nat → Bool → Int} {v : Int} {s : Lz.T} {x : Nat} (h : Lz.Rep f v s) (hs : ∀ y, s.mem y → y < x) : -1 ≤ v ∧ v < x := by
  cases s with
  | nil => have : v = -1 := h; omega
  | node y l r => have h1 : v = (y : Int) := h.1; have := hs y (.inl rfl); omega
theorem cell_keep {w : World} {b o o' : Nat} {u v : Value} (h : o' ≠ o) (hc : w.cell? ⟨b, o', none⟩ = some u) : (w.setCell ⟨b, o, none⟩ v).drew.cell? ⟨b, o', none⟩ = some u :=
  (World.cell?_setCell_other w ⟨b, o, none⟩ ⟨b, o', none⟩ v (fun e => h (by cases e; rfl))).trans hc
theorem Bs.front {w : World} {a : Option Addr} {len cap : Nat} {l : List UInt8} (h : Bs w a len cap l) (n : Nat) (hn : n ≤ len) : Bs w a n cap (l.take n) :=
  ⟨by have := h.hlen; simp; omega, by have := h.hle; omega, by have := h.hcap; omega, h.hmax, h.hnil, fun i hi => by
    obtain ⟨b, off, e, hb, hc⟩ := h.at' i (by omega)
    exact ⟨b, off, e, hb, by rw [hc]; simp [gb, List.getD, hi]⟩⟩
section
variable {w : World} {g mb bb : Nat} {a : Option Addr} {cap N n : Nat} {l : List UInt8}
set_option maxRecDepth 100000 in
set_option maxHeartbeats 16000000 in
theorem enter_any (t base : Nat) (v : Value) (R : List (Nat × Nat)) (h : En w g mb bb a cap N n l t) (ht : t < N) (hN : N ≤ 1048576) (hn : n < 2000000) (hv : w.ownsRow base 108 2 v R.length (rvs R)) (hbase : base ≤ w.heap.size) (hR : R.length ≤ 1000000000)
    (hvn : ∀ b, v.ownBlock = some b → b ≠ g ∧ b ≠ mb ∧ b ≠ bb ∧ ∀ ad, a = some ad → b ≠ ad.block) (hdb : Db w) (hdz : 0 < mb ∧ 0 < bb ∧ 0 < base) :
    Calls Tryd.prog 41 #[.pointer (some ⟨g, 0, none⟩), .int .i64 (t : Nat), v] w (EnPost w g mb bb a cap N n l t base v R) := by
  obtain ⟨top, f, tr, hfm, hfo, hrep⟩ := h.ex
  obtain ⟨ab, ao, rfl, hab, _⟩ := hfm.txt.at' 0 (by omega)
  have hcap := hfm.txt.hle
  have cg0 : w.cell? ⟨g, 0, none⟩ = some (.slice (some ⟨ab, ao, none⟩) N cap) := by rw [cell_of_row _ _ _ _ _ (0, 0) hfm.row]; rfl
  obtain ⟨m, hm⟩ : ∃ m, Lz.L N t = m := ⟨_, rfl⟩
  have HM := Lib.hid hm
  have hm1 : t + m ≤ N := by rw [← hm]; unfold Lz.L; omega
  have hm2 : 1 ≤ m ∧ m ≤ 258 := by rw [← hm]; unfold Lz.L; omega
  have hmin : (if (N : Int) < (t : Int) + 258 then (N : Int) else (t : Int) + 258) = ((t + m : Nat) : Int) := by
    rw [← hm]; unfold Lz.L; split <;> omega
  have wr1 : IntKind.i64.wrap ((t : Int) + 258) = (t : Int) + 258 := IntWalk.i64_in _ ⟨by omega, by omega⟩
  have i1 : (t : Int) ≤ ((t + m : Nat) : Int) := by omega
  have i2 : ((t + m : Nat) : Int) ≤ (cap : Int) := by omega
  have hct : ¬ cap = t := by omega
  have htm : t + m - t = m := by omega
  obtain ⟨ct, hct2⟩ : ∃ ct, cap - t = ct := ⟨_, rfl⟩
  have HCT := Lib.hid hct2
  have hmct : m ≤ ct := by omega
  have HFM := Lib.hid hfm
  have HFO := Lib.hid hfo
  have HREP := Lib.hid hrep
  have HV := Lib.hid hv
  have HLT := Lib.hid hfm.lt
  have HVN := Lib.hid hvn
  have HDB := Lib.hid hdb
  clear h hm hfm hfo hrep hv hvn hdb
  go_enter Tryd.func41, Tryd.ntmps41
  go_wp2_with fail
  go_quiet (fail)
  rename_i nq
  have HB1 := Lib.hid (dn_below w nq)
  clear cg0
  by_cases h3 : m < 3
  · have d3 : decide ((m : Int) < 3) = true := by simp; omega
    have HP : Hid (EnPost w g mb bb (some ⟨ab, ao, none⟩) cap N n l t base v R (.returned v) (w.drewN nq)) := Lib.hid (by
      have hs := HFO.out.short (by have := HM.out; unfold Lz.L at this; omega)
      refine ⟨v, [], rfl, hs.2, ?_, ⟨top, f, tr, (HFM.out.kept (T := fun _ => False) (Ch.of_below HB1.out) (fun h => h) (fun h => h) (fun h => h) (fun _ _ h => h)).more (by omega), hs.1, HREP.out⟩, Ch.of_below HB1.out, fun b hb => .inl hb⟩
      rw [List.append_nil]
      exact own_below HV.out HB1.out)
    go_wp2
    go_ret
    exact HP.out
  have d3 : decide ((m : Int) < 3) = false := by simp; omega
  have hc : ∀ i, i < 3 → (w.drewN nq).cell? ⟨ab, ao + t + i, none⟩ = some (.int .u8 (gb l (t + i))) := fun i hi => by
    obtain ⟨b', off', e1, _, c1⟩ := (HFM.out.txt.mono HB1.out).at' (t + i) (by omega)
    simp only [Option.some.injEq, Addr.mk.injEq, and_true] at e1
    obtain ⟨rfl, rfl⟩ := e1
    rw [Nat.add_assoc]; exact c1
  have k0 : (w.drewN nq).cell? ⟨ab, ao + t, none⟩ = some (.int .u8 (gb l t)) := hc 0 (by omega)
  have k1 := hc 1 (by omega)
  have k2 := hc 2 (by omega)
  have HCR := Lib.hid (crown_any (HFM.out.kept (T := fun _ => False) (Ch.of_below HB1.out) (fun h => h) (fun h => h) (fun h => h) (fun _ _ h => h)) t (by omega) (Lz.key (gb l) t) (key_k8 l t) hn)
  have harr : ∀ w : World, (Instr.arrayAt 102 (.slice (some ⟨ab, ao + t, none⟩) m ct)).run Tryd.prog w = .ok (.pointer (some ⟨ab, ao + t, none⟩)) w := fun w => run_arrayAt (P := Tryd.prog) w 102 5 3 _ _ _ Tryd.underlying102 (by omega)
  clear hc
  unfold kv Lz.key at HCR
  dsimp only at HCR
  go_wp2_with fail
  refine HCR.out.mono ?_
  rintro e w2 ⟨rfl, hfm2, hch2⟩
  have HF2 := Lib.hid (And.intro hfm2 ((Ch.of_below (T := fun b => b = mb) HB1.out).trans hch2 (fun n hn => .inl hn)))
  clear HCR harr k0 k1 k2 hfm2 hch2
  have ht2 := HREP.out (Lz.key (gb l) t) (key_k8 l t)
  have htv := HFM.out.tv (Lz.key (gb l) t)
  have hmem := HFO.out.mem (Lz.key (gb l) t)
  have hok := HFO.out.ok (Lz.key (gb l) t)
  have hlong := (HFO.out.long (by have := HM.out; omega)).2
  rw [HM.out] at hok hlong
  have HFIN : Hid (∀ (wr : World) (v1 : Value) (out : List (Nat × Nat)) (f' : Nat → Bool → Int), Lz.Goal (gb l) t m (tr (Lz.key (gb l) t)) f f' → out = Lz.recs (gb l) t m 0 (tr (Lz.key (gb l) t)) → Fm wr g mb bb (some ⟨ab, ao, none⟩) cap N (n + 1) l (fun j => if j = Lz.key (gb l) t then (t : Int) else top j) f' →
      wr.ownsRow base 108 2 v1 (R ++ out).length (rvs (R ++ out)) → Ch w wr (fun b => b = mb ∨ b = bb ∨ v.ownBlock = some b) → (∀ b, v1.ownBlock = some b → v.ownBlock = some b ∨ w.heap.size ≤ b) → EnPost w g mb bb (some ⟨ab, ao, none⟩) cap N n l t base v R (.returned v1) wr) := Lib.hid (fun wr v1 out f' h1 h2 h3 h4 h5 h6 =>
    es_fin HFO.out (by have := HM.out; omega) HREP.out (by rw [HM.out]; exact h1) (by rw [HM.out]; exact h2) h3 h4 h5 h6)
  have hst : Lz.Lp (gb l) t m (tr (Lz.key (gb l) t)) f (tr (Lz.key (gb l) t)) f (top (Lz.key (gb l) t)) t false t true 3 3 0 [] := Lz.Lp.start ht2 hok (fun y hy => (hmem y hy).1) (by omega) (fun y hy => Lz.key_cp (hmem y hy).2.2 (by omega))
  unfold Lz.key at hst htv hmem HFIN hlong
  obtain ⟨kk, hkk⟩ : ∃ kk, (gb l t, gb l (t + 1), gb l (t + 2)) = kk := ⟨_, rfl⟩
  rw [hkk] at hst htv hmem HFIN hlong HF2 ⊢
  have HS0 : Hid (∀ y, (tr kk).mem y → y < t) := Lib.hid (fun y hy => (hmem y hy).1)
  have HLO := Lib.hid hlong.len
  obtain ⟨nx0, hnx0⟩ : ∃ z, top kk = z := ⟨_, rfl⟩
  rw [hnx0] at hst htv ⊢
  have cg2 : w2.cell? ⟨g, 2, none⟩ = some (.slice (some ⟨bb, 0, none⟩) N N) := by rw [cell_of_row _ _ _ _ _ (0, 0) HF2.out.1.row]; rfl
  have i3 : (t : Int) < (N : Int) := by omega
  have HES0 : Hid (∀ k, Es w (w2.drewN k) g mb bb (some ⟨ab, ao, none⟩) cap N (n + 1) l t m base v R (fun j => if j = kk then (t : Int) else top j) (tr kk) f nx0 (t * 2) (t * 2 + 1) 3 3 0 v) := Lib.hid (fun k =>
    ⟨tr kk, f, t, false, t, true, [], hst, HF2.out.1.kept (T := fun _ => False) (Ch.of_below (dn_below w2 k)) (fun h => h) (fun h => h) (fun h => h) (fun _ _ h => h), by unfold sd; simp; omega, by unfold sd; simp; omega, by
      rw [List.append_nil]
      exact own_below (HF2.out.2.own HV.out (fun b hb e => (HVN.out b hb).2.1 e)) (dn_below w2 k), (HF2.out.2.wide (fun b hb => .inl (.inl hb))).trans (Ch.of_below (T := fun _ => False) (dn_below w2 k)) (fun _ h => h.elim), fun b hb => .inl hb⟩)
  have hdl : 0 < w.heap.size := by omega
  have HDB2 : Hid (∀ w', Ch w w' (fun b => b = mb ∨ b = bb ∨ v.ownBlock = some b) → Db w' ∧ 0 < w'.heap.size) := Lib.hid (fun w' hc => ⟨fun i hi => by
    rw [World.cell?_of_block (w := w) (hc.block 0 hdl (fun h => by
      rcases h with h | h | h
      · omega
      · omega
      · have := (HV.out.lt _ h).1; omega))]
    exact HDB.out i hi, Nat.lt_of_lt_of_le hdl hc.size⟩)
  have hnx : -1 ≤ nx0 ∧ nx0 < 1048576 := htv
  clear ht2 htv hmem hok hlong hst hnx0 HF2 HREP HFO HFM HV HB1
  go_wp2_with fail
  go_quiet (fail)
  clear cg2
  go_wp2
  go_loopw [2, 8, 9, 10, 11, 12, 13] (fun o nx lp rp p q gg wr => ∃ (ov : Value) (nxv : Int) (oL oR pN qN gN : Nat), ov = o ∧ nx = .int .i32 nxv ∧ lp = .pointer (some ⟨bb, oL, none⟩) ∧ rp = .pointer (some ⟨bb, oR, none⟩) ∧ p = .int .i64 pN ∧ q = .int .i64 qN ∧ gg = .int .i64 gN ∧ -1 ≤ nxv ∧ nxv < 1048576 ∧ pN ≤ 258 ∧ qN ≤ 258 ∧ gN ≤ 258 ∧
    Hid (Es w wr g mb bb (some ⟨ab, ao, none⟩) cap N (n + 1) l t m base v R (fun j => if j = kk then (t : Int) else top j) (tr kk) f nxv oL oR pN qN gN ov)) (fun _ nx _ _ _ _ _ _ => (intOf nx + 1).toNat)
  case atStart => exact ⟨v, nx0, t * 2, t * 2 + 1, 3, 3, 0, rfl, rfl, rfl, rfl, rfl, rfl, rfl, hnx.1, hnx.2, by omega, by omega, by omega, Lib.hid (HES0.out _)⟩
  case round =>
    clear hnx HES0
    obtain ⟨ov, nxv, oL, oR, pN, qN, gN, rfl, rfl, rfl, rfl, rfl, rfl, rfl, hn1, hn2, hp, hq, hgg, HES⟩ := hrel
    obtain ⟨s, f1, x1, c1, x2, c2, out, hlp, hfm, hoL, hoR, how, hch, hvb⟩ := HES.out
    have hx1 : x1 < N := by rcases hlp.o1 with h | h; omega; have := HS0.out _ h; omega
    have hx2 : x2 < N := by rcases hlp.o2 with h | h; omega; have := HS0.out _ h; omega
    have kL := hfm.cell x1 c1 hx1
    have kR := hfm.cell x2 c2 hx2
    have fL := hfm.free (sd x1 c1)
    have fR := hfm.free (sd x2 c2)
    rw [← hoL] at kL fL
    rw [← hoR] at kR fR
    have hne : oL ≠ oR := fun e => hlp.ne (by
      rw [hoL, hoR] at e
      unfold sd at e
      cases c1 <;> cases c2 <;> simp at e ⊢ <;> omega)
    have hvb2 : ∀ b, ov.ownBlock = some b → b ≠ bb ∧ b ≠ g ∧ b ≠ mb ∧ b ≠ ab := fun b hb => by
      rcases hvb b hb with h | h
      · have := HVN.out b h
        exact ⟨this.2.2.1, this.1, this.2.1, this.2.2.2 _ rfl⟩
      · have := HLT.out; exact ⟨by omega, by omega, by omega, by omega⟩
    cases s with
    | nil =>
      obtain rfl : nxv = -1 := hlp.rep
      have HP : Hid (EnPost w g mb bb (some ⟨ab, ao, none⟩) cap N n l t base v R (.returned ov) ((wr.setCell ⟨bb, oL, none⟩ (.int .i32 (-1))).setCell ⟨bb, oR, none⟩ (.int .i32 (-1)))) := Lib.hid (by
        have h2 := fm_two hfm x1 x2 c1 c2 hx1 hx2 (-1) (-1)
        have h3 := hlp.done rfl rfl
        rw [← hoL, ← hoR] at h2
        exact HFIN.out _ ov out _ h3.1 h3.2 h2.1 (h2.2.own how (fun b hb e => (hvb2 b hb).1 e)) (hch.trans h2.2 (fun n hn => .inl (.inr (.inl hn)))) hvb)
      clear hlp hfm how hch hvb hvb2 HES hoL hoR
      go_wp2
      go_ret
      exact HP.out
    | node x lt rt =>
      obtain rfl : nxv = (x : Int) := hlp.rep.1
      have hxt : x < t := hlp.lt x (.inl rfl)
      obtain ⟨fd, hfd⟩ : ∃ fd, t - x = fd := ⟨_, rfl⟩
      have e1 : (t : Int) - (x : Int) = (fd : Int) := by omega
      have d1 : ((x : Int) != -1) = true := by simp
      by_cases hfar : 32768 < fd
      · have HP : Hid (EnPost w g mb bb (some ⟨ab, ao, none⟩) cap N n l t base v R (.returned ov) ((wr.setCell ⟨bb, oL, none⟩ (.int .i32 (-1))).setCell ⟨bb, oR, none⟩ (.int .i32 (-1)))) := Lib.hid (by
          have h2 := fm_two hfm x1 x2 c1 c2 hx1 hx2 (-1) (-1)
          have h4 := Lz.split_far (b := gb l) (t := t) (n := m) (l := lt) (r := rt) (x := x) (g := gN) (by omega)
          have h3 := hlp.done h4.1 h4.2
          rw [← hoL, ← hoR] at h2
          exact HFIN.out _ ov out _ h3.1 h3.2 h2.1 (h2.2.own how (fun b hb e => (hvb2 b hb).1 e)) (hch.trans h2.2 (fun n hn => .inl (.inr (.inl hn)))) hvb)
        have d2 : decide ((fd : Int) ≤ 32768) = false := by simp; omega
        clear hlp hfm how hch hvb hvb2 HES hoL hoR hfd
        go_wp2
        go_ret
        exact HP.out
      · have d2 : decide ((fd : Int) ≤ 32768) = true := by simp; omega
        have HFAR : Hid (fd ≤ 32768) := Lib.hid (by omega)
        have d2n : decide (fd ≤ 32768) = true := by simp; omega
        have d2a : decide ((t : Int) - (x : Int) ≤ 32768) = true := by simp; omega
        obtain ⟨k, hk⟩ : ∃ k, min pN qN = k := ⟨_, rfl⟩
        have hmn : (if qN < pN then (qN : Int) else (pN : Int)) = (k : Int) := by rw [← hk]; split <;> omega
        have hkc : k ≤ Lz.cp (gb l) x t m := by rw [← hk]; exact hlp.least
        have hcm := Lz.cp_le (gb l) m x t
        have hkm : k ≤ m := by omega
        have hadd := Lz.cp_add hkc
        rw [Lz.cp_comm] at hadd
        obtain ⟨c, hc⟩ : ∃ c, Lz.cp (gb l) x t m = c := ⟨_, rfl⟩
        obtain ⟨j, hj⟩ : ∃ j, Lz.cp (gb l) (t + k) (x + k) (m - k) = j := ⟨_, rfl⟩
        rw [hj, hc] at hadd
        have cg0 : wr.cell? ⟨g, 0, none⟩ = some (.slice (some ⟨ab, ao, none⟩) N cap) := by rw [cell_of_row _ _ _ _ _ (0, 0) hfm.row]; rfl
        have hB0 : Bs wr (some ⟨ab, ao, none⟩) N cap l := hfm.txt
        have HC9 : Hid (∀ (w' : World) (a1 a2 : Option Addr) (n1 q1 n2 q2 : Nat), n1 = m - k → q1 = ct - k → n2 = N - (x + k) → q2 = cap - (x + k) → Below wr.heap.size wr w' → (¬ ct = k → a1 = some ⟨ab, ao + t + k, none⟩) → (¬ cap = x + k → a2 = some ⟨ab, ao + (x + k), none⟩) → Calls Tryd.prog 54 #[.slice a1 n1 q1, .slice a2 n2 q2] w' fun e w'' => e = .returned (.int .i64 (j : Nat)) ∧ Below w'.heap.size w' w'') := Lib.hid (fun w' a1 a2 n1 q1 n2 q2 en1 eq1 en2 eq2 hb h1 h2 => by
          have hct3 := HCT.out
          subst hct3
          subst en1 eq1 en2 eq2
          have hb0 := hB0.mono hb
          have hdbw := HDB2.out w' (hch.trans (Ch.of_below (T := fun _ => False) hb) (fun _ h => h.elim))
          have q1 := ((hb0.drop t (by omega) (some ⟨ab, ao + t, none⟩) (fun _ => rfl)).front m (by omega)).drop k hkm a1 h1
          have q2 := hb0.drop (x + k) (by omega) a2 h2
          have := common_any (gb l) (gb_lt l) (t + k) (x + k) a1 a2 (m - k) (cap - t - k) (N - (x + k)) (cap - (x + k)) _ _ w' q1 q2 (fun i hi => by
            rw [gb_dropped]
            have : gb ((l.drop t).take m) (k + i) = gb (l.drop t) (k + i) := by unfold gb; rw [List.getD, List.getD, List.getElem?_take, if_pos (by omega)]
            rw [this, gb_dropped]; congr 1; omega) (fun i hi => by rw [gb_dropped]) (by omega) hdbw.1 hdbw.2 (by omega)
          rw [hj] at this
          exact this)
        obtain ⟨xk, hxk⟩ : ∃ xk, x + k = xk := ⟨_, rfl⟩
        rw [hxk] at HC9
        have wrx : IntKind.i64.wrap ((x : Int) + (k : Int)) = (xk : Int) := by rw [IntWalk.i64_in _ ⟨by omega, by omega⟩]; omega
        have wrx0 : IntKind.i64.wrap (x : Int) = (x : Int) := IntWalk.i64_in _ ⟨by omega, by omega⟩
        have i60 : (0 : Int) ≤ (xk : Int) := by omega
        have wrc : IntKind.i64.wrap ((k : Int) + (j : Int)) = (c : Int) := by rw [IntWalk.i64_in _ ⟨by omega, by omega⟩]; omega
        have i5 : (k : Int) ≤ (m : Int) := by omega
        have i6 : (xk : Int) ≤ (N : Int) := by omega
        have hcx : ¬ cap = xk := by omega
        have hc1 : c ≤ m := by omega
        have HLP := Lib.hid hlp
        have HF := Lib.hid hfm
        have HOW := Lib.hid how
        have HCH := Lib.hid hch
        have HVB := Lib.hid hvb
        have HVB2 := Lib.hid hvb2
        have HOLR := Lib.hid (And.intro hoL hoR)
        have HFD := Lib.hid (And.intro hfd hc)
        have HXX := Lib.hid (And.intro hxt hxk)
        have HBN := Lib.hid (And.intro hp (And.intro hq hgg))
        clear hlp hfm how hch hvb hvb2 HES hoL hoR hfd hB0 hadd hj hkc hk hc hcm hfar d2n d2a hxk
        by_cases hck : ct = k
        · have hk2 : k = ct := hck.symm
          clear hck
          subst hk2
          go_wp2_with fail
          go_region_held3 (fun w' => w'.cell? ⟨g, 0, none⟩ = some (.slice (some ⟨ab, ao, none⟩) N cap)) (go_keep)
            (first | (go_at_call 54; refine (HC9.out _ _ _ _ _ _ _ (by omega) (by omega) (by omega) (by omega) (dn_below wr 1) (fun h => by first | exact (h trivial).elim | exact (h rfl).elim) (fun _ => rfl)).mono ?_; rintro e w9 ⟨rfl, hb9⟩; have cg9 := (hb9.cell (p := ⟨g, 0, none⟩) (block_lt_of_cell cg0)).trans cg0))
          have HB9 : Hid (Below wr.heap.size wr w9) := Lib.hid (below_then (dn_below wr 1) hb9)
          clear hb9 HC9 cg0 cg9 kL kR fL fR
          have hfm9 := HF.out.kept (T := fun _ => False) (Ch.of_below HB9.out) (fun h => h) (fun h => h) (fun h => h) (fun _ _ h => h)
          have how9 := own_below HOW.out HB9.out
          have hch9 := HCH.out.trans (Ch.of_below (T := fun _ => False) HB9.out) (fun _ h => h.elim)
          have hz9 : w.heap.size ≤ w9.heap.size := hch9.size
          have hol : (R ++ out).length ≤ 1000000300 := by
            have h1 := congrArg List.length HLP.out.out'
            have h2 := HLO.out
            simp only [List.length_append] at h1 ⊢
            omega
          by_cases hgc : gN < c
          · have d8 : decide ((gN : Int) < (c : Int)) = true := by simp; omega
            have d8n : decide (gN < c) = true := by simp; omega
            have wu1 : IntKind.u16.wrap (c : Int) = (c : Int) := by simp only [IntKind.wrap, IntKind.signed, IntKind.bits]; first | omega | (simp; omega)
            have wu2 : IntKind.u16.wrap (fd : Int) = (fd : Int) := by have := HFAR.out; simp only [IntKind.wrap, IntKind.signed, IntKind.bits]; first | omega | (simp; omega)
            have HAL := Lib.hid (below_alloc w9 (.cells #[.int .u16 (c : Int), .int .u16 (fd : Int)] 108))
            have o9 := own_below how9 HAL.out
            have s9 := src_rec w9 (c, fd)
            dsimp only at s9
            have H9 := Lib.hid (And.intro hfm9 hch9)
            have hb9 : base ≤ w9.heap.size + 1 := by omega
            clear hfm9 how9 hch9
            go_wp2_with (at_builtin; refine wpl_append2 tyRec rfl _ _ rfl o9 s9 rfl rfl (by omega) (by omega) (by omega) (by simp; omega) ?_)
            intro vz wz own5 st5
            have chz : Ch w9 wz (fun b => ov.ownBlock = some b) := (Ch.of_below (T := fun b => ov.ownBlock = some b) HAL.out).trans (Ch.step st5) (fun n hn => .inl hn)
            have HFz := Lib.hid (H9.out.1.kept chz (fun h => (HVB2.out _ h).2.1 rfl) (fun h => (HVB2.out _ h).2.2.1 rfl) (fun h => (HVB2.out _ h).1 rfl) (fun ad e h => by cases e; exact (HVB2.out _ h).2.2.2 rfl))
            have hm1 : Lz.more gN c fd = [(c, fd)] := if_pos hgc
            have HOz : Hid (wz.ownsRow base 108 2 vz (R ++ (out ++ Lz.more gN c fd)).length (rvs (R ++ (out ++ Lz.more gN c fd)))) := Lib.hid (by
              have e9 : (R ++ (out ++ [(c, fd)])).length = R.length + out.length + 1 := by simp; omega
              rw [hm1, e9, ← List.append_assoc, rvs_append]
              exact own5)
            have HCz : Hid (Ch w wz (fun b => b = mb ∨ b = bb ∨ v.ownBlock = some b)) := Lib.hid (H9.out.2.trans chz (fun n hn => by
              rcases HVB.out n hn with h | h
              · exact .inl (.inr (.inr h))
              · exact .inr h))
            have HVz : Hid (∀ b, vz.ownBlock = some b → v.ownBlock = some b ∨ w.heap.size ≤ b) := Lib.hid (fun b hb => by
              rcases st5.block b hb with h | h
              · exact HVB.out b h
              · exact .inr (by simp at h; omega))
            have HMXG : Hid (max gN c = c) := Lib.hid (by omega)
            clear own5 st5 chz hm1 o9 s9 hb9 H9 HAL wu1 wu2 d8 d8n hgc hol
            have hfz := HFz.out
            have cz0 : wz.cell? ⟨g, 0, none⟩ = some (.slice (some ⟨ab, ao, none⟩) N cap) := by rw [cell_of_row _ _ _ _ _ (0, 0) hfz.row]; rfl
            have cz2 : wz.cell? ⟨g, 2, none⟩ = some (.slice (some ⟨bb, 0, none⟩) N N) := by rw [cell_of_row _ _ _ _ _ (0, 0) hfz.row]; rfl
            have hxN : x < N := by have := HXX.out.1; omega
            have i7 : (x : Int) < (N : Int) := by omega
            have kx0 := hfz.cell x false hxN
            have kx1 := hfz.cell x true hxN
            rw [show sd x false = x * 2 by unfold sd; simp; omega] at kx0
            rw [show sd x true = x * 2 + 1 by unfold sd; simp; omega] at kx1
            have kL := hfz.cell x1 c1 hx1
            have kR := hfz.cell x2 c2 hx2
            rw [← HOLR.out.1] at kL
            rw [← HOLR.out.2] at kR
            have fL := hfz.free oL
            have fR := hfz.free oR
            have HVz2 : Hid (∀ b, vz.ownBlock = some b → b ≠ bb ∧ b ≠ g ∧ b ≠ mb ∧ b ≠ ab) := Lib.hid (fun b hb => by
              rcases HVz.out b hb with h | h
              · have := HVN.out b h
                exact ⟨this.2.2.1, this.1, this.2.1, this.2.2.2 _ rfl⟩
              · have := HLT.out; exact ⟨by omega, by omega, by omega, by omega⟩)
            have hx1x : x1 ≠ x := fun e => HLP.out.n1 (.inl e)
            have hx2x : x2 ≠ x := fun e => HLP.out.n2 (.inl e)
            have m1 : x * 2 ≠ oL := by rw [HOLR.out.1]; unfold sd; cases c1 <;> simp <;> omega
            have m2 : x * 2 + 1 ≠ oL := by rw [HOLR.out.1]; unfold sd; cases c1 <;> simp <;> omega
            have m3 : x * 2 ≠ oR := by rw [HOLR.out.2]; unfold sd; cases c2 <;> simp <;> omega
            have m4 : x * 2 + 1 ≠ oR := by rw [HOLR.out.2]; unfold sd; cases c2 <;> simp <;> omega
            have ht0 : t ≤ 1048576 := by omega
            have hfarn : ¬ 32768 < t - x := by have := HFAR.out; have := HFD.out.1; omega
            by_cases hcm : c = m
            · have d9 : ((c : Int) == (m : Int)) = true := by rw [hcm]; simp
              have d9n : (c == m) = true := by rw [hcm]; simp
              have d9m : decide (c = m) = true := by rw [hcm]; simp
              have HCM := Lib.hid hcm
              have HP : Hid (EnPost w g mb bb (some ⟨ab, ao, none⟩) cap N n l t base v R (.returned vz) ((wz.setCell ⟨bb, oL, none⟩ (.int .i32 (f1 x false))).setCell ⟨bb, oR, none⟩ (.int .i32 (f1 x true)))) := Lib.hid (by
                have h2 := fm_two hfz x1 x2 c1 c2 hx1 hx2 (f1 x false) (f1 x true)
                have h3 := HLP.out.like hfarn (by rw [HFD.out.2]; exact hcm)
                rw [← HOLR.out.1, ← HOLR.out.2] at h2
                rw [HFD.out.2, HFD.out.1] at h3
                exact HFIN.out _ vz _ _ h3.1 h3.2 h2.1 (h2.2.own HOz.out (fun b hb e => (HVz2.out b hb).1 e)) (HCz.out.trans h2.2 (fun n hn => .inl (.inr (.inl hn)))) HVz.out)
              clear hcm hfz hfarn
              go_wp2_with fail
              have t1 := cell_keep (v := .int .i32 (f1 x false)) m1 kx0
              have t2 := cell_keep (v := .int .i32 (f1 x false)) m2 kx1
              have t3 := cell_keep (v := .int .i32 (f1 x true)) m3 t1
              have t4 := cell_keep (v := .int .i32 (f1 x true)) m4 t2
              go_region_held3 (fun w' => w'.cell? ⟨bb, x * 2, none⟩ = some (.int .i32 (f1 x false)) ∧ w'.cell? ⟨bb, x * 2 + 1, none⟩ = some (.int .i32 (f1 x true))) (first | exact ⟨t1, t2⟩ | exact ⟨t3, t4⟩ | go_keep) (fail)
              go_wp2
              go_ret
              exact HP.out.mono (dn_below _ 1)
            · have d9 : ((c : Int) == (m : Int)) = false := by simpa using fun e => hcm (by omega)
              have d9n : (c == m) = false := by simpa using hcm
              have d9m : decide (c = m) = false := by simpa using hcm
              obtain ⟨xc, hxc⟩ : ∃ xc, x + c = xc := ⟨_, rfl⟩
              have wrxc : IntKind.i64.wrap ((x : Int) + (c : Int)) = (xc : Int) := by rw [IntWalk.i64_in _ ⟨by omega, by omega⟩]; omega
              have i8 : (xc : Int) < (N : Int) := by have := HXX.out.1; omega
              have i80 : (0 : Int) ≤ (xc : Int) := by omega
              have i9 : (c : Int) < (m : Int) := by omega
              have cX : wz.cell? ⟨ab, ao + xc, none⟩ = some (.int .u8 (gb l xc)) := by
                obtain ⟨b', off', e1', _, q1⟩ := hfz.txt.at' xc (by omega)
                simp only [Option.some.injEq, Addr.mk.injEq, and_true] at e1'
                obtain ⟨rfl, rfl⟩ := e1'
                exact q1
              have cT : wz.cell? ⟨ab, ao + t + c, none⟩ = some (.int .u8 (gb l (t + c))) := by
                obtain ⟨b', off', e1', _, q1⟩ := hfz.txt.at' (t + c) (by omega)
                simp only [Option.some.injEq, Addr.mk.injEq, and_true] at e1'
                obtain ⟨rfl, rfl⟩ := e1'
                rw [Nat.add_assoc]; exact q1
              obtain ⟨gx, hgx⟩ : ∃ gx, gb l xc = gx := ⟨_, rfl⟩
              obtain ⟨gt, hgt⟩ : ∃ gt, gb l (t + c) = gt := ⟨_, rfl⟩
              rw [hgx] at cX
              rw [hgt] at cT
              by_cases hlt : gb l (x + c) < gb l (t + c)
              · have hxg : gx < gt := by rw [← hgx, ← hgt, ← hxc]; exact hlt
                have HXC := Lib.hid (And.intro hxc (And.intro hgx hgt))
                clear hxc hgx hgt
                have d10 : decide ((gx : Int) < (gt : Int)) = true := by simp; omega
                have d10n : decide (gx < gt) = true := by simp; omega
                have hlp2 := HLP.out.right hfarn (by rw [HFD.out.2]; exact hcm) (by rw [HFD.out.2]; exact hlt)
                rw [HFD.out.2, HFD.out.1, HMXG.out] at hlp2
                have hbd := rep_bound hlp2.rep (fun y hy => (HLP.out.ok.2.1 y hy).1)
                have HLP2 := Lib.hid hlp2
                obtain ⟨z, hz⟩ : ∃ z, f1 x true = z := ⟨_, rfl⟩
                rw [hz] at kx1 hbd
                have HZ := Lib.hid hz
                clear hlp2 hlt hz hcm hfarn hfz
                go_wp2_with fail
                go_quiet (fail)
                rename_i nq
                have HBq := Lib.hid (dn_below wz nq)
                have kq : (World.drewN wz nq).cell? ⟨bb, x * 2 + 1, none⟩ = some (.int .i32 z) := kx1
                have kLq : (World.drewN wz nq).cell? ⟨bb, oL, none⟩ = some (.int .i32 (f1 x1 c1)) := kL
                have kRq : (World.drewN wz nq).cell? ⟨bb, oR, none⟩ = some (.int .i32 (f1 x2 c2)) := kR
                have fLq : (World.drewN wz nq).frozen? ⟨bb, oL, none⟩ = false := fL
                have fRq : (World.drewN wz nq).frozen? ⟨bb, oR, none⟩ = false := fR
                clear kL kR fL fR kx0 kx1 cz0 cz2 cX cT
                revert HBq kq kLq kRq fLq fRq
                generalize World.drewN wz nq = wq
                intro HBq kq kLq kRq fLq fRq
                have t1 : (wq.setCell ⟨bb, oL, none⟩ (.int .i32 (x : Int))).drew.cell? ⟨bb, x * 2 + 1, none⟩ = some (.int .i32 z) := cell_keep m2 kq
                have HES2 : Hid (∀ wF, Below (wq.setCell ⟨bb, oL, none⟩ (.int .i32 (x : Int))).heap.size (wq.setCell ⟨bb, oL, none⟩ (.int .i32 (x : Int))) wF → Es w wF g mb bb (some ⟨ab, ao, none⟩) cap N (n + 1) l t m base v R (fun j => if j = kk then (t : Int) else top j) (tr kk) f z (x * 2 + 1) oR c qN c vz) := Lib.hid (fun wF hb => by
                  have f0 := (HFz.out.kept (T := fun _ => False) (Ch.of_below HBq.out) (fun h => h) (fun h => h) (fun h => h) (fun _ _ h => h)).set x1 c1 hx1 (x : Int)
                  rw [← HOLR.out.1] at f0
                  have hc0 : Ch wz wF (fun b => b = bb) := ((Ch.of_below (T := fun b => b = bb) HBq.out).trans f0.2 (fun n hn => .inl hn)).trans (Ch.of_below (T := fun _ => False) hb) (fun _ h => h.elim)
                  have h3 := HLP2.out
                  rw [HZ.out] at h3
                  exact ⟨_, _, x, true, x2, c2, _, h3, f0.1.kept (T := fun _ => False) (Ch.of_below hb) (fun h => h) (fun h => h) (fun h => h) (fun _ _ h => h), (by unfold sd; simp; omega), HOLR.out.2, hc0.own HOz.out (fun b hb2 e => (HVz2.out b hb2).1 e), HCz.out.trans hc0 (fun n hn => .inl (.inr (.inl hn))), HVz.out⟩)
                go_wp2_with fail
                go_region_held3 (fun _ => True) (trivial) (fail)
                go_wp2
                
                go_roundw
                case rel => exact ⟨vz, z, x * 2 + 1, oR, c, qN, c, rfl, rfl, rfl, rfl, rfl, rfl, rfl, hbd.1, by omega, by omega, HBN.out.2.1, by omega, Lib.hid (HES2.out _ (dn_below _ 1))⟩
                case measure => simp [intOf]; omega
              · have hxg : ¬ gx < gt := by rw [← hgx, ← hgt, ← hxc]; exact hlt
                have HXC := Lib.hid (And.intro hxc (And.intro hgx hgt))
                clear hxc hgx hgt
                have d10 : decide ((gx : Int) < (gt : Int)) = false := by simp; omega
                have d10n : decide (gx < gt) = false := by simp; omega
                have hlp2 := HLP.out.left hfarn (by rw [HFD.out.2]; exact hcm) (by rw [HFD.out.2]; exact hlt)
                rw [HFD.out.2, HFD.out.1, HMXG.out] at hlp2
                have hbd := rep_bound hlp2.rep (fun y hy => (HLP.out.ok.1 y hy).1)
                have HLP2 := Lib.hid hlp2
                obtain ⟨z, hz⟩ : ∃ z, f1 x false = z := ⟨_, rfl⟩
                rw [hz] at kx0 hbd
                have HZ := Lib.hid hz
                clear hlp2 hlt hz hcm hfarn hfz
                go_wp2_with fail
                go_quiet (fail)
                rename_i nq
                have HBq := Lib.hid (dn_below wz nq)
                have kq : (World.drewN wz nq).cell? ⟨bb, x * 2, none⟩ = some (.int .i32 z) := kx0
                have kLq : (World.drewN wz nq).cell? ⟨bb, oL, none⟩ = some (.int .i32 (f1 x1 c1)) := kL
                have kRq : (World.drewN wz nq).cell? ⟨bb, oR, none⟩ = some (.int .i32 (f1 x2 c2)) := kR
                have fLq : (World.drewN wz nq).frozen? ⟨bb, oL, none⟩ = false := fL
                have fRq : (World.drewN wz nq).frozen? ⟨bb, oR, none⟩ = false := fR
                clear kL kR fL fR kx0 kx1 cz0 cz2 cX cT
                revert HBq kq kLq kRq fLq fRq
                generalize World.drewN wz nq = wq
                intro HBq kq kLq kRq fLq fRq
                have t1 : (wq.setCell ⟨bb, oR, none⟩ (.int .i32 (x : Int))).drew.cell? ⟨bb, x * 2, none⟩ = some (.int .i32 z) := cell_keep m3 kq
                have HES2 : Hid (∀ wF, Below (wq.setCell ⟨bb, oR, none⟩ (.int .i32 (x : Int))).heap.size (wq.setCell ⟨bb, oR, none⟩ (.int .i32 (x : Int))) wF → Es w wF g mb bb (some ⟨ab, ao, none⟩) cap N (n + 1) l t m base v R (fun j => if j = kk then (t : Int) else top j) (tr kk) f z oL (x * 2) pN c c vz) := Lib.hid (fun wF hb => by
                  have f0 := (HFz.out.kept (T := fun _ => False) (Ch.of_below HBq.out) (fun h => h) (fun h => h) (fun h => h) (fun _ _ h => h)).set x2 c2 hx2 (x : Int)
                  rw [← HOLR.out.2] at f0
                  have hc0 : Ch wz wF (fun b => b = bb) := ((Ch.of_below (T := fun b => b = bb) HBq.out).trans f0.2 (fun n hn => .inl hn)).trans (Ch.of_below (T := fun _ => False) hb) (fun _ h => h.elim)
                  have h3 := HLP2.out
                  rw [HZ.out] at h3
                  exact ⟨_, _, x1, c1, x, false, _, h3, f0.1.kept (T := fun _ => False) (Ch.of_below hb) (fun h => h) (fun h => h) (fun h => h) (fun _ _ h => h), HOLR.out.1, (by unfold sd; simp; omega), hc0.own HOz.out (fun b hb2 e => (HVz2.out b hb2).1 e), HCz.out.trans hc0 (fun n hn => .inl (.inr (.inl hn))), HVz.out⟩)
                go_wp2_with fail
                go_region_held3 (fun _ => True) (trivial) (fail)
                go_wp2
                
                go_roundw
                case rel => exact ⟨vz, z, oL, x * 2, pN, c, c, rfl, rfl, rfl, rfl, rfl, rfl, rfl, hbd.1, by omega, HBN.out.1, by omega, by omega, Lib.hid (HES2.out _ (dn_below _ 1))⟩
                case measure => simp [intOf]; omega
          · have d8 : decide ((gN : Int) < (c : Int)) = false := by simp; omega
            have d8n : decide (gN < c) = false := by simp; omega
            have hm1 : Lz.more gN c fd = [] := if_neg hgc
            have HFz := Lib.hid hfm9
            have HOz : Hid (w9.ownsRow base 108 2 ov (R ++ (out ++ Lz.more gN c fd)).length (rvs (R ++ (out ++ Lz.more gN c fd)))) := Lib.hid (by
              rw [hm1, List.append_nil]
              exact how9)
            have HCz := Lib.hid hch9
            have HVz := HVB
            have HMXG : Hid (max gN c = gN) := Lib.hid (by omega)
            clear hfm9 how9 hch9 hm1 hgc hol
            have hfz := HFz.out
            have cz0 : w9.cell? ⟨g, 0, none⟩ = some (.slice (some ⟨ab, ao, none⟩) N cap) := by rw [cell_of_row _ _ _ _ _ (0, 0) hfz.row]; rfl
            have cz2 : w9.cell? ⟨g, 2, none⟩ = some (.slice (some ⟨bb, 0, none⟩) N N) := by rw [cell_of_row _ _ _ _ _ (0, 0) hfz.row]; rfl
            have hxN : x < N := by have := HXX.out.1; omega
            have i7 : (x : Int) < (N : Int) := by omega
            have kx0 := hfz.cell x false hxN
            have kx1 := hfz.cell x true hxN
            rw [show sd x false = x * 2 by unfold sd; simp; omega] at kx0
            rw [show sd x true = x * 2 + 1 by unfold sd; simp; omega] at kx1
            have kL := hfz.cell x1 c1 hx1
            have kR := hfz.cell x2 c2 hx2
            rw [← HOLR.out.1] at kL
            rw [← HOLR.out.2] at kR
            have fL := hfz.free oL
            have fR := hfz.free oR
            have HVz2 : Hid (∀ b, ov.ownBlock = some b → b ≠ bb ∧ b ≠ g ∧ b ≠ mb ∧ b ≠ ab) := Lib.hid (fun b hb => by
              rcases HVz.out b hb with h | h
              · have := HVN.out b h
                exact ⟨this.2.2.1, this.1, this.2.1, this.2.2.2 _ rfl⟩
              · have := HLT.out; exact ⟨by omega, by omega, by omega, by omega⟩)
            have hx1x : x1 ≠ x := fun e => HLP.out.n1 (.inl e)
            have hx2x : x2 ≠ x := fun e => HLP.out.n2 (.inl e)
            have m1 : x * 2 ≠ oL := by rw [HOLR.out.1]; unfold sd; cases c1 <;> simp <;> omega
            have m2 : x * 2 + 1 ≠ oL := by rw [HOLR.out.1]; unfold sd; cases c1 <;> simp <;> omega
            have m3 : x * 2 ≠ oR := by rw [HOLR.out.2]; unfold sd; cases c2 <;> simp <;> omega
            have m4 : x * 2 + 1 ≠ oR := by rw [HOLR.out.2]; unfold sd; cases c2 <;> simp <;> omega
            have ht0 : t ≤ 1048576 := by omega
            have hfarn : ¬ 32768 < t - x := by have := HFAR.out; have := HFD.out.1; omega
            by_cases hcm : c = m
            · have d9 : ((c : Int) == (m : Int)) = true := by rw [hcm]; simp
              have d9n : (c == m) = true := by rw [hcm]; simp
              have d9m : decide (c = m) = true := by rw [hcm]; simp
              have HCM := Lib.hid hcm
              have HP : Hid (EnPost w g mb bb (some ⟨ab, ao, none⟩) cap N n l t base v R (.returned ov) ((w9.setCell ⟨bb, oL, none⟩ (.int .i32 (f1 x false))).setCell ⟨bb, oR, none⟩ (.int .i32 (f1 x true)))) := Lib.hid (by
                have h2 := fm_two hfz x1 x2 c1 c2 hx1 hx2 (f1 x false) (f1 x true)
                have h3 := HLP.out.like hfarn (by rw [HFD.out.2]; exact hcm)
                rw [← HOLR.out.1, ← HOLR.out.2] at h2
                rw [HFD.out.2, HFD.out.1] at h3
                exact HFIN.out _ ov _ _ h3.1 h3.2 h2.1 (h2.2.own HOz.out (fun b hb e => (HVz2.out b hb).1 e)) (HCz.out.trans h2.2 (fun n hn => .inl (.inr (.inl hn)))) HVz.out)
              clear hcm hfz hfarn
              go_wp2_with fail
              have t1 := cell_keep (v := .int .i32 (f1 x false)) m1 kx0
              have t2 := cell_keep (v := .int .i32 (f1 x false)) m2 kx1
              have t3 := cell_keep (v := .int .i32 (f1 x true)) m3 t1
              have t4 := cell_keep (v := .int .i32 (f1 x true)) m4 t2
              go_region_held3 (fun w' => w'.cell? ⟨bb, x * 2, none⟩ = some (.int .i32 (f1 x false)) ∧ w'.cell? ⟨bb, x * 2 + 1, none⟩ = some (.int .i32 (f1 x true))) (first | exact ⟨t1, t2⟩ | exact ⟨t3, t4⟩ | go_keep) (fail)
              go_wp2
              go_ret
              exact HP.out.mono (dn_below _ 1)
            · have d9 : ((c : Int) == (m : Int)) = false := by simpa using fun e => hcm (by omega)
              have d9n : (c == m) = false := by simpa using hcm
              have d9m : decide (c = m) = false := by simpa using hcm
              obtain ⟨xc, hxc⟩ : ∃ xc, x + c = xc := ⟨_, rfl⟩
              have wrxc : IntKind.i64.wrap ((x : Int) + (c : Int)) = (xc : Int) := by rw [IntWalk.i64_in _ ⟨by omega, by omega⟩]; omega
              have i8 : (xc : Int) < (N : Int) := by have := HXX.out.1; omega
              have i80 : (0 : Int) ≤ (xc : Int) := by omega
              have i9 : (c : Int) < (m : Int) := by omega
              have cX : w9.cell? ⟨ab, ao + xc, none⟩ = some (.int .u8 (gb l xc)) := by
                obtain ⟨b', off', e1', _, q1⟩ := hfz.txt.at' xc (by omega)
                simp only [Option.some.injEq, Addr.mk.injEq, and_true] at e1'
                obtain ⟨rfl, rfl⟩ := e1'
                exact q1
              have cT : w9.cell? ⟨ab, ao + t + c, none⟩ = some (.int .u8 (gb l (t + c))) := by
                obtain ⟨b', off', e1', _, q1⟩ := hfz.txt.at' (t + c) (by omega)
                simp only [Option.some.injEq, Addr.mk.injEq, and_true] at e1'
                obtain ⟨rfl, rfl⟩ := e1'
                rw [Nat.add_assoc]; exact q1
              obtain ⟨gx, hgx⟩ : ∃ gx, gb l xc = gx := ⟨_, rfl⟩
              obtain ⟨gt, hgt⟩ : ∃ gt, gb l (t + c) = gt := ⟨_, rfl⟩
              rw [hgx] at cX
              rw [hgt] at cT
              by_cases hlt : gb l (x + c) < gb l (t + c)
              · have hxg : gx < gt := by rw [← hgx, ← hgt, ← hxc]; exact hlt
                have HXC := Lib.hid (And.intro hxc (And.intro hgx hgt))
                clear hxc hgx hgt
                have d10 : decide ((gx : Int) < (gt : Int)) = true := by simp; omega
                have d10n : decide (gx < gt) = true := by simp; omega
                have hlp2 := HLP.out.right hfarn (by rw [HFD.out.2]; exact hcm) (by rw [HFD.out.2]; exact hlt)
                rw [HFD.out.2, HFD.out.1, HMXG.out] at hlp2
                have hbd := rep_bound hlp2.rep (fun y hy => (HLP.out.ok.2.1 y hy).1)
                have HLP2 := Lib.hid hlp2
                obtain ⟨z, hz⟩ : ∃ z, f1 x true = z := ⟨_, rfl⟩
                rw [hz] at kx1 hbd
                have HZ := Lib.hid hz
                clear hlp2 hlt hz hcm hfarn hfz
                go_wp2_with fail
                go_quiet (fail)
                rename_i nq
                have HBq := Lib.hid (dn_below w9 nq)
                have kq : (World.drewN w9 nq).cell? ⟨bb, x * 2 + 1, none⟩ = some (.int .i32 z) := kx1
                have kLq : (World.drewN w9 nq).cell? ⟨bb, oL, none⟩ = some (.int .i32 (f1 x1 c1)) := kL
                have kRq : (World.drewN w9 nq).cell? ⟨bb, oR, none⟩ = some (.int .i32 (f1 x2 c2)) := kR
                have fLq : (World.drewN w9 nq).frozen? ⟨bb, oL, none⟩ = false := fL
                have fRq : (World.drewN w9 nq).frozen? ⟨bb, oR, none⟩ = false := fR
                clear kL kR fL fR kx0 kx1 cz0 cz2 cX cT
                revert HBq kq kLq kRq fLq fRq
                generalize World.drewN w9 nq = wq
                intro HBq kq kLq kRq fLq fRq
                have t1 : (wq.setCell ⟨bb, oL, none⟩ (.int .i32 (x : Int))).drew.cell? ⟨bb, x * 2 + 1, none⟩ = some (.int .i32 z) := cell_keep m2 kq
                have HES2 : Hid (∀ wF, Below (wq.setCell ⟨bb, oL, none⟩ (.int .i32 (x : Int))).heap.size (wq.setCell ⟨bb, oL, none⟩ (.int .i32 (x : Int))) wF → Es w wF g mb bb (some ⟨ab, ao, none⟩) cap N (n + 1) l t m base v R (fun j => if j = kk then (t : Int) else top j) (tr kk) f z (x * 2 + 1) oR c qN gN ov) := Lib.hid (fun wF hb => by
                  have f0 := (HFz.out.kept (T := fun _ => False) (Ch.of_below HBq.out) (fun h => h) (fun h => h) (fun h => h) (fun _ _ h => h)).set x1 c1 hx1 (x : Int)
                  rw [← HOLR.out.1] at f0
                  have hc0 : Ch w9 wF (fun b => b = bb) := ((Ch.of_below (T := fun b => b = bb) HBq.out).trans f0.2 (fun n hn => .inl hn)).trans (Ch.of_below (T := fun _ => False) hb) (fun _ h => h.elim)
                  have h3 := HLP2.out
                  rw [HZ.out] at h3
                  exact ⟨_, _, x, true, x2, c2, _, h3, f0.1.kept (T := fun _ => False) (Ch.of_below hb) (fun h => h) (fun h => h) (fun h => h) (fun _ _ h => h), (by unfold sd; simp; omega), HOLR.out.2, hc0.own HOz.out (fun b hb2 e => (HVz2.out b hb2).1 e), HCz.out.trans hc0 (fun n hn => .inl (.inr (.inl hn))), HVz.out⟩)
                go_wp2_with fail
                go_region_held3 (fun _ => True) (trivial) (fail)
                go_wp2
                
                go_roundw
                case rel => exact ⟨ov, z, x * 2 + 1, oR, c, qN, gN, rfl, rfl, rfl, rfl, rfl, rfl, rfl, hbd.1, by omega, by omega, HBN.out.2.1, by omega, Lib.hid (HES2.out _ (dn_below _ 1))⟩
                case measure => simp [intOf]; omega
              · have hxg : ¬ gx < gt := by rw [← hgx, ← hgt, ← hxc]; exact hlt
                have HXC := Lib.hid (And.intro hxc (And.intro hgx hgt))
                clear hxc hgx hgt
                have d10 : decide ((gx : Int) < (gt : Int)) = false := by simp; omega
                have d10n : decide (gx < gt) = false := by simp; omega
                have hlp2 := HLP.out.left hfarn (by rw [HFD.out.2]; exact hcm) (by rw [HFD.out.2]; exact hlt)
                rw [HFD.out.2, HFD.out.1, HMXG.out] at hlp2
                have hbd := rep_bound hlp2.rep (fun y hy => (HLP.out.ok.1 y hy).1)
                have HLP2 := Lib.hid hlp2
                obtain ⟨z, hz⟩ : ∃ z, f1 x false = z := ⟨_, rfl⟩
                rw [hz] at kx0 hbd
                have HZ := Lib.hid hz
                clear hlp2 hlt hz hcm hfarn hfz
                go_wp2_with fail
                go_quiet (fail)
                rename_i nq
                have HBq := Lib.hid (dn_below w9 nq)
                have kq : (World.drewN w9 nq).cell? ⟨bb, x * 2, none⟩ = some (.int .i32 z) := kx0
                have kLq : (World.drewN w9 nq).cell? ⟨bb, oL, none⟩ = some (.int .i32 (f1 x1 c1)) := kL
                have kRq : (World.drewN w9 nq).cell? ⟨bb, oR, none⟩ = some (.int .i32 (f1 x2 c2)) := kR
                have fLq : (World.drewN w9 nq).frozen? ⟨bb, oL, none⟩ = false := fL
                have fRq : (World.drewN w9 nq).frozen? ⟨bb, oR, none⟩ = false := fR
                clear kL kR fL fR kx0 kx1 cz0 cz2 cX cT
                revert HBq kq kLq kRq fLq fRq
                generalize World.drewN w9 nq = wq
                intro HBq kq kLq kRq fLq fRq
                have t1 : (wq.setCell ⟨bb, oR, none⟩ (.int .i32 (x : Int))).drew.cell? ⟨bb, x * 2, none⟩ = some (.int .i32 z) := cell_keep m3 kq
                have HES2 : Hid (∀ wF, Below (wq.setCell ⟨bb, oR, none⟩ (.int .i32 (x : Int))).heap.size (wq.setCell ⟨bb, oR, none⟩ (.int .i32 (x : Int))) wF → Es w wF g mb bb (some ⟨ab, ao, none⟩) cap N (n + 1) l t m base v R (fun j => if j = kk then (t : Int) else top j) (tr kk) f z oL (x * 2) pN c gN ov) := Lib.hid (fun wF hb => by
                  have f0 := (HFz.out.kept (T := fun _ => False) (Ch.of_below HBq.out) (fun h => h) (fun h => h) (fun h => h) (fun _ _ h => h)).set x2 c2 hx2 (x : Int)
                  rw [← HOLR.out.2] at f0
                  have hc0 : Ch w9 wF (fun b => b = bb) := ((Ch.of_below (T := fun b => b = bb) HBq.out).trans f0.2 (fun n hn => .inl hn)).trans (Ch.of_below (T := fun _ => False) hb) (fun _ h => h.elim)
                  have h3 := HLP2.out
                  rw [HZ.out] at h3
                  exact ⟨_, _, x1, c1, x, false, _, h3, f0.1.kept (T := fun _ => False) (Ch.of_below hb) (fun h => h) (fun h => h) (fun h => h) (fun _ _ h => h), HOLR.out.1, (by unfold sd; simp; omega), hc0.own HOz.out (fun b hb2 e => (HVz2.out b hb2).1 e), HCz.out.trans hc0 (fun n hn => .inl (.inr (.inl hn))), HVz.out⟩)
                go_wp2_with fail
                go_region_held3 (fun _ => True) (trivial) (fail)
                go_wp2
                
                go_roundw
                case rel => exact ⟨ov, z, oL, x * 2, pN, c, gN, rfl, rfl, rfl, rfl, rfl, rfl, rfl, hbd.1, by omega, HBN.out.1, by omega, by omega, Lib.hid (HES2.out _ (dn_below _ 1))⟩
                case measure => simp [intOf]; omega
        · go_wp2_with fail
          go_region_held3 (fun w' => w'.cell? ⟨g, 0, none⟩ = some (.slice (some ⟨ab, ao, none⟩) N cap)) (go_keep)
            (first | (go_at_call 54; refine (HC9.out _ _ _ _ _ _ _ (by omega) (by omega) (by omega) (by omega) (dn_below wr 1) (fun h => rfl) (fun _ => rfl)).mono ?_; rintro e w9 ⟨rfl, hb9⟩; have cg9 := (hb9.cell (p := ⟨g, 0, none⟩) (block_lt_of_cell cg0)).trans cg0))
          have HB9 : Hid (Below wr.heap.size wr w9) := Lib.hid (below_then (dn_below wr 1) hb9)
          clear hb9 HC9 cg0 cg9 kL kR fL fR
          have hfm9 := HF.out.kept (T := fun _ => False) (Ch.of_below HB9.out) (fun h => h) (fun h => h) (fun h => h) (fun _ _ h => h)
          have how9 := own_below HOW.out HB9.out
          have hch9 := HCH.out.trans (Ch.of_below (T := fun _ => False) HB9.out) (fun _ h => h.elim)
          have hz9 : w.heap.size ≤ w9.heap.size := hch9.size
          have hol : (R ++ out).length ≤ 1000000300 := by
            have h1 := congrArg List.length HLP.out.out'
            have h2 := HLO.out
            simp only [List.length_append] at h1 ⊢
            omega
          by_cases hgc : gN < c
          · have d8 : decide ((gN : Int) < (c : Int)) = true := by simp; omega
            have d8n : decide (gN < c) = true := by simp; omega
            have wu1 : IntKind.u16.wrap (c : Int) = (c : Int) := by simp only [IntKind.wrap, IntKind.signed, IntKind.bits]; first | omega | (simp; omega)
            have wu2 : IntKind.u16.wrap (fd : Int) = (fd : Int) := by have := HFAR.out; simp only [IntKind.wrap, IntKind.signed, IntKind.bits]; first | omega | (simp; omega)
            have HAL := Lib.hid (below_alloc w9 (.cells #[.int .u16 (c : Int), .int .u16 (fd : Int)] 108))
            have o9 := own_below how9 HAL.out
            have s9 := src_rec w9 (c, fd)
            dsimp only at s9
            have H9 := Lib.hid (And.intro hfm9 hch9)
            have hb9 : base ≤ w9.heap.size + 1 := by omega
            clear hfm9 how9 hch9
            go_wp2_with (at_builtin; refine wpl_append2 tyRec rfl _ _ rfl o9 s9 rfl rfl (by omega) (by omega) (by omega) (by simp; omega) ?_)
            intro vz wz own5 st5
            have chz : Ch w9 wz (fun b => ov.ownBlock = some b) := (Ch.of_below (T := fun b => ov.ownBlock = some b) HAL.out).trans (Ch.step st5) (fun n hn => .inl hn)
            have HFz := Lib.hid (H9.out.1.kept chz (fun h => (HVB2.out _ h).2.1 rfl) (fun h => (HVB2.out _ h).2.2.1 rfl) (fun h => (HVB2.out _ h).1 rfl) (fun ad e h => by cases e; exact (HVB2.out _ h).2.2.2 rfl))
            have hm1 : Lz.more gN c fd = [(c, fd)] := if_pos hgc
            have HOz : Hid (wz.ownsRow base 108 2 vz (R ++ (out ++ Lz.more gN c fd)).length (rvs (R ++ (out ++ Lz.more gN c fd)))) := Lib.hid (by
              have e9 : (R ++ (out ++ [(c, fd)])).length = R.length + out.length + 1 := by simp; omega
              rw [hm1, e9, ← List.append_assoc, rvs_append]
              exact own5)
            have HCz : Hid (Ch w wz (fun b => b = mb ∨ b = bb ∨ v.ownBlock = some b)) := Lib.hid (H9.out.2.trans chz (fun n hn => by
              rcases HVB.out n hn with h | h
              · exact .inl (.inr (.inr h))
              · exact .inr h))
            have HVz : Hid (∀ b, vz.ownBlock = some b → v.ownBlock = some b ∨ w.heap.size ≤ b) := Lib.hid (fun b hb => by
              rcases st5.block b hb with h | h
              · exact HVB.out b h
              · exact .inr (by simp at h; omega))
            have HMXG : Hid (max gN c = c) := Lib.hid (by omega)
            clear own5 st5 chz hm1 o9 s9 hb9 H9 HAL wu1 wu2 d8 d8n hgc hol
            have hfz := HFz.out
            have cz0 : wz.cell? ⟨g, 0, none⟩ = some (.slice (some ⟨ab, ao, none⟩) N cap) := by rw [cell_of_row _ _ _ _ _ (0, 0) hfz.row]; rfl
            have cz2 : wz.cell? ⟨g, 2, none⟩ = some (.slice (some ⟨bb, 0, none⟩) N N) := by rw [cell_of_row _ _ _ _ _ (0, 0) hfz.row]; rfl
            have hxN : x < N := by have := HXX.out.1; omega
            have i7 : (x : Int) < (N : Int) := by omega
            have kx0 := hfz.cell x false hxN
            have kx1 := hfz.cell x true hxN
            rw [show sd x false = x * 2 by unfold sd; simp; omega] at kx0
            rw [show sd x true = x * 2 + 1 by unfold sd; simp; omega] at kx1
            have kL := hfz.cell x1 c1 hx1
            have kR := hfz.cell x2 c2 hx2
            rw [← HOLR.out.1] at kL
            rw [← HOLR.out.2] at kR
            have fL := hfz.free oL
            have fR := hfz.free oR
            have HVz2 : Hid (∀ b, vz.ownBlock = some b → b ≠ bb ∧ b ≠ g ∧ b ≠ mb ∧ b ≠ ab) := Lib.hid (fun b hb => by
              rcases HVz.out b hb with h | h
              · have := HVN.out b h
                exact ⟨this.2.2.1, this.1, this.2.1, this.2.2.2 _ rfl⟩
              · have := HLT.out; exact ⟨by omega, by omega, by omega, by omega⟩)
            have hx1x : x1 ≠ x := fun e => HLP.out.n1 (.inl e)
            have hx2x : x2 ≠ x := fun e => HLP.out.n2 (.inl e)
            have m1 : x * 2 ≠ oL := by rw [HOLR.out.1]; unfold sd; cases c1 <;> simp <;> omega
            have m2 : x * 2 + 1 ≠ oL := by rw [HOLR.out.1]; unfold sd; cases c1 <;> simp <;> omega
            have m3 : x * 2 ≠ oR := by rw [HOLR.out.2]; unfold sd; cases c2 <;> simp <;> omega
            have m4 : x * 2 + 1 ≠ oR := by rw [HOLR.out.2]; unfold sd; cases c2 <;> simp <;> omega
            have ht0 : t ≤ 1048576 := by omega
            have hfarn : ¬ 32768 < t - x := by have := HFAR.out; have := HFD.out.1; omega
            by_cases hcm : c = m
            · have d9 : ((c : Int) == (m : Int)) = true := by rw [hcm]; simp
              have d9n : (c == m) = true := by rw [hcm]; simp
              have d9m : decide (c = m) = true := by rw [hcm]; simp
              have HCM := Lib.hid hcm
              have HP : Hid (EnPost w g mb bb (some ⟨ab, ao, none⟩) cap N n l t base v R (.returned vz) ((wz.setCell ⟨bb, oL, none⟩ (.int .i32 (f1 x false))).setCell ⟨bb, oR, none⟩ (.int .i32 (f1 x true)))) := Lib.hid (by
                have h2 := fm_two hfz x1 x2 c1 c2 hx1 hx2 (f1 x false) (f1 x true)
                have h3 := HLP.out.like hfarn (by rw [HFD.out.2]; exact hcm)
                rw [← HOLR.out.1, ← HOLR.out.2] at h2
                rw [HFD.out.2, HFD.out.1] at h3
                exact HFIN.out _ vz _ _ h3.1 h3.2 h2.1 (h2.2.own HOz.out (fun b hb e => (HVz2.out b hb).1 e)) (HCz.out.trans h2.2 (fun n hn => .inl (.inr (.inl hn)))) HVz.out)
              clear hcm hfz hfarn
              go_wp2_with fail
              have t1 := cell_keep (v := .int .i32 (f1 x false)) m1 kx0
              have t2 := cell_keep (v := .int .i32 (f1 x false)) m2 kx1
              have t3 := cell_keep (v := .int .i32 (f1 x true)) m3 t1
              have t4 := cell_keep (v := .int .i32 (f1 x true)) m4 t2
              go_region_held3 (fun w' => w'.cell? ⟨bb, x * 2, none⟩ = some (.int .i32 (f1 x false)) ∧ w'.cell? ⟨bb, x * 2 + 1, none⟩ = some (.int .i32 (f1 x true))) (first | exact ⟨t1, t2⟩ | exact ⟨t3, t4⟩ | go_keep) (fail)
              go_wp2
              go_ret
              exact HP.out.mono (dn_below _ 1)
            · have d9 : ((c : Int) == (m : Int)) = false := by simpa using fun e => hcm (by omega)
              have d9n : (c == m) = false := by simpa using hcm
              have d9m : decide (c = m) = false := by simpa using hcm
              obtain ⟨xc, hxc⟩ : ∃ xc, x + c = xc := ⟨_, rfl⟩
              have wrxc : IntKind.i64.wrap ((x : Int) + (c : Int)) = (xc : Int) := by rw [IntWalk.i64_in _ ⟨by omega, by omega⟩]; omega
              have i8 : (xc : Int) < (N : Int) := by have := HXX.out.1; omega
              have i80 : (0 : Int) ≤ (xc : Int) := by omega
              have i9 : (c : Int) < (m : Int) := by omega
              have cX : wz.cell? ⟨ab, ao + xc, none⟩ = some (.int .u8 (gb l xc)) := by
                obtain ⟨b', off', e1', _, q1⟩ := hfz.txt.at' xc (by omega)
                simp only [Option.some.injEq, Addr.mk.injEq, and_true] at e1'
                obtain ⟨rfl, rfl⟩ := e1'
                exact q1
              have cT : wz.cell? ⟨ab, ao + t + c, none⟩ = some (.int .u8 (gb l (t + c))) := by
                obtain ⟨b', off', e1', _, q1⟩ := hfz.txt.at' (t + c) (by omega)
                simp only [Option.some.injEq, Addr.mk.injEq, and_true] at e1'
                obtain ⟨rfl, rfl⟩ := e1'
                rw [Nat.add_assoc]; exact q1
              obtain ⟨gx, hgx⟩ : ∃ gx, gb l xc = gx := ⟨_, rfl⟩
              obtain ⟨gt, hgt⟩ : ∃ gt, gb l (t + c) = gt := ⟨_, rfl⟩
              rw [hgx] at cX
              rw [hgt] at cT
              by_cases hlt : gb l (x + c) < gb l (t + c)
              · have hxg : gx < gt := by rw [← hgx, ← hgt, ← hxc]; exact hlt
                have HXC := Lib.hid (And.intro hxc (And.intro hgx hgt))
                clear hxc hgx hgt
                have d10 : decide ((gx : Int) < (gt : Int)) = true := by simp; omega
                have d10n : decide (gx < gt) = true := by simp; omega
                have hlp2 := HLP.out.right hfarn (by rw [HFD.out.2]; exact hcm) (by rw [HFD.out.2]; exact hlt)
                rw [HFD.out.2, HFD.out.1, HMXG.out] at hlp2
                have hbd := rep_bound hlp2.rep (fun y hy => (HLP.out.ok.2.1 y hy).1)
                have HLP2 := Lib.hid hlp2
                obtain ⟨z, hz⟩ : ∃ z, f1 x true = z := ⟨_, rfl⟩
                rw [hz] at kx1 hbd
                have HZ := Lib.hid hz
                clear hlp2 hlt hz hcm hfarn hfz
                go_wp2_with fail
                go_quiet (fail)
                rename_i nq
                have HBq := Lib.hid (dn_below wz nq)
                have kq : (World.drewN wz nq).cell? ⟨bb, x * 2 + 1, none⟩ = some (.int .i32 z) := kx1
                have kLq : (World.drewN wz nq).cell? ⟨bb, oL, none⟩ = some (.int .i32 (f1 x1 c1)) := kL
                have kRq : (World.drewN wz nq).cell? ⟨bb, oR, none⟩ = some (.int .i32 (f1 x2 c2)) := kR
                have fLq : (World.drewN wz nq).frozen? ⟨bb, oL, none⟩ = false := fL
                have fRq : (World.drewN wz nq).frozen? ⟨bb, oR, none⟩ = false := fR
                clear kL kR fL fR kx0 kx1 cz0 cz2 cX cT
                revert HBq kq kLq kRq fLq fRq
                generalize World.drewN wz nq = wq
                intro HBq kq kLq kRq fLq fRq
                have t1 : (wq.setCell ⟨bb, oL, none⟩ (.int .i32 (x : Int))).drew.cell? ⟨bb, x * 2 + 1, none⟩ = some (.int .i32 z) := cell_keep m2 kq
                have HES2 : Hid (∀ wF, Below (wq.setCell ⟨bb, oL, none⟩ (.int .i32 (x : Int))).heap.size (wq.setCell ⟨bb, oL, none⟩ (.int .i32 (x : Int))) wF → Es w wF g mb bb (some ⟨ab, ao, none⟩) cap N (n + 1) l t m base v R (fun j => if j = kk then (t : Int) else top j) (tr kk) f z (x * 2 + 1) oR c qN c vz) := Lib.hid (fun wF hb => by
                  have f0 := (HFz.out.kept (T := fun _ => False) (Ch.of_below HBq.out) (fun h => h) (fun h => h) (fun h => h) (fun _ _ h => h)).set x1 c1 hx1 (x : Int)
                  rw [← HOLR.out.1] at f0
                  have hc0 : Ch wz wF (fun b => b = bb) := ((Ch.of_below (T := fun b => b = bb) HBq.out).trans f0.2 (fun n hn => .inl hn)).trans (Ch.of_below (T := fun _ => False) hb) (fun _ h => h.elim)
                  have h3 := HLP2.out
                  rw [HZ.out] at h3
                  exact ⟨_, _, x, true, x2, c2, _, h3, f0.1.kept (T := fun _ => False) (Ch.of_below hb) (fun h => h) (fun h => h) (fun h => h) (fun _ _ h => h), (by unfold sd; simp; omega), HOLR.out.2, hc0.own HOz.out (fun b hb2 e => (HVz2.out b hb2).1 e), HCz.out.trans hc0 (fun n hn => .inl (.inr (.inl hn))), HVz.out⟩)
                go_wp2_with fail
                go_region_held3 (fun _ => True) (trivial) (fail)
                go_wp2
                
                go_roundw
                case rel => exact ⟨vz, z, x * 2 + 1, oR, c, qN, c, rfl, rfl, rfl, rfl, rfl, rfl, rfl, hbd.1, by omega, by omega, HBN.out.2.1, by omega, Lib.hid (HES2.out _ (dn_below _ 1))⟩
                case measure => simp [intOf]; omega
              · have hxg : ¬ gx < gt := by rw [← hgx, ← hgt, ← hxc]; exact hlt
                have HXC := Lib.hid (And.intro hxc (And.intro hgx hgt))
                clear hxc hgx hgt
                have d10 : decide ((gx : Int) < (gt : Int)) = false := by simp; omega
                have d10n : decide (gx < gt) = false := by simp; omega
                have hlp2 := HLP.out.left hfarn (by rw [HFD.out.2]; exact hcm) (by rw [HFD.out.2]; exact hlt)
                rw [HFD.out.2, HFD.out.1, HMXG.out] at hlp2
                have hbd := rep_bound hlp2.rep (fun y hy => (HLP.out.ok.1 y hy).1)
                have HLP2 := Lib.hid hlp2
                obtain ⟨z, hz⟩ : ∃ z, f1 x false = z := ⟨_, rfl⟩
                rw [hz] at kx0 hbd
                have HZ := Lib.hid hz
                clear hlp2 hlt hz hcm hfarn hfz
                go_wp2_with fail
                go_quiet (fail)
                rename_i nq
                have HBq := Lib.hid (dn_below wz nq)
                have kq : (World.drewN wz nq).cell? ⟨bb, x * 2, none⟩ = some (.int .i32 z) := kx0
                have kLq : (World.drewN wz nq).cell? ⟨bb, oL, none⟩ = some (.int .i32 (f1 x1 c1)) := kL
                have kRq : (World.drewN wz nq).cell? ⟨bb, oR, none⟩ = some (.int .i32 (f1 x2 c2)) := kR
                have fLq : (World.drewN wz nq).frozen? ⟨bb, oL, none⟩ = false := fL
                have fRq : (World.drewN wz nq).frozen? ⟨bb, oR, none⟩ = false := fR
                clear kL kR fL fR kx0 kx1 cz0 cz2 cX cT
                revert HBq kq kLq kRq fLq fRq
                generalize World.drewN wz nq = wq
                intro HBq kq kLq kRq fLq fRq
                have t1 : (wq.setCell ⟨bb, oR, none⟩ (.int .i32 (x : Int))).drew.cell? ⟨bb, x * 2, none⟩ = some (.int .i32 z) := cell_keep m3 kq
                have HES2 : Hid (∀ wF, Below (wq.setCell ⟨bb, oR, none⟩ (.int .i32 (x : Int))).heap.size (wq.setCell ⟨bb, oR, none⟩ (.int .i32 (x : Int))) wF → Es w wF g mb bb (some ⟨ab, ao, none⟩) cap N (n + 1) l t m base v R (fun j => if j = kk then (t : Int) else top j) (tr kk) f z oL (x * 2) pN c c vz) := Lib.hid (fun wF hb => by
                  have f0 := (HFz.out.kept (T := fun _ => False) (Ch.of_below HBq.out) (fun h => h) (fun h => h) (fun h => h) (fun _ _ h => h)).set x2 c2 hx2 (x : Int)
                  rw [← HOLR.out.2] at f0
                  have hc0 : Ch wz wF (fun b => b = bb) := ((Ch.of_below (T := fun b => b = bb) HBq.out).trans f0.2 (fun n hn => .inl hn)).trans (Ch.of_below (T := fun _ => False) hb) (fun _ h => h.elim)
                  have h3 := HLP2.out
                  rw [HZ.out] at h3
                  exact ⟨_, _, x1, c1, x, false, _, h3, f0.1.kept (T := fun _ => False) (Ch.of_below hb) (fun h => h) (fun h => h) (fun h => h) (fun _ _ h => h), HOLR.out.1, (by unfold sd; simp; omega), hc0.own HOz.out (fun b hb2 e => (HVz2.out b hb2).1 e), HCz.out.trans hc0 (fun n hn => .inl (.inr (.inl hn))), HVz.out⟩)
                go_wp2_with fail
                go_region_held3 (fun _ => True) (trivial) (fail)
                go_wp2
                
                go_roundw
                case rel => exact ⟨vz, z, oL, x * 2, pN, c, c, rfl, rfl, rfl, rfl, rfl, rfl, rfl, hbd.1, by omega, HBN.out.1, by omega, by omega, Lib.hid (HES2.out _ (dn_below _ 1))⟩
                case measure => simp [intOf]; omega
          · have d8 : decide ((gN : Int) < (c : Int)) = false := by simp; omega
            have d8n : decide (gN < c) = false := by simp; omega
            have hm1 : Lz.more gN c fd = [] := if_neg hgc
            have HFz := Lib.hid hfm9
            have HOz : Hid (w9.ownsRow base 108 2 ov (R ++ (out ++ Lz.more gN c fd)).length (rvs (R ++ (out ++ Lz.more gN c fd)))) := Lib.hid (by
              rw [hm1, List.append_nil]
              exact how9)
            have HCz := Lib.hid hch9
            have HVz := HVB
            have HMXG : Hid (max gN c = gN) := Lib.hid (by omega)
            clear hfm9 how9 hch9 hm1 hgc hol
            have hfz := HFz.out
            have cz0 : w9.cell? ⟨g, 0, none⟩ = some (.slice (some ⟨ab, ao, none⟩) N cap) := by rw [cell_of_row _ _ _ _ _ (0, 0) hfz.row]; rfl
            have cz2 : w9.cell? ⟨g, 2, none⟩ = some (.slice (some ⟨bb, 0, none⟩) N N) := by rw [cell_of_row _ _ _ _ _ (0, 0) hfz.row]; rfl
            have hxN : x < N := by have := HXX.out.1; omega
            have i7 : (x : Int) < (N : Int) := by omega
            have kx0 := hfz.cell x false hxN
            have kx1 := hfz.cell x true hxN
            rw [show sd x false = x * 2 by unfold sd; simp; omega] at kx0
            rw [show sd x true = x * 2 + 1 by unfold sd; simp; omega] at kx1
            have kL := hfz.cell x1 c1 hx1
            have kR := hfz.cell x2 c2 hx2
            rw [← HOLR.out.1] at kL
            rw [← HOLR.out.2] at kR
            have fL := hfz.free oL
            have fR := hfz.free oR
            have HVz2 : Hid (∀ b, ov.ownBlock = some b → b ≠ bb ∧ b ≠ g ∧ b ≠ mb ∧ b ≠ ab) := Lib.hid (fun b hb => by
              rcases HVz.out b hb with h | h
              · have := HVN.out b h
                exact ⟨this.2.2.1, this.1, this.2.1, this.2.2.2 _ rfl⟩
              · have := HLT.out; exact ⟨by omega, by omega, by omega, by omega⟩)
            have hx1x : x1 ≠ x := fun e => HLP.out.n1 (.inl e)
            have hx2x : x2 ≠ x := fun e => HLP.out.n2 (.inl e)
            have m1 : x * 2 ≠ oL := by rw [HOLR.out.1]; unfold sd; cases c1 <;> simp <;> omega
            have m2 : x * 2 + 1 ≠ oL := by rw [HOLR.out.1]; unfold sd; cases c1 <;> simp <;> omega
            have m3 : x * 2 ≠ oR := by rw [HOLR.out.2]; unfold sd; cases c2 <;> simp <;> omega
            have m4 : x * 2 + 1 ≠ oR := by rw [HOLR.out.2]; unfold sd; cases c2 <;> simp <;> omega
            have ht0 : t ≤ 1048576 := by omega
            have hfarn : ¬ 32768 < t - x := by have := HFAR.out; have := HFD.out.1; omega
            by_cases hcm : c = m
            · have d9 : ((c : Int) == (m : Int)) = true := by rw [hcm]; simp
              have d9n : (c == m) = true := by rw [hcm]; simp
              have d9m : decide (c = m) = true := by rw [hcm]; simp
              have HCM := Lib.hid hcm
              have HP : Hid (EnPost w g mb bb (some ⟨ab, ao, none⟩) cap N n l t base v R (.returned ov) ((w9.setCell ⟨bb, oL, none⟩ (.int .i32 (f1 x false))).setCell ⟨bb, oR, none⟩ (.int .i32 (f1 x true)))) := Lib.hid (by
                have h2 := fm_two hfz x1 x2 c1 c2 hx1 hx2 (f1 x false) (f1 x true)
                have h3 := HLP.out.like hfarn (by rw [HFD.out.2]; exact hcm)
                rw [← HOLR.out.1, ← HOLR.out.2] at h2
                rw [HFD.out.2, HFD.out.1] at h3
                exact HFIN.out _ ov _ _ h3.1 h3.2 h2.1 (h2.2.own HOz.out (fun b hb e => (HVz2.out b hb).1 e)) (HCz.out.trans h2.2 (fun n hn => .inl (.inr (.inl hn)))) HVz.out)
              clear hcm hfz hfarn
              go_wp2_with fail
              have t1 := cell_keep (v := .int .i32 (f1 x false)) m1 kx0
              have t2 := cell_keep (v := .int .i32 (f1 x false)) m2 kx1
              have t3 := cell_keep (v := .int .i32 (f1 x true)) m3 t1
              have t4 := cell_keep (v := .int .i32 (f1 x true)) m4 t2
              go_region_held3 (fun w' => w'.cell? ⟨bb, x * 2, none⟩ = some (.int .i32 (f1 x false)) ∧ w'.cell? ⟨bb, x * 2 + 1, none⟩ = some (.int .i32 (f1 x true))) (first | exact ⟨t1, t2⟩ | exact ⟨t3, t4⟩ | go_keep) (fail)
              go_wp2
              go_ret
              exact HP.out.mono (dn_below _ 1)
            · have d9 : ((c : Int) == (m : Int)) = false := by simpa using fun e => hcm (by omega)
              have d9n : (c == m) = false := by simpa using hcm
              have d9m : decide (c = m) = false := by simpa using hcm
              obtain ⟨xc, hxc⟩ : ∃ xc, x + c = xc := ⟨_, rfl⟩
              have wrxc : IntKind.i64.wrap ((x : Int) + (c : Int)) = (xc : Int) := by rw [IntWalk.i64_in _ ⟨by omega, by omega⟩]; omega
              have i8 : (xc : Int) < (N : Int) := by have := HXX.out.1; omega
              have i80 : (0 : Int) ≤ (xc : Int) := by omega
              have i9 : (c : Int) < (m : Int) := by omega
              have cX : w9.cell? ⟨ab, ao + xc, none⟩ = some (.int .u8 (gb l xc)) := by
                obtain ⟨b', off', e1', _, q1⟩ := hfz.txt.at' xc (by omega)
                simp only [Option.some.injEq, Addr.mk.injEq, and_true] at e1'
                obtain ⟨rfl, rfl⟩ := e1'
                exact q1
              have cT : w9.cell? ⟨ab, ao + t + c, none⟩ = some (.int .u8 (gb l (t + c))) := by
                obtain ⟨b', off', e1', _, q1⟩ := hfz.txt.at' (t + c) (by omega)
                simp only [Option.some.injEq, Addr.mk.injEq, and_true] at e1'
                obtain ⟨rfl, rfl⟩ := e1'
                rw [Nat.add_assoc]; exact q1
              obtain ⟨gx, hgx⟩ : ∃ gx, gb l xc = gx := ⟨_, rfl⟩
              obtain ⟨gt, hgt⟩ : ∃ gt, gb l (t + c) = gt := ⟨_, rfl⟩
              rw [hgx] at cX
              rw [hgt] at cT
              by_cases hlt : gb l (x + c) < gb l (t + c)
              · have hxg : gx < gt := by rw [← hgx, ← hgt, ← hxc]; exact hlt
                have HXC := Lib.hid (And.intro hxc (And.intro hgx hgt))
                clear hxc hgx hgt
                have d10 : decide ((gx : Int) < (gt : Int)) = true := by simp; omega
                have d10n : decide (gx < gt) = true := by simp; omega
                have hlp2 := HLP.out.right hfarn (by rw [HFD.out.2]; exact hcm) (by rw [HFD.out.2]; exact hlt)
                rw [HFD.out.2, HFD.out.1, HMXG.out] at hlp2
                have hbd := rep_bound hlp2.rep (fun y hy => (HLP.out.ok.2.1 y hy).1)
                have HLP2 := Lib.hid hlp2
                obtain ⟨z, hz⟩ : ∃ z, f1 x true = z := ⟨_, rfl⟩
                rw [hz] at kx1 hbd
                have HZ := Lib.hid hz
                clear hlp2 hlt hz hcm hfarn hfz
                go_wp2_with fail
                go_quiet (fail)
                rename_i nq
                have HBq := Lib.hid (dn_below w9 nq)
                have kq : (World.drewN w9 nq).cell? ⟨bb, x * 2 + 1, none⟩ = some (.int .i32 z) := kx1
                have kLq : (World.drewN w9 nq).cell? ⟨bb, oL, none⟩ = some (.int .i32 (f1 x1 c1)) := kL
                have kRq : (World.drewN w9 nq).cell? ⟨bb, oR, none⟩ = some (.int .i32 (f1 x2 c2)) := kR
                have fLq : (World.drewN w9 nq).frozen? ⟨bb, oL, none⟩ = false := fL
                have fRq : (World.drewN w9 nq).frozen? ⟨bb, oR, none⟩ = false := fR
                clear kL kR fL fR kx0 kx1 cz0 cz2 cX cT
                revert HBq kq kLq kRq fLq fRq
                generalize World.drewN w9 nq = wq
                intro HBq kq kLq kRq fLq fRq
                have t1 : (wq.setCell ⟨bb, oL, none⟩ (.int .i32 (x : Int))).drew.cell? ⟨bb, x * 2 + 1, none⟩ = some (.int .i32 z) := cell_keep m2 kq
                have HES2 : Hid (∀ wF, Below (wq.setCell ⟨bb, oL, none⟩ (.int .i32 (x : Int))).heap.size (wq.setCell ⟨bb, oL, none⟩ (.int .i32 (x : Int))) wF → Es w wF g mb bb (some ⟨ab, ao, none⟩) cap N (n + 1) l t m base v R (fun j => if j = kk then (t : Int) else top j) (tr kk) f z (x * 2 + 1) oR c qN gN ov) := Lib.hid (fun wF hb => by
                  have f0 := (HFz.out.kept (T := fun _ => False) (Ch.of_below HBq.out) (fun h => h) (fun h => h) (fun h => h) (fun _ _ h => h)).set x1 c1 hx1 (x : Int)
                  rw [← HOLR.out.1] at f0
                  have hc0 : Ch w9 wF (fun b => b = bb) := ((Ch.of_below (T := fun b => b = bb) HBq.out).trans f0.2 (fun n hn => .inl hn)).trans (Ch.of_below (T := fun _ => False) hb) (fun _ h => h.elim)
                  have h3 := HLP2.out
                  rw [HZ.out] at h3
                  exact ⟨_, _, x, true, x2, c2, _, h3, f0.1.kept (T := fun _ => False) (Ch.of_below hb) (fun h => h) (fun h => h) (fun h => h) (fun _ _ h => h), (by unfold sd; simp; omega), HOLR.out.2, hc0.own HOz.out (fun b hb2 e => (HVz2.out b hb2).1 e), HCz.out.trans hc0 (fun n hn => .inl (.inr (.inl hn))), HVz.out⟩)
                go_wp2_with fail
                go_region_held3 (fun _ => True) (trivial) (fail)
                go_wp2
                
                go_roundw
                case rel => exact ⟨ov, z, x * 2 + 1, oR, c, qN, gN, rfl, rfl, rfl, rfl, rfl, rfl, rfl, hbd.1, by omega, by omega, HBN.out.2.1, by omega, Lib.hid (HES2.out _ (dn_below _ 1))⟩
                case measure => simp [intOf]; omega
              · have hxg : ¬ gx < gt := by rw [← hgx, ← hgt, ← hxc]; exact hlt
                have HXC := Lib.hid (And.intro hxc (And.intro hgx hgt))
                clear hxc hgx hgt
                have d10 : decide ((gx : Int) < (gt : Int)) = false := by simp; omega
                have d10n : decide (gx < gt) = false := by simp; omega
                have hlp2 := HLP.out.left hfarn (by rw [HFD.out.2]; exact hcm) (by rw [HFD.out.2]; exact hlt)
                rw [HFD.out.2, HFD.out.1, HMXG.out] at hlp2
                have hbd := rep_bound hlp2.rep (fun y hy => (HLP.out.ok.1 y hy).1)
                have HLP2 := Lib.hid hlp2
                obtain ⟨z, hz⟩ : ∃ z, f1 x false = z := ⟨_, rfl⟩
                rw [hz] at kx0 hbd
                have HZ := Lib.hid hz
                clear hlp2 hlt hz hcm hfarn hfz
                go_wp2_with fail
                go_quiet (fail)
                rename_i nq
                have HBq := Lib.hid (dn_below w9 nq)
                have kq : (World.drewN w9 nq).cell? ⟨bb, x * 2, none⟩ = some (.int .i32 z) := kx0
                have kLq : (World.drewN w9 nq).cell? ⟨bb, oL, none⟩ = some (.int .i32 (f1 x1 c1)) := kL
                have kRq : (World.drewN w9 nq).cell? ⟨bb, oR, none⟩ = some (.int .i32 (f1 x2 c2)) := kR
                have fLq : (World.drewN w9 nq).frozen? ⟨bb, oL, none⟩ = false := fL
                have fRq : (World.drewN w9 nq).frozen? ⟨bb, oR, none⟩ = false := fR
                clear kL kR fL fR kx0 kx1 cz0 cz2 cX cT
                revert HBq kq kLq kRq fLq fRq
                generalize World.drewN w9 nq = wq
                intro HBq kq kLq kRq fLq fRq
                have t1 : (wq.setCell ⟨bb, oR, none⟩ (.int .i32 (x : Int))).drew.cell? ⟨bb, x * 2, none⟩ = some (.int .i32 z) := cell_keep m3 kq
                have HES2 : Hid (∀ wF, Below (wq.setCell ⟨bb, oR, none⟩ (.int .i32 (x : Int))).heap.size (wq.setCell ⟨bb, oR, none⟩ (.int .i32 (x : Int))) wF → Es w wF g mb bb (some ⟨ab, ao, none⟩) cap N (n + 1) l t m base v R (fun j => if j = kk then (t : Int) else top j) (tr kk) f z oL (x * 2) pN c gN ov) := Lib.hid (fun wF hb => by
                  have f0 := (HFz.out.kept (T := fun _ => False) (Ch.of_below HBq.out) (fun h => h) (fun h => h) (fun h => h) (fun _ _ h => h)).set x2 c2 hx2 (x : Int)
                  rw [← HOLR.out.2] at f0
                  have hc0 : Ch w9 wF (fun b => b = bb) := ((Ch.of_below (T := fun b => b = bb) HBq.out).trans f0.2 (fun n hn => .inl hn)).trans (Ch.of_below (T := fun _ => False) hb) (fun _ h => h.elim)
                  have h3 := HLP2.out
                  rw [HZ.out] at h3
                  exact ⟨_, _, x1, c1, x, false, _, h3, f0.1.kept (T := fun _ => False) (Ch.of_below hb) (fun h => h) (fun h => h) (fun h => h) (fun _ _ h => h), HOLR.out.1, (by unfold sd; simp; omega), hc0.own HOz.out (fun b hb2 e => (HVz2.out b hb2).1 e), HCz.out.trans hc0 (fun n hn => .inl (.inr (.inl hn))), HVz.out⟩)
                go_wp2_with fail
                go_region_held3 (fun _ => True) (trivial) (fail)
                go_wp2
                
                go_roundw
                case rel => exact ⟨ov, z, oL, x * 2, pN, c, gN, rfl, rfl, rfl, rfl, rfl, rfl, rfl, hbd.1, by omega, HBN.out.1, by omega, by omega, Lib.hid (HES2.out _ (dn_below _ 1))⟩
                case measure => simp [intOf]; omega
end
end Go.Proofs.YtdojhglpiejfjaaDoor
end
