/- burnishref12.Parse: its contract. -/
import Derived.Test.YtaedajedjbgnbaaCkSame
import Derived.Test.YtaedajedjbgnbaaCkMath
import Derived.Test.YtaedajedjbgnbaaRef01c
import Derived.Test.YtaedajedjbgnbaaRegionH
namespace Go.Proofs.Ytaedajedjbgnbaa
open Go.RowKit

def RpPost (w : World) (l : List UInt8) (e : Ending) (w' : World) : Prop :=
  Below w.heap.size w w' ∧
  ((Ck.parse l).1 = 0 → ∃ v ms, e = .returned (.tuple #[v, .int .i64 0]) ∧ Lst w' w.heap.size v ms ∧ cps ms = (Ck.parse l).2) ∧
  ((Ck.parse l).1 ≠ 0 → e = .returned (.tuple #[.slice none 0 0, .int .i64 ((Ck.parse l).1 : Nat)]))
theorem RpPost.err {w : World} {l : List UInt8} {e : Ending} {w' : World} {n : Nat} {m : List Ck.C} (h : Ck.parse l = (n, m)) (hn : n ≠ 0) (he : e = .returned (.tuple #[.slice none 0 0, .int .i64 (n : Nat)])) (hb : Below w.heap.size w w') : RpPost w l e w' :=
  ⟨hb, fun h0 => absurd (by rw [h] at h0; exact h0) hn, fun _ => by rw [h]; exact he⟩
namespace Ck
/-- The document's way: a chunk's bytes beside the bytes that are there. -/
theorem enc_same {r : List UInt8} {n : Nat} (hn : Pt.num (r.take 4) = n) (hl : 12 + n ≤ r.length) :
    enc ((r.drop 4).take 4, (r.drop 8).take n) = r.take (12 + n) ↔ Pt.num ((r.drop (8 + n)).take 4) = Crc.crc ((r.drop 4).take 4 ++ (r.drop 8).take n) := by
  have l4 : (r.take 4).length = 4 := by rw [List.length_take]; omega
  have e1 : Pt.dig 4 n = r.take 4 := by
    have := Pt.dig_num (r.take 4)
    rwa [l4, hn] at this
  have ldn : ((r.drop 8).take n).length = n := by rw [List.length_take, List.length_drop]; omega
  have lc : ((r.drop (8 + n)).take 4).length = 4 := by rw [List.length_take, List.length_drop]; omega
  have e2 : Pt.dig 4 (Pt.num ((r.drop (8 + n)).take 4)) = (r.drop (8 + n)).take 4 := by
    have := Pt.dig_num ((r.drop (8 + n)).take 4)
    rwa [lc] at this
  have ht : r.take (12 + n) = r.take 4 ++ ((r.drop 4).take 4 ++ (r.drop 8).take n) ++ (r.drop (8 + n)).take 4 := by
    have t1 : r.take (12 + n) = r.take 4 ++ (r.drop 4).take (8 + n) := by rw [show 12 + n = 4 + (8 + n) by omega, List.take_add]
    have t2 : (r.drop 4).take (8 + n) = (r.drop 4).take 4 ++ (r.drop 8).take (4 + n) := by rw [show 8 + n = 4 + (4 + n) by omega, List.take_add, List.drop_drop]
    have t3 : (r.drop 8).take (4 + n) = (r.drop 8).take n ++ (r.drop (8 + n)).take 4 := by rw [show 4 + n = n + 4 by omega, List.take_add, List.drop_drop]
    rw [t1, t2, t3]; simp
  rw [ht]
  unfold enc
  simp only
  rw [ldn, e1]
  constructor
  · intro h
    have h2 := (List.append_inj h rfl).2
    have h3 := congrArg Pt.num h2
    rw [num_dig _ (crc_lt _)] at h3
    exact h3.symm
  · intro h
    rw [← h, e2]
theorem arA {r f E k q len : Nat} (h1 : r < f + 1) (h2 : E = k + 12 + q) (h3 : r + k = len) (h4 : k + 12 + q ≤ len) : len - E < f := by omega
theorem arB {E len : Nat} (h1 : len - E = 0) (h2 : E ≤ len) (h3 : ¬ E = len) : False := by omega
theorem arC {E k q : Nat} (h1 : E = k + 12 + q) (h2 : 8 ≤ k) : 8 ≤ E ∧ k < E := by omega
theorem arD {r k q len : Nat} (h1 : r + k = len) (h2 : k + 12 + q ≤ len) : 12 + q ≤ r := by omega
theorem arE {len E k : Nat} (h1 : k < E) (h2 : E ≤ len) : len - E < len - k := by omega
theorem join_end' (d : List C) (f : Nat) {b : List UInt8} {c : C} {rest : List UInt8} (h : one b = (0, c, rest)) (hi : c.1 = iend) (hl : rest = []) : join d (all (f + 1) b) = (0, d ++ [c]) := by
  have h1 : (one b).2.1 = c := by rw [h]
  have := join_end d (f := f) (b := b) (by rw [h]) (by rw [h1]; exact hi) (by rw [h]; exact hl)
  rw [this, h1]
theorem join_more' (d : List C) (f : Nat) {b : List UInt8} {c : C} {rest : List UInt8} (h : one b = (0, c, rest)) (hi : c.1 = iend) (hl : rest ≠ []) : join d (all (f + 1) b) = (2, []) :=
  join_more d (f := f) (b := b) (by rw [h]) (by rw [h]; exact hi) (by rw [h]; exact hl)
theorem join_step' (d : List C) (f : Nat) {b : List UInt8} {c : C} {rest : List UInt8} (h : one b = (0, c, rest)) (hi : c.1 ≠ iend) : join d (all (f + 1) b) = join (d ++ [c]) (all f rest) := by
  have h1 : (one b).2.1 = c := by rw [h]
  have h2 : (one b).2.2 = rest := by rw [h]
  have := join_step d (f := f) (b := b) (by rw [h]) (by rw [h1]; exact hi)
  rw [this, h1, h2]
end Ck
set_option maxRecDepth 100000 in
set_option maxHeartbeats 8000000 in
theorem refParse_any (a : Option Addr) (len cap : Nat) (l : List UInt8) (w : World) (h : Bs w a len cap l) :
    Calls Try.prog 13 #[.slice a len cap] w (RpPost w l) := by
  have HL := Lib.hid h.hlen
  have hle := h.hle
  have H := Lib.hid h
  clear h
  have hne4 : (4 : Nat) ≠ 0 := by decide
  have hne2 : (2 : Nat) ≠ 0 := by decide
  have hne8 : (8 : Nat) ≠ 0 := by decide
  by_cases hbig : 1048576 < len
  · have HO : Hid (Ck.parse l = (4, [])) := Lib.hid (by unfold Ck.parse; rw [if_pos (by rw [HL.out]; exact hbig)])
    have dx : decide (1048576 < (len : Int)) = true := by simp; omega
    clear hbig
    go_enter Try.func13, Try.ntmps13
    go_wp2
    go_ret2
    exact RpPost.err HO.out hne4 rfl (Below.refl _ _)
  have dx : decide (1048576 < (len : Int)) = false := by simp; omega
  by_cases h8 : len < 8
  · have HO : Hid (Ck.parse l = (2, [])) := Lib.hid (by
      unfold Ck.parse
      rw [if_neg (by rw [HL.out]; exact hbig), if_pos (fun e => by
        have := congrArg List.length e
        rw [List.length_take, HL.out] at this
        simp [Ck.sign] at this
        omega)])
    have d8 : decide ((len : Int) < 8) = true := by simp; omega
    clear hbig h8
    go_enter Try.func13, Try.ntmps13
    go_wp2
    go_quiet (fail)
    go_wp2
    go_ret2
    exact RpPost.err HO.out hne2 rfl (drewN_is _ _)
  have d8 : decide ((len : Int) < 8) = false := by simp; omega
  obtain ⟨b, off, rfl, hbw, _⟩ := H.out.at' 0 (by omega)
  have hc2 := H.out.hcap
  have hmx := H.out.hmax
  have k8 : ∀ w', Below w.heap.size w w' → (convert 22 9 (.slice (some ⟨b, off, none⟩) 8 cap)).run Try.prog w' = .ok (.string (str (l.take 8))) w' := fun w' hb => conv_bs (P := Try.prog) ((H.out.mono hb).take' 8 (by omega)) 22 9 5 Try.underlying22 Try.underlying5 Try.underlying9
  have hks : ((str (l.take 8)).toList == (str Ck.sign).toList) = (l.take 8 == Ck.sign) := by rw [str_list, str_list]
  have i8 : (8 : Int) ≤ (cap : Int) := by omega
  have K0 := k8 w (Below.refl _ _)
  have K0d := k8 w.drew ((Below.refl _ _).drew)
  have HK8 := Lib.hid k8
  clear k8
  go_enter Try.func13, Try.ntmps13
  go_wp2
  refine wp_region_noPanic ?_
  refine region_RH (fun w' => (convert 22 9 (.slice (some ⟨b, off, none⟩) 8 cap)).run Try.prog w' = .ok (.string (str (l.take 8))) w') (by kernel_rfl) ?_
  refine RH_take (i := 0) (v := ?_) rfl (by kernel_rfl) (by kernel_rfl) (by kernel_rfl) (fun _ _ _ h => h) K0d (by rfl) ?_ ?_
  rotate_left
  · (intro w' hw'; first | (go_simp; done) | (go_simp; with_reducible rfl))
  try simp only [List.getElem_toArray, List.getElem_cons_zero, List.getElem_cons_succ, Act.put, List.setIfInBounds_toArray, List.set_cons_zero, List.set_cons_succ]
  refine RH_take (i := 1) (v := ?_) rfl (by kernel_rfl) (by kernel_rfl) (by kernel_rfl) (fun _ _ _ h => h) K0d (by rfl) ?_ ?_
  rotate_left
  · (intro w' hw'; first | (go_simp; done) | (go_simp; with_reducible rfl))
  try simp only [List.getElem_toArray, List.getElem_cons_zero, List.getElem_cons_succ, Act.put, List.setIfInBounds_toArray, List.set_cons_zero, List.set_cons_succ]
  refine RH_take (i := 2) (v := ?_) rfl (by kernel_rfl) (by kernel_rfl) (by kernel_rfl) (fun _ _ _ h => h) K0d (by rfl) ?_ ?_
  rotate_left
  · (intro w' hw'; first | (go_simp; done) | (go_simp; with_reducible rfl))
  try simp only [List.getElem_toArray, List.getElem_cons_zero, List.getElem_cons_succ, Act.put, List.setIfInBounds_toArray, List.set_cons_zero, List.set_cons_succ]
  refine RH_take (i := 3) (v := ?_) rfl (by kernel_rfl) (by kernel_rfl) (by kernel_rfl) (fun _ _ _ h => h) K0d (by rfl) ?_ ?_
  rotate_left
  · (intro w' hw'; first | (go_simp; done) | (go_simp; with_reducible rfl))
  try simp only [List.getElem_toArray, List.getElem_cons_zero, List.getElem_cons_succ, Act.put, List.setIfInBounds_toArray, List.set_cons_zero, List.set_cons_succ]
  refine RH_take (i := 4) (v := ?_) rfl (by kernel_rfl) (by kernel_rfl) (by kernel_rfl) (fun _ _ _ h => h) K0d (by rfl) ?_ ?_
  rotate_left
  · (intro w' hw'; first | (go_simp; done) | (go_simp; with_reducible rfl))
  try simp only [List.getElem_toArray, List.getElem_cons_zero, List.getElem_cons_succ, Act.put, List.setIfInBounds_toArray, List.set_cons_zero, List.set_cons_succ]
  refine RH_take (i := 5) (v := ?_) rfl (by kernel_rfl) (by kernel_rfl) (by kernel_rfl) (fun _ _ _ h => h) K0d (by rfl) ?_ ?_
  rotate_left
  · (intro w' hw'; first | (go_simp; done) | (go_simp; with_reducible rfl))
  try simp only [List.getElem_toArray, List.getElem_cons_zero, List.getElem_cons_succ, Act.put, List.setIfInBounds_toArray, List.set_cons_zero, List.set_cons_succ]
  refine RH_take (i := 6) (v := ?_) rfl (by kernel_rfl) (by kernel_rfl) (by kernel_rfl) (fun _ _ _ h => h) K0d (by rfl) ?_ ?_
  rotate_left
  · (intro w' hw'; first | (go_simp; done) | (go_simp; with_reducible rfl))
  try simp only [List.getElem_toArray, List.getElem_cons_zero, List.getElem_cons_succ, Act.put, List.setIfInBounds_toArray, List.set_cons_zero, List.set_cons_succ]
  refine RH_step (i := 7) (by kernel_rfl) rfl (fun K hK => ?_)
  go_simp
  go_at_call 32
  refine (sign_any _).mono ?_
  rintro e w1 ⟨g1, rfl, ho1, hb1⟩
  have hb1 : Below w.heap.size w w1 := ((Below.refl _ w).drew).trans hb1
  have hs1 := bs_of_own ho1 (by omega) 8 (Nat.le_refl _)
  rw [List.take_of_length_le (by decide)] at hs1
  have k1 := conv_bs (P := Try.prog) hs1 22 9 5 Try.underlying22 Try.underlying5 Try.underlying9
  have K1 := HK8.out w1 hb1
  have HB1 := Lib.hid hb1
  clear ho1 hb1 hs1
  go_simp
  refine hK.out _ _ K1 ?_
  clear hK K
  try simp only [List.getElem_toArray, List.getElem_cons_zero, List.getElem_cons_succ, Act.put, List.setIfInBounds_toArray, List.set_cons_zero, List.set_cons_succ]
  refine RH_step (i := 8) (by kernel_rfl) rfl (fun K hK => ?_)
  go_simp
  refine hK.out _ _ K1 ?_
  clear hK K
  try simp only [List.getElem_toArray, List.getElem_cons_zero, List.getElem_cons_succ, Act.put, List.setIfInBounds_toArray, List.set_cons_zero, List.set_cons_succ]
  refine RH_step (i := 9) (by kernel_rfl) rfl (fun K hK => ?_)
  go_simp
  refine hK.out _ _ K1 ?_
  clear hK K
  try simp only [List.getElem_toArray, List.getElem_cons_zero, List.getElem_cons_succ, Act.put, List.setIfInBounds_toArray, List.set_cons_zero, List.set_cons_succ]
  refine RH_step (i := 10) (by kernel_rfl) rfl (fun K hK => ?_)
  go_simp
  refine hK.out _ _ K1 ?_
  clear hK K
  try simp only [List.getElem_toArray, List.getElem_cons_zero, List.getElem_cons_succ, Act.put, List.setIfInBounds_toArray, List.set_cons_zero, List.set_cons_succ]
  refine wpAnyH_done (by kernel_rfl) ?_ _
  refine NoPanic.normal ?_
  clear K0 K0d K1 k1 hb1 HK8 i8
  by_cases hsg : l.take 8 = Ck.sign
  rotate_left
  · have HO : Hid (Ck.parse l = (2, [])) := Lib.hid (by unfold Ck.parse; rw [if_neg (by rw [HL.out]; exact hbig), if_pos hsg])
    have hsb : (l.take 8 == Ck.sign) = false := beq_false_of_ne hsg
    rw [hsb]
    clear hsg hbig hsb hks
    go_wp2
    go_ret2
    exact RpPost.err HO.out hne2 rfl HB1.out
  have HO : Hid (Ck.parse l = Ck.all l.length (l.drop 8)) := Lib.hid (by unfold Ck.parse; rw [if_neg (by rw [HL.out]; exact hbig), if_neg (by rw [hsg]; simp)])
  have hsb : (l.take 8 == Ck.sign) = true := by rw [hsg]; exact beq_self_eq_true _
  have hl20 : len ≤ 1048576 := by omega
  rw [hsb, Bool.not_true]
  clear hsg hbig hsb hks
  go_wp2
  go_loopw [4, 5, 6, 7, 8] (fun v x _ _ _ wr => ∃ (ms : List Ckm) (k f : Nat), x = .int .i64 k ∧ 8 ≤ k ∧ k ≤ len ∧ Hid (Lst wr w.heap.size v ms) ∧ Hid ((l.drop k).length < f) ∧ Hid (ms.length * 12 + 8 ≤ k) ∧ Hid (Ck.join (cps ms) (Ck.all f (l.drop k)) = Ck.parse l) ∧ Hid (Below w.heap.size w wr)) (fun _ x _ _ _ _ => len - (intOf x).toNat)
  case atStart =>
    refine ⟨[], 8, l.length, rfl, by omega, by omega, Lib.hid ⟨World.ownsRow_nil _ _ _ _, fun c hc => by simp at hc, fun c hc => by simp at hc, fun c hc => by simp at hc⟩, Lib.hid (by rw [List.length_drop, HL.out]; omega), Lib.hid (by simp), Lib.hid ?_, HB1⟩
    rw [HO.out]
    exact Ck.join_nil _ _
  case round =>
    obtain ⟨ms, k, f, rfl, hk8, hkl, HLS, HF, HM, HJ, HB⟩ := hrel
    obtain ⟨f, rfl⟩ : ∃ g, f = g + 1 := ⟨f - 1, by have := HF.out; omega⟩
    have hrl : (l.drop k).length = len - k := by rw [List.length_drop, HL.out]
    obtain ⟨r, hr⟩ : ∃ r, l.drop k = r := ⟨_, rfl⟩
    rw [hr] at HF HJ hrl
    have HRD := Lib.hid hr
    clear hr
    have HJN := Lib.hid (fun n (h : (Ck.one r).1 = n) (hn : n ≠ 0) => (HJ.out.symm.trans (Ck.join_err (cps ms) h hn) : Ck.parse l = (n, [])))
    by_cases hr4 : len - k < 4
    · have HP : Hid (Ck.parse l = (8, [])) := Lib.hid (HJN.out 8 (congrArg Prod.fst (Ck.one_a (b := r) (by omega))) hne8)
      by_cases hck : cap = k
      · have hc0 : len = k := by omega
        clear HJN hrl
        have e0 : (len : Int) - (k : Int) = 0 := by omega
        go_wp2_with fail
        refine (refTake_end _ 0 _ 4 _ (by omega) (by omega) (by omega)).mono ?_
        rintro e w' ⟨rfl, rfl⟩
        clear hc0 e0 hck
        go_wp2
        go_ret2
        exact RpPost.err HP.out hne8 rfl HB.out
      · clear HJN hrl
        go_wp2_with fail
        refine (refTake_end _ (len - k) _ 4 _ (by omega) (by omega) (by omega)).mono ?_
        rintro e w' ⟨rfl, rfl⟩
        clear hck
        go_wp2
        go_ret2
        exact RpPost.err HP.out hne8 rfl HB.out
    have hck : ¬ cap = k := by omega
    have hbr := (H.out.mono HB.out).drop k hkl (some ⟨b, off + k, none⟩) (fun _ => rfl)
    rw [HRD.out] at hbr
    have HBR := Lib.hid hbr
    clear hbr
    go_wp2_with fail
    refine (refTake_ok _ (len - k) _ 4 r wr HBR.out (by omega) (by omega) (by omega)).mono ?_
    rintro e w' ⟨rfl, rfl⟩
    obtain ⟨q, hq⟩ : ∃ q, Pt.num (r.take 4) = q := ⟨_, rfl⟩
    rw [hq]
    have hq4 : q < 4294967296 := by have := Pt.num_lt (r.take 4); rw [hq, List.length_take, show min 4 r.length = 4 by omega] at this; omega
    have HQ := Lib.hid hq
    clear hq
    by_cases hqb : 2147483647 < q
    · have HP : Hid (Ck.parse l = (2, [])) := Lib.hid (HJN.out 2 (congrArg Prod.fst (Ck.one_b (b := r) (by omega) (by rw [HQ.out]; exact hqb))) hne2)
      have dq : decide (2147483647 < (q : Int)) = true := by simp; omega
      clear HJN hrl hqb
      go_wp2
      go_ret2
      exact RpPost.err HP.out hne2 rfl HB.out
    have dq : decide (2147483647 < (q : Int)) = false := by simp; omega
    by_cases hr8 : len - k < 8
    · have HP : Hid (Ck.parse l = (8, [])) := Lib.hid (HJN.out 8 (congrArg Prod.fst (Ck.one_c (b := r) (by omega) (by rw [HQ.out]; omega) (by omega))) hne8)
      have d9 : decide ((len : Int) - (k : Int) < 8) = true := by simp; omega
      clear HJN hrl hqb hr8
      go_wp2
      go_ret2
      exact RpPost.err HP.out hne8 rfl HB.out
    have d9 : decide ((len : Int) - (k : Int) < 8) = false := by simp; omega
    have hrd4 : l.drop (k + 4) = r.drop 4 := by rw [← HRD.out, List.drop_drop]
    have hrd8 : l.drop (k + 8) = r.drop 8 := by rw [← HRD.out, List.drop_drop]
    have hbn := ((H.out.mono HB.out).drop (k + 4) (by omega) (some ⟨b, off + (k + 4), none⟩) (fun _ => rfl)).take' 4 (by omega)
    rw [hrd4] at hbn
    obtain ⟨nm, hnm⟩ : ∃ nm, (r.drop 4).take 4 = nm := ⟨_, rfl⟩
    rw [hnm] at hbn
    have hnl : nm.length = 4 := hbn.hlen
    have HNM := Lib.hid hnm
    have kn := conv_bs (P := Try.prog) hbn 22 9 5 Try.underlying22 Try.underlying5 Try.underlying9
    have HRD8 := Lib.hid hrd8
    clear hnm hbn hrd4 hrd8
    go_wp2_with fail
    refine (refNamed_any nm _ (by omega)).mono ?_
    rintro e w' ⟨rfl, rfl⟩
    cases hnd : Ck.named nm with
    | false =>
      have HP : Hid (Ck.parse l = (2, [])) := Lib.hid (HJN.out 2 (congrArg Prod.fst (Ck.one_d (b := r) (by rw [HQ.out]; omega) (by omega) (by rw [HNM.out, hnd]))) hne2)
      clear HJN hrl hqb hr8 hnd
      go_wp2
      go_ret2
      exact RpPost.err HP.out hne2 rfl HB.out
    | true =>
      have HND := Lib.hid hnd
      clear hnd
      by_cases hr12 : len - k < 12 + q
      · have HP : Hid (Ck.parse l = (8, [])) := Lib.hid (HJN.out 8 (congrArg Prod.fst (Ck.one_e (b := r) (by rw [HQ.out]; omega) (by omega) (by rw [HNM.out, HND.out]) (by rw [HQ.out]; omega))) hne8)
        have d12 : decide ((len : Int) - (k : Int) < 12 + (q : Int)) = true := by simp; omega
        clear HJN hrl hqb hr8 hr12
        go_wp2
        go_ret2
        exact RpPost.err HP.out hne8 rfl HB.out
      have d12 : decide ((len : Int) - (k : Int) < 12 + (q : Int)) = false := by simp; omega
      have hlen12 : k + 12 + q ≤ len := by omega
      have hrk : r.length + k = len := by omega
      clear hr4 hr8 hr12 hrl
      have hz := HB.out.size
      have hem := World.ownsRow_made wr (base := w.heap.size) (e := 5) (size := 1) #[] 0 hz (by unfold maxLen; omega) rfl
      have hbe := below_alloc wr (.cells #[] 5)
      have hbd := (((H.out.mono HB.out).mono hbe).drop (k + 8) (by omega) (some ⟨b, off + (k + 8), none⟩) (fun _ => rfl)).take' q (by omega)
      rw [HRD8.out] at hbd
      obtain ⟨dd, hdd⟩ : ∃ dd, (r.drop 8).take q = dd := ⟨_, rfl⟩
      rw [hdd] at hbd
      have HDD := Lib.hid hdd
      have HDL := Lib.hid hbd.hlen
      have hbd' : Bs (wr.alloc (.cells #[] 5)) (some ⟨b, off + (k + 8), none⟩) (k + 8 + q - (k + 8)) (cap - (k + 8)) dd := by rw [show k + 8 + q - (k + 8) = q by omega]; exact hbd
      have HBD := Lib.hid hbd'.src
      have HEM := Lib.hid hem
      have HBE := Lib.hid (HB.out.trans (hbe.mono hz))
      have HLE := Lib.hid (HLS.out.below hbe)
      clear hem hbe hbd hbd' hdd
      go_wp2_with (at_builtin; refine wpl_append3 tyB rfl _ _ rfl HEM.out HBD.out rfl rfl (by omega) (by omega) HBE.out.size ?_)
      intro v5 w5 own5 ch5 bk5
      have hez : (wr.alloc (.cells #[] 5)).heap.size = wr.heap.size + 1 := by simp
      have HB5 := Lib.hid (HBE.out.trans (ch5.below HBE.out.size (fun j hj => by simp only [Value.ownBlock, Option.some.injEq] at hj; omega)))
      have HL5 : Hid (Lst w5 w.heap.size u4 ms) := Lib.hid (by
        have hn : ∀ g, u4.ownBlock = some g → g < wr.heap.size := fun g hg => (HLS.out.own.lt g hg).2
        refine ⟨ch5.own HLE.out.own (fun g hg e => ?_), fun c hc => ch5.own (HLE.out.data c hc) (fun g hg e => ?_), HLE.out.dj, HLE.out.sm⟩
        · simp only [Value.ownBlock, Option.some.injEq] at e; have := hn g hg; omega
        · simp only [Value.ownBlock, Option.some.injEq] at e; have := ((HLS.out.data c hc).lt g hg).2; omega)
      have hlt5 : ∀ g, v5.ownBlock = some g → g < w5.heap.size := fun g hg => (own5.lt g hg).2
      have hz5 := ch5.size
      have HDJ : Hid (∀ g, v5.ownBlock = some g → u4.ownBlock ≠ some g) := Lib.hid (fun g hg e => by
        have h1 := (HLS.out.own.lt g e).2
        rcases bk5 g hg with h | h
        · simp only [Value.ownBlock, Option.some.injEq] at h; omega
        · omega)
      obtain ⟨a5, c5, rfl, hs5⟩ := own_bs own5 (by omega)
      have hb6 := below_alloc w5 (.cells #[.string (str nm), .slice a5 q c5] 39)
      have hq6 := heap_alloc_last w5 (.cells #[.string (str nm), .slice a5 q c5] 39)
      have HB6 := Lib.hid (HB5.out.trans (hb6.mono HB5.out.size))
      have HL6 := Lib.hid (HL5.out.below hb6)
      have HO6 := Lib.hid (own_below own5 hb6)
      have HS6 := Lib.hid (hs5.mono hb6)
      have hlt6 := (Array.getElem?_eq_some_iff.1 hq6).1
      have HU5 : Hid (∀ g, u4.ownBlock = some g → g < w5.heap.size) := Lib.hid (fun g hg => by have := (HLS.out.own.lt g hg).2; omega)
      clear own5 ch5 bk5 hs5 hb6 HBE HLE HEM HBD HL5 HB5 hlt5 hz5 hez kn
      go_wp2_with fail
      obtain ⟨w6, hw6⟩ : ∃ w6, (w5.alloc (.cells #[.string (str nm), .slice a5 q c5] 39)) = w6 := ⟨_, rfl⟩
      rw [hw6] at hq6 HB6 HL6 HO6 HS6 hlt6 ⊢
      clear hw6
      obtain ⟨K12, hK12⟩ : ∃ K, K = k + 12 := ⟨_, rfl⟩
      obtain ⟨E, hE⟩ : ∃ E, E = k + 12 + q := ⟨_, rfl⟩
      have v1 : IntKind.i64.wrap ((k : Int) + 12) = (K12 : Int) := by rw [IntWalk.i64_in _ (by omega)]; omega
      have v2 : IntKind.i64.wrap ((K12 : Int) + (q : Int)) = (E : Int) := by rw [IntWalk.i64_in _ (by omega)]; omega
      have i1 : (0 : Int) ≤ (E : Int) := by omega
      have i2 : (E : Int) ≤ (cap : Int) := by omega
      have i3 : k ≤ E := by omega
      have i4 : ((k : Int)) ≤ (E : Int) := by omega
      have hconv : ∀ w', Below w.heap.size w w' → (convert 22 9 (.slice (some ⟨b, off + k, none⟩) (E - k) (cap - k))).run Try.prog w' = .ok (.string (str (r.take (12 + q)))) w' := fun w' hb => by
        have h1 := (((H.out.mono hb).drop k hkl (some ⟨b, off + k, none⟩) (fun _ => rfl)).take' (E - k) (by omega))
        rw [HRD.out] at h1
        have h2 : E - k = 12 + q := by omega
        rw [h2] at h1 ⊢
        exact conv_bs (P := Try.prog) h1 22 9 5 Try.underlying22 Try.underlying5 Try.underlying9
      have x0 : w6.cell? ⟨w5.heap.size, 0, none⟩ = some (.string (str nm)) := (cell_of_row _ _ 0 _ _ (0, 0) hq6).trans rfl
      have x1 : w6.cell? ⟨w5.heap.size, 1, none⟩ = some (.slice a5 q c5) := (cell_of_row _ _ 1 _ _ (0, 0) hq6).trans rfl
      have SS6 := And.intro (show w6.drew.cell? ⟨w5.heap.size, 0, none⟩ = some (.string (str nm)) from x0) (And.intro (show w6.drew.cell? ⟨w5.heap.size, 1, none⟩ = some (.slice a5 q c5) from x1) (hconv w6.drew HB6.out.drew))
      have HSS6 := Lib.hid SS6
      have HCV := Lib.hid hconv
      have HE := Lib.hid hE
      clear SS6 hconv x0 x1 hE hK12
      refine wp_region_noPanic ?_
      refine region_RH (fun w' => w'.cell? ⟨w5.heap.size, 0, none⟩ = some (.string (str nm)) ∧ w'.cell? ⟨w5.heap.size, 1, none⟩ = some (.slice a5 q c5) ∧ (convert 22 9 (.slice (some ⟨b, off + k, none⟩) (E - k) (cap - k))).run Try.prog w' = .ok (.string (str (r.take (12 + q)))) w') (by kernel_rfl) ?_
      refine RH_take (i := 0) (v := ?_) rfl (by kernel_rfl) (by kernel_rfl) (by kernel_rfl) (fun _ _ _ h => h) HSS6.out (by rfl) ?_ ?_
      rotate_left
      · (intro w' hw'; obtain ⟨j0, j1, j2⟩ := hw'; first | (go_simp; done) | (go_simp; with_reducible rfl))
      try simp only [List.getElem_toArray, List.getElem_cons_zero, List.getElem_cons_succ, Act.put, List.setIfInBounds_toArray, List.set_cons_zero, List.set_cons_succ]
      refine RH_take (i := 3) (v := ?_) rfl (by kernel_rfl) (by kernel_rfl) (by kernel_rfl) (fun _ _ _ h => h) HSS6.out (by rfl) ?_ ?_
      rotate_left
      · (intro w' hw'; obtain ⟨j0, j1, j2⟩ := hw'; first | (go_simp; done) | (go_simp; with_reducible rfl))
      try simp only [List.getElem_toArray, List.getElem_cons_zero, List.getElem_cons_succ, Act.put, List.setIfInBounds_toArray, List.set_cons_zero, List.set_cons_succ]
      refine RH_take (i := 4) (v := ?_) rfl (by kernel_rfl) (by kernel_rfl) (by kernel_rfl) (fun _ _ _ h => h) HSS6.out (by rfl) ?_ ?_
      rotate_left
      · (intro w' hw'; obtain ⟨j0, j1, j2⟩ := hw'; first | (go_simp; done) | (go_simp; with_reducible rfl))
      try simp only [List.getElem_toArray, List.getElem_cons_zero, List.getElem_cons_succ, Act.put, List.setIfInBounds_toArray, List.set_cons_zero, List.set_cons_succ]
      refine RH_take (i := 5) (v := ?_) rfl (by kernel_rfl) (by kernel_rfl) (by kernel_rfl) (fun _ _ _ h => h) HSS6.out (by rfl) ?_ ?_
      rotate_left
      · (intro w' hw'; obtain ⟨j0, j1, j2⟩ := hw'; first | (go_simp; done) | (go_simp; with_reducible rfl))
      try simp only [List.getElem_toArray, List.getElem_cons_zero, List.getElem_cons_succ, Act.put, List.setIfInBounds_toArray, List.set_cons_zero, List.set_cons_succ]
      refine RH_take (i := 6) (v := ?_) rfl (by kernel_rfl) (by kernel_rfl) (by kernel_rfl) (fun _ _ _ h => h) HSS6.out (by rfl) ?_ ?_
      rotate_left
      · (intro w' hw'; obtain ⟨j0, j1, j2⟩ := hw'; first | (go_simp; done) | (go_simp; with_reducible rfl))
      try simp only [List.getElem_toArray, List.getElem_cons_zero, List.getElem_cons_succ, Act.put, List.setIfInBounds_toArray, List.set_cons_zero, List.set_cons_succ]
      refine RH_take (i := 7) (v := ?_) rfl (by kernel_rfl) (by kernel_rfl) (by kernel_rfl) (fun _ _ _ h => h) HSS6.out (by rfl) ?_ ?_
      rotate_left
      · (intro w' hw'; obtain ⟨j0, j1, j2⟩ := hw'; first | (go_simp; done) | (go_simp; with_reducible rfl))
      try simp only [List.getElem_toArray, List.getElem_cons_zero, List.getElem_cons_succ, Act.put, List.setIfInBounds_toArray, List.set_cons_zero, List.set_cons_succ]
      refine RH_take (i := 8) (v := ?_) rfl (by kernel_rfl) (by kernel_rfl) (by kernel_rfl) (fun _ _ _ h => h) HSS6.out (by rfl) ?_ ?_
      rotate_left
      · (intro w' hw'; obtain ⟨j0, j1, j2⟩ := hw'; first | (go_simp; done) | (go_simp; with_reducible rfl))
      try simp only [List.getElem_toArray, List.getElem_cons_zero, List.getElem_cons_succ, Act.put, List.setIfInBounds_toArray, List.set_cons_zero, List.set_cons_succ]
      refine RH_take (i := 9) (v := ?_) rfl (by kernel_rfl) (by kernel_rfl) (by kernel_rfl) (fun _ _ _ h => h) HSS6.out (by rfl) ?_ ?_
      rotate_left
      · (intro w' hw'; obtain ⟨j0, j1, j2⟩ := hw'; first | (go_simp; done) | (go_simp; with_reducible rfl))
      try simp only [List.getElem_toArray, List.getElem_cons_zero, List.getElem_cons_succ, Act.put, List.setIfInBounds_toArray, List.set_cons_zero, List.set_cons_succ]
      refine RH_take (i := 10) (v := ?_) rfl (by kernel_rfl) (by kernel_rfl) (by kernel_rfl) (fun _ _ _ h => h) HSS6.out (by rfl) ?_ ?_
      rotate_left
      · (intro w' hw'; obtain ⟨j0, j1, j2⟩ := hw'; first | (go_simp; done) | (go_simp; with_reducible rfl))
      try simp only [List.getElem_toArray, List.getElem_cons_zero, List.getElem_cons_succ, Act.put, List.setIfInBounds_toArray, List.set_cons_zero, List.set_cons_succ]
      have hbs6 : Bs w6.drew a5 q c5 dd := HS6.out.mono ((Below.refl _ w6).drew)
      have HRC := Lib.hid (refChunk_any w6.drew nm ⟨a5, q, c5, dd⟩ hbs6 hnl (by simp only; omega))
      unfold Sl.val at HRC
      simp only at HRC
      clear hbs6
      refine RH_step (i := 1) (by kernel_rfl) rfl (fun K hK => ?_)
      go_simp
      go_at_call 34
      refine HRC.out.mono ?_
      rintro e w7 ⟨v7, rfl, ho7, hb7⟩
      have hb7 : Below w6.heap.size w6 w7 := ((Below.refl _ w6).drew).trans hb7
      have HB7 := Lib.hid (below_then HB6.out hb7)
      have SS7 := And.intro ((hb7.cell (p := ⟨w5.heap.size, 0, none⟩) hlt6).trans HSS6.out.1) (And.intro ((hb7.cell (p := ⟨w5.heap.size, 1, none⟩) hlt6).trans HSS6.out.2.1) (HCV.out w7 HB7.out))
      have HSS7 := Lib.hid SS7
      have HL7 := Lib.hid (HL6.out.below hb7)
      have HO7 := Lib.hid (own_below HO6.out hb7)
      have hlt7 := Nat.lt_of_lt_of_le hlt6 hb7.size
      simp only at ho7
      rw [HDL.out] at ho7
      obtain ⟨a7, c7, rfl, hs7⟩ := own_bs ho7 (by omega)
      have k7 := conv_bs (P := Try.prog) hs7 22 9 5 Try.underlying22 Try.underlying5 Try.underlying9
      have hke : ((str (Ck.enc (nm, dd))).toList == (str (r.take (12 + q))).toList) = (Ck.enc (nm, dd) == r.take (12 + q)) := by rw [str_list, str_list]
      clear SS7 ho7 hb7 hs7 HL6 HO6 HS6 HB6 HCV HRC
      go_simp
      refine hK.out _ _ HSS7.out ?_
      clear hK K
      try simp only [List.getElem_toArray, List.getElem_cons_zero, List.getElem_cons_succ, Act.put, List.setIfInBounds_toArray, List.set_cons_zero, List.set_cons_succ]
      refine RH_step (i := 2) (by kernel_rfl) rfl (fun K hK => ?_)
      go_simp
      refine hK.out _ _ HSS7.out ?_
      clear hK K
      try simp only [List.getElem_toArray, List.getElem_cons_zero, List.getElem_cons_succ, Act.put, List.setIfInBounds_toArray, List.set_cons_zero, List.set_cons_succ]
      refine RH_step (i := 11) (by kernel_rfl) rfl (fun K hK => ?_)
      go_simp
      refine hK.out _ _ HSS7.out ?_
      clear hK K
      try simp only [List.getElem_toArray, List.getElem_cons_zero, List.getElem_cons_succ, Act.put, List.setIfInBounds_toArray, List.set_cons_zero, List.set_cons_succ]
      refine wpAnyH_done (by kernel_rfl) ?_ _
      refine NoPanic.normal ?_
      clear hke
      have HEN := Lib.hid (Ck.enc_same (r := r) (n := q) HQ.out (by omega))
      by_cases hen : Ck.enc (nm, dd) = r.take (12 + q)
      rotate_left
      · have HP : Hid (Ck.parse l = (2, [])) := Lib.hid (HJN.out 2 (congrArg Prod.fst (Ck.one_f (b := r) (by rw [HQ.out]; omega) (by rw [HNM.out, HND.out]) (by rw [HQ.out]; omega) (by
          rw [HQ.out]
          refine .inl (fun e => hen ?_)
          have := HEN.out.2 e
          rwa [HNM.out, HDD.out] at this))) hne2)
        rw [show (Ck.enc (nm, dd) == r.take (12 + q)) = false from beq_false_of_ne hen]
        clear hen HJN
        go_wp2
        go_ret2
        exact RpPost.err HP.out hne2 rfl HB7.out
      rw [show (Ck.enc (nm, dd) == r.take (12 + q)) = true by rw [hen]; exact beq_self_eq_true _]
      have HCR : Hid (Pt.num ((r.drop (8 + q)).take 4) = Crc.crc (nm ++ dd)) := Lib.hid (by
        have := HEN.out.1 (by rw [HNM.out, HDD.out]; exact hen)
        rwa [HNM.out, HDD.out] at this)
      clear hen
      obtain ⟨x0, x1, _⟩ := HSS7.out
      have hbz := below_alloc w7 (.cells #[.string (str nm), .slice a5 q c5] 39)
      have HL8 := Lib.hid (HL7.out.below hbz)
      have HO8 := Lib.hid (own_below HO7.out hbz)
      have HB8 := Lib.hid (HB7.out.trans (hbz.mono HB7.out.size))
      have HSR := Lib.hid (src_ck w7 ⟨nm, ⟨a5, q, c5, dd⟩⟩ 39)
      unfold Sl.val at HSR
      simp only at HSR
      have HX8 := Lib.hid ((hbz.cell (p := ⟨w5.heap.size, 0, none⟩) hlt7).trans x0)
      have hml2 : ms.length ≤ 1048576 := by have := HM.out; omega
      have hlt8 : w5.heap.size < (w7.alloc (.cells #[.string (str nm), .slice a5 q c5] 39)).heap.size := by simp; omega
      have hu4 : Hid (∀ g, u4.ownBlock = some g → g < w5.heap.size) := Lib.hid (fun g hg => HU5.out g hg)
      clear hbz k7
      go_wp2_with (at_builtin; refine wpl_append3 tyK rfl _ _ rfl HL8.out.own HSR.out rfl rfl (by omega) (by omega) HB8.out.size ?_)
      intro v9 w9 own9 ch9 bk9
      have HLS9 := Lib.hid (HL8.out.push (c := ⟨nm, ⟨a5, q, c5, dd⟩⟩) HO8.out HDJ.out (by simp only; omega) own9 ch9 (fun k hk => (bk9 k hk).elim .inl (fun h => .inr (by simp; omega))))
      have HB9 : Hid (Below w.heap.size w w9) := Lib.hid (HB8.out.trans (ch9.below HB8.out.size (fun k hk => (HL8.out.own.lt k hk).1)))
      have x9 : w9.cell? ⟨w5.heap.size, 0, none⟩ = some (.string (str nm)) := (World.cell?_of_block (a := ⟨w5.heap.size, 0, none⟩) (ch9.block w5.heap.size hlt8 (fun e => Nat.lt_irrefl _ (hu4.out _ e)))).trans HX8.out
      have HC9 : Hid (cps (ms ++ [(⟨nm, ⟨a5, q, c5, dd⟩⟩ : Ckm)]) = cps ms ++ [(nm, dd)]) := Lib.hid (by simp [cps, Ckm.c])
      have HM9 : Hid ((ms ++ [(⟨nm, ⟨a5, q, c5, dd⟩⟩ : Ckm)]).length * 12 + 8 ≤ E) := Lib.hid (by rw [List.length_append]; have := HM.out; have := HE.out; simp; omega)
      have hie : ((str nm).toList == ([73, 69, 78, 68] : List UInt8)) = (nm == Ck.iend) := by rw [str_list]; rfl
      obtain ⟨a9, c9, rfl⟩ : ∃ a c, v9 = .slice a (ms.length + 1) c := by
        rcases own_nil_or own9 with ⟨_, h⟩ | ⟨g, c, rfl, _⟩
        · omega
        · exact ⟨_, _, rfl⟩
      have hE0 := HE.out
      have HRE : Hid (l.drop E = r.drop (12 + q)) := Lib.hid (by rw [← HRD.out, List.drop_drop, hE0]; congr 1; omega)
      have hEl : E ≤ len := by omega
      have WE2 := Lib.hid (show (k : Int) + 12 + (q : Int) = (E : Int) by omega)
      have HRK := Lib.hid hrk
      clear hrk
      clear own9 ch9 bk9 HL8 HO8 HSR HX8 hE0 v1 v2 HSS7 HSS6 HL7 HO7 x0 x1 i1 i2 i4
      by_cases hi : nm = Ck.iend
      · have d1 : (nm == Ck.iend) = true := by simpa using hi
        rw [d1] at hie
        by_cases hq0 : q = 0
        · have HON : Hid (Ck.one r = (0, (nm, dd), r.drop (12 + q))) := Lib.hid (by
            have := Ck.one_g (b := r) (by rw [HQ.out]; exact Nat.le_of_not_lt hqb) (by rw [HNM.out, HND.out]) (by rw [HQ.out]; exact Ck.arD HRK.out hlen12) (by rw [HQ.out, HNM.out, HDD.out, HCR.out]) (by rw [HQ.out]; intro _; exact hq0)
            rw [HQ.out, HNM.out, HDD.out] at this
            exact this)
          by_cases hel : E = len
          · have HP : Hid (Ck.parse l = (0, cps ms ++ [(nm, dd)])) := Lib.hid (by
              exact HJ.out.symm.trans (Ck.join_end' (cps ms) f HON.out hi (by rw [← HRE.out]; exact List.drop_eq_nil_of_le (by rw [HL.out]; exact Nat.le_of_eq hel.symm))))
            have HPE : Hid (RpPost w l (.returned (.tuple #[.slice a9 (ms.length + 1) c9, .int .i64 0])) w9) := Lib.hid ⟨HB9.out, fun _ => ⟨_, _, rfl, HLS9.out, by rw [HC9.out, HP.out]⟩, fun h => by rw [HP.out] at h; exact absurd rfl h⟩
            have dq0 : decide (0 < q) = false := decide_eq_false (by rw [hq0]; exact Nat.lt_irrefl 0)
            have del : decide ((k : Int) + 12 + (q : Int) < (len : Int)) = false := decide_eq_false (by rw [WE2.out, hel]; exact Int.lt_irrefl _)
            clear HJN hi d1 hq0 hel hqb
            go_wp2
            go_ret2
            exact HPE.out
          · have HP : Hid (Ck.parse l = (2, [])) := Lib.hid (by
              refine HJ.out.symm.trans (Ck.join_more' (cps ms) f HON.out hi (fun e => ?_))
              rw [← HRE.out] at e
              have := congrArg List.length e
              rw [List.length_drop, HL.out] at this
              exact Ck.arB (by simpa using this) hEl hel)
            have dq0 : decide (0 < q) = false := decide_eq_false (by rw [hq0]; exact Nat.lt_irrefl 0)
            have del : decide ((k : Int) + 12 + (q : Int) < (len : Int)) = true := decide_eq_true (by rw [WE2.out]; exact Int.ofNat_lt.2 (Nat.lt_of_le_of_ne hEl hel))
            clear HJN hi d1 hq0 hel hqb
            go_wp2
            go_ret2
            exact RpPost.err HP.out hne2 rfl HB9.out
        · have HP : Hid (Ck.parse l = (2, [])) := Lib.hid (HJN.out 2 (congrArg Prod.fst (Ck.one_f (b := r) (by rw [HQ.out]; exact Nat.le_of_not_lt hqb) (by rw [HNM.out, HND.out]) (by rw [HQ.out]; exact Ck.arD HRK.out hlen12) (by rw [HQ.out, HNM.out]; exact .inr ⟨hi, Nat.pos_of_ne_zero hq0⟩))) hne2)
          have dq0 : decide (0 < q) = true := decide_eq_true (Nat.pos_of_ne_zero hq0)
          clear HJN hi d1 hq0 hqb
          go_wp2
          go_ret2
          exact RpPost.err HP.out hne2 rfl HB9.out
      · have d1 : (nm == Ck.iend) = false := by simpa using hi
        rw [d1] at hie
        have HON : Hid (Ck.one r = (0, (nm, dd), r.drop (12 + q))) := Lib.hid (by
          have := Ck.one_g (b := r) (by rw [HQ.out]; exact Nat.le_of_not_lt hqb) (by rw [HNM.out, HND.out]) (by rw [HQ.out]; exact Ck.arD HRK.out hlen12) (by rw [HQ.out, HNM.out, HDD.out, HCR.out]) (by rw [HNM.out]; intro h; exact absurd h hi)
          rw [HQ.out, HNM.out, HDD.out] at this
          exact this)
        have HJ9 : Hid (Ck.join (cps (ms ++ [(⟨nm, ⟨a5, q, c5, dd⟩⟩ : Ckm)])) (Ck.all f (l.drop E)) = Ck.parse l) := Lib.hid (by
          rw [HC9.out, HRE.out]
          exact (Ck.join_step' (cps ms) f HON.out hi).symm.trans HJ.out)
        have HF9 : Hid ((l.drop E).length < f) := Lib.hid (by rw [List.length_drop, HL.out]; exact Ck.arA HF.out HE.out HRK.out hlen12)
        obtain ⟨hkE, hkE2⟩ := Ck.arC HE.out hk8
        clear HJN hi d1 hqb
        go_wp2
        go_roundw
        case rel => exact ⟨_, E, f, int_eq WE2.out, hkE, hEl, HLS9, HF9, HM9, HJ9, HB9⟩
        case measure =>
          rw [WE2.out]
          simp [intOf]
          exact Ck.arE hkE2 hEl
end Go.Proofs.Ytaedajedjbgnbaa
