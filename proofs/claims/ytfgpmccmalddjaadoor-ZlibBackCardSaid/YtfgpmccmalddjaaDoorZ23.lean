/- The document's reader of packed bytes in memory; fail and take. The document's reader: take, of one that goes on. The document's free amount, and a code plus 1: their contracts. The document's codes in memory. -/
import Derived.Test.YtfgpmccmalddjaaDoorZ22
import Derived.Deep.QuietTactic
import Derived.BigQuiet
import Derived.Deep.RegionHeld3
set_option linter.unusedSimpArgs false
set_option linter.unusedVariables false
section
namespace Go.Proofs.YtfgpmccmalddjaaDoor
open Go.RowKit
attribute [local go_sem] Oper.semAt_some

/-- The document's reader in memory: its bits, where it stands, what went wrong, how many bytes at most, how many so far, the tokens. What D keeps isn't its own. -/
structure Rn (w : World) (D : Nat → Prop) (B gr : Nat) (a : Option Addr) (cap : Nat) (u : List Bool) (p : Nat) (bad : Int) (most sz : Nat) (ts : List Tok) (v : Value) : Prop where
  row : w.heap[gr]? = some (.cells #[.slice a u.length cap, .int .i64 (p : Nat), .int .i64 bad, .int .i64 (most : Nat), .int .i64 (sz : Nat), v] 66 (0, 0))
  li : Is .i64 w a u.length cap (bi u)
  own : w.ownsRow B 47 2 v ts.length (tks ts)
  la : ∀ ad, a = some ad → ad.block ≠ gr ∧ v.ownBlock ≠ some ad.block ∧ ad.block < w.heap.size
  vn : v.ownBlock ≠ some gr
  hB : B ≤ w.heap.size
  nd : ∀ k, D k → k < w.heap.size ∧ k ≠ gr ∧ v.ownBlock ≠ some k
  hp : p ≤ u.length
  hu : u.length ≤ 1000000
  hm : most ≤ 4194304
  hs : sz ≤ most
  ht : ts.length ≤ sz
section
variable {w w' : World} {D : Nat → Prop} {B gr : Nat} {a : Option Addr} {cap : Nat} {u : List Bool} {p q : Nat} {bad : Int} {most sz : Nat} {ts : List Tok} {v : Value}
theorem Rn.lt (h : Rn w D B gr a cap u p bad most sz ts v) : gr < w.heap.size := (Array.getElem?_eq_some_iff.1 h.row).1
theorem Rn.mono (h : Rn w D B gr a cap u p bad most sz ts v) (hb : Below w.heap.size w w') : Rn w' D B gr a cap u p bad most sz ts v :=
  ⟨(hb.block gr h.lt).trans h.row, h.li.mono hb, own_below h.own hb, fun ad e => ⟨(h.la ad e).1, (h.la ad e).2.1, Nat.lt_of_lt_of_le (h.la ad e).2.2 hb.size⟩, h.vn, Nat.le_trans h.hB hb.size, fun k hk => ⟨Nat.lt_of_lt_of_le (h.nd k hk).1 hb.size, (h.nd k hk).2⟩, h.hp, h.hu, h.hm, h.hs, h.ht⟩
/-- Numbers of its own have changed. -/
theorem Rn.turn (h : Rn w D B gr a cap u p bad most sz ts v) {q sz' : Nat} {bad' : Int} (c : Ch w w' (fun k => k = gr)) (hrow : w'.heap[gr]? = some (.cells #[.slice a u.length cap, .int .i64 (q : Nat), .int .i64 bad', .int .i64 (most : Nat), .int .i64 (sz' : Nat), v] 66 (0, 0))) (hq : q ≤ u.length) (hs : sz' ≤ most) (ht : ts.length ≤ sz') :
    Rn w' D B gr a cap u q bad' most sz' ts v ∧ Ch w w' (fun k => ¬ D k) :=
  ⟨⟨hrow, h.li.kept c (fun ad e hh => (h.la ad e).1 hh), c.own h.own (fun k hk hh => h.vn (hh ▸ hk)), fun ad e => ⟨(h.la ad e).1, (h.la ad e).2.1, Nat.lt_of_lt_of_le (h.la ad e).2.2 c.size⟩, h.vn, Nat.le_trans h.hB c.size, fun k hk => ⟨Nat.lt_of_lt_of_le (h.nd k hk).1 c.size, (h.nd k hk).2⟩, hq, h.hu, h.hm, hs, ht⟩,
    c.wide (fun k hk => .inl (fun hd => (h.nd k hd).2.1 hk))⟩
theorem Rn.less {D' : Nat → Prop} (h : Rn w D B gr a cap u p bad most sz ts v) (hD : ∀ k, D' k → D k) : Rn w D' B gr a cap u p bad most sz ts v :=
  ⟨h.row, h.li, h.own, h.la, h.vn, h.hB, fun k hk => h.nd k (hD k hk), h.hp, h.hu, h.hm, h.hs, h.ht⟩
theorem Rn.new (h : Rn w D B gr a cap u p bad most sz ts v) (hb : Below w.heap.size w w') : Rn w' (fun k => D k ∨ (w.heap.size ≤ k ∧ k < w'.heap.size)) B gr a cap u p bad most sz ts v := by
  have k := h.mono hb
  exact ⟨k.row, k.li, k.own, k.la, k.vn, k.hB, fun j hj => by
    rcases hj with hj | ⟨h1, h2⟩
    · exact k.nd j hj
    · exact ⟨h2, fun e => by have := h.lt; omega, fun e => by have := (h.own.lt j e).2; omega⟩, k.hp, k.hu, k.hm, k.hs, k.ht⟩
theorem Rn.cells (h : Rn w D B gr a cap u p bad most sz ts v) : w.cell? ⟨gr, 0, none⟩ = some (.slice a u.length cap) ∧ w.cell? ⟨gr, 1, none⟩ = some (.int .i64 (p : Nat)) ∧ w.cell? ⟨gr, 2, none⟩ = some (.int .i64 bad) ∧ w.cell? ⟨gr, 3, none⟩ = some (.int .i64 (most : Nat)) ∧ w.cell? ⟨gr, 4, none⟩ = some (.int .i64 (sz : Nat)) ∧ w.cell? ⟨gr, 5, none⟩ = some v := by
  refine ⟨?_, ?_, ?_, ?_, ?_, ?_⟩ <;> rw [cell_of_row _ _ _ _ _ (0, 0) h.row] <;> rfl
theorem Rn.free (h : Rn w D B gr a cap u p bad most sz ts v) (i : Nat) : w.frozen? ⟨gr, i, none⟩ = false := frozen_of_row _ _ _ _ _ h.row
end
/-- How it stands: it goes on with bytes and tokens at a place, or something went wrong. -/
def Rq (w : World) (D : Nat → Prop) (B gr : Nat) (a : Option Addr) (cap : Nat) (u : List Bool) (most : Nat) (r : Ip.Rs Unp) : Prop :=
  match r with
  | .ok s q => ∃ v, Rn w D B gr a cap u q 0 most s.1.length s.2 v
  | .err _ => ∃ p bad sz ts v, bad ≠ 0 ∧ Rn w D B gr a cap u p bad most sz ts v
section
variable {w w' : World} {D : Nat → Prop} {B gr : Nat} {a : Option Addr} {cap : Nat} {u : List Bool} {most : Nat} {r : Ip.Rs Unp}
theorem Rq.mono (h : Rq w D B gr a cap u most r) (hb : Below w.heap.size w w') : Rq w' D B gr a cap u most r := by
  cases r with
  | ok s q => obtain ⟨v, h⟩ := h; exact ⟨v, h.mono hb⟩
  | err n => obtain ⟨p, bad, sz, ts, v, h0, h⟩ := h; exact ⟨p, bad, sz, ts, v, h0, h.mono hb⟩
theorem Rq.new (h : Rq w D B gr a cap u most r) (hb : Below w.heap.size w w') : Rq w' (fun k => D k ∨ (w.heap.size ≤ k ∧ k < w'.heap.size)) B gr a cap u most r := by
  cases r with
  | ok s q => obtain ⟨v, h⟩ := h; exact ⟨v, h.new hb⟩
  | err n => obtain ⟨p, bad, sz, ts, v, h0, h⟩ := h; exact ⟨p, bad, sz, ts, v, h0, h.new hb⟩
theorem Rq.less {D' : Nat → Prop} (h : Rq w D B gr a cap u most r) (hD : ∀ k, D' k → D k) : Rq w D' B gr a cap u most r := by
  cases r with
  | ok s q => obtain ⟨v, h⟩ := h; exact ⟨v, h.less hD⟩
  | err n => obtain ⟨p, bad, sz, ts, v, h0, h⟩ := h; exact ⟨p, bad, sz, ts, v, h0, h.less hD⟩
end
theorem row_set {w : World} {g : Nat} {cs : Array Value} {t : TypeId} (h : w.heap[g]? = some (.cells cs t (0, 0))) (i : Nat) (x : Value) : (w.setCell ⟨g, i, none⟩ x).heap[g]? = some (.cells (cs.setIfInBounds i x) t (0, 0)) := heap_setCell_same w g i _ _ _ h
section
variable {w : World} {D : Nat → Prop} {B gr : Nat} {a : Option Addr} {cap : Nat} {u : List Bool} {p : Nat} {bad : Int} {most sz : Nat} {ts : List Tok} {v : Value}
/-- fail: something is wrong then. -/
theorem rfail_any (h : Rn w D B gr a cap u p bad most sz ts v) (n : Int) (hn : n ≠ 0) :
    Calls Tryd.prog 32 #[.pointer (some ⟨gr, 0, none⟩), .int .i64 n] w fun e w' => e = .returned (.tuple #[]) ∧ (∃ b, b ≠ 0 ∧ Rn w' D B gr a cap u p b most sz ts v) ∧ Ch w w' (fun k => ¬ D k) := by
  have k2 := h.cells.2.2.1
  have kf := h.free 2
  by_cases h0 : bad = 0
  · subst h0
    have c : Ch w (w.setCell ⟨gr, 2, none⟩ (.int .i64 n)) (fun k => k = gr) := (Ch.refl w (fun k => k = gr)).set (p := ⟨gr, 2, none⟩) (.inl rfl) _
    have hr : (w.setCell ⟨gr, 2, none⟩ (.int .i64 n)).heap[gr]? = some (.cells #[.slice a u.length cap, .int .i64 (p : Nat), .int .i64 n, .int .i64 (most : Nat), .int .i64 (sz : Nat), v] 66 (0, 0)) := row_set h.row 2 _
    have HP := Lib.hid (h.turn (q := p) (sz' := sz) (bad' := n) c hr h.hp h.hs h.ht)
    have HN := Lib.hid hn
    clear h c hr hn
    go_enter Tryd.func32, Tryd.ntmps32
    go_wp2
    go_end0
    exact ⟨rfl, ⟨n, HN.out, HP.out.1⟩, HP.out.2⟩
  · have d0 : (bad == 0) = false := by simpa using h0
    have HP := Lib.hid h
    have H0 := Lib.hid h0
    clear h h0 hn
    go_enter Tryd.func32, Tryd.ntmps32
    go_wp2
    go_end0
    exact ⟨rfl, ⟨bad, H0.out, HP.out⟩, Ch.refl _ _⟩
end
/-- What take answers. -/
def RtPost {α : Type} (w : World) (D : Nat → Prop) (B gr : Nat) (a : Option Addr) (cap : Nat) (u : List Bool) (most : Nat) (s : Unp) (mk : α → Value) (dflt : Value) (r : Ip.Rs α) (e : Ending) (w' : World) : Prop :=
  match r with
  | .ok x q => e = .returned (mk x) ∧ Rq w' D B gr a cap u most (.ok s q) ∧ Ch w w' (fun k => ¬ D k)
  | .err n => e = .returned dflt ∧ Rq w' D B gr a cap u most (.err n) ∧ Ch w w' (fun k => ¬ D k)
section
variable {w : World} {D : Nat → Prop} {B gr : Nat} {a : Option Addr} {cap : Nat} {u : List Bool} {p : Nat} {bad : Int} {most sz : Nat} {ts : List Tok} {v : Value} {s : Unp}
theorem rtake_dead (h : Rn w D B gr a cap u p bad most sz ts v) (hb : bad ≠ 0) (c : Nat) :
    Calls Tryd.prog 27 #[.pointer (some ⟨gr, 0, none⟩), .int .i64 (c : Nat)] w fun e w' => e = .returned (.int .i64 0) ∧ Rn w' D B gr a cap u p bad most sz ts v ∧ Ch w w' (fun k => ¬ D k) := by
  have d0 : (bad == 0) = false := by simpa using hb
  have d1 : (bad != 0) = true := by simpa using hb
  have k2 := h.cells.2.2.1
  have HP : Hid (∀ m, Rn (w.drewN m) D B gr a cap u p bad most sz ts v ∧ Ch w (w.drewN m) (fun k => ¬ D k)) := Lib.hid (fun m => ⟨h.mono (dn_is w m), Ch.of_below (dn_is w m)⟩)
  have HD : Hid (∀ m, (w.drewN m).cell? ⟨gr, 2, none⟩ = some (.int .i64 bad)) := Lib.hid (fun m => (h.mono (dn_is w m)).cells.2.2.1)
  clear h hb
  go_enter Tryd.func27, Tryd.ntmps27
  go_wp2_with fail
  go_quiet (fail)
  rename_i nq
  have k3 := HD.out nq
  go_wp2
  go_ret
  exact ⟨rfl, HP.out _⟩
end
end Go.Proofs.YtfgpmccmalddjaaDoor
end

section
namespace Go.Proofs.YtfgpmccmalddjaaDoor
open Go.RowKit
attribute [local go_sem] Oper.semAt_some

theorem bi_take (u : List Bool) (n : Nat) : (bi u).take n = bi (u.take n) := by simp [bi, List.map_take]
theorem bi_drop (u : List Bool) (n : Nat) : (bi u).drop n = bi (u.drop n) := by simp [bi, List.map_drop]
section
variable {w : World} {D : Nat → Prop} {B gr : Nat} {a : Option Addr} {cap : Nat} {u : List Bool} {p : Nat} {most : Nat} {v : Value} {s : Unp}
theorem rtake_short (h : Rn w D B gr a cap u p 0 most s.1.length s.2 v) (c : Nat) (hc : c ≤ 32) (hs : ¬ p + c ≤ u.length) :
    Calls Tryd.prog 27 #[.pointer (some ⟨gr, 0, none⟩), .int .i64 (c : Nat)] w (RtPost w D B gr a cap u most s (fun n : Nat => .int .i64 (n : Nat)) (.int .i64 0) (Ip.take c u p)) := by
  have hp := h.hp
  have hu := h.hu
  have k0 := h.cells.1
  have k1 := h.cells.2.1
  have k2 := h.cells.2.2.1
  have d1 : decide (((u.length : Nat) : Int) - ((p : Nat) : Int) < ((c : Nat) : Int)) = true := by simp; omega
  have HX : Hid (Ip.take c u p = .err 8) := Lib.hid (by unfold Ip.take; rw [if_neg hs])
  have HF : Hid (∀ m, Calls Tryd.prog 32 #[.pointer (some ⟨gr, 0, none⟩), .int .i64 8] (w.drewN m) fun e w' => e = .returned (.tuple #[]) ∧ (∃ b, b ≠ 0 ∧ Rn w' D B gr a cap u p b most s.1.length s.2 v) ∧ Ch (w.drewN m) w' (fun k => ¬ D k)) := Lib.hid (fun m => rfail_any (h.mono (dn_is w m)) 8 (by decide))
  clear h hs
  go_enter Tryd.func27, Tryd.ntmps27
  go_wp2_with fail
  go_quiet (fail)
  rename_i nq
  go_wp2_with fail
  refine (HF.out nq).mono ?_
  rintro e w2 ⟨rfl, ⟨b, hb, hrn⟩, hch⟩
  have k3 := hrn.cells.2.2.1
  have db : (b != 0) = true := by simpa using hb
  have HP : Hid (RtPost w D B gr a cap u most s (fun n : Nat => .int .i64 (n : Nat)) (.int .i64 0) (Ip.take c u p) (.returned (.int .i64 0)) w2) := Lib.hid (by
    rw [HX.out]; exact ⟨rfl, ⟨p, b, _, _, v, hb, hrn⟩, (Ch.of_below (T := fun k => ¬ D k) (dn_is w nq)).trans hch (fun n hn => .inl hn)⟩)
  clear hrn hch hb k0 k1 k2
  go_wp2
  go_ret
  exact HP.out
set_option maxHeartbeats 1000000 in
theorem rtake_ok (h : Rn w D B gr a cap u p 0 most s.1.length s.2 v) (c : Nat) (hc : c ≤ 32) (hs : p + c ≤ u.length) (hz : c ≠ 0 ∨ 0 < u.length) :
    Calls Tryd.prog 27 #[.pointer (some ⟨gr, 0, none⟩), .int .i64 (c : Nat)] w (RtPost w D B gr a cap u most s (fun n : Nat => .int .i64 (n : Nat)) (.int .i64 0) (Ip.take c u p)) := by
  have hp := h.hp
  have hu := h.hu
  have k0 := h.cells.1
  have k1 := h.cells.2.1
  have k2 := h.cells.2.2.1
  have d1 : decide (((u.length : Nat) : Int) - ((p : Nat) : Int) < ((c : Nat) : Int)) = false := by simp; omega
  have HX : Hid (Ip.take c u p = .ok (Bt.num false ((u.drop p).take c)) (p + c)) := Lib.hid (by unfold Ip.take; rw [if_pos hs])
  have HR := Lib.hid h
  clear h
  go_enter Tryd.func27, Tryd.ntmps27
  go_wp2_with fail
  go_quiet (fail)
  rename_i nq
  have hw1 := HR.out.mono (dn_is w nq)
  have HB1 := Lib.hid (dn_is w nq)
  have q1 := hw1.cells.2.1
  have q2 := hw1.cells.2.2.1
  have qf := hw1.free 1
  have HR1 := Lib.hid hw1
  clear hw1 k0 k1 k2 HR
  revert q1 q2 qf HR1 HB1
  generalize w.drewN nq = w1
  intro HB1 q1 q2 qf HR1
  have e1 : ((p + c : Nat) : Int) = (p : Int) + (c : Int) := by omega
  have c2 : Ch w1 (w1.setCell ⟨gr, 1, none⟩ (.int .i64 ((p : Int) + (c : Int)))) (fun k => k = gr) := (Ch.refl w1 (fun k => k = gr)).set (p := ⟨gr, 1, none⟩) (.inl rfl) _
  have hr2 := row_set HR1.out.row 1 (.int .i64 ((p : Int) + (c : Int)))
  have ht := HR1.out.turn (q := p + c) (sz' := s.1.length) (bad' := 0) c2 (by rw [e1]; exact hr2) hs HR1.out.hs HR1.out.ht
  have t0 := ht.1.cells.1
  have t1 := ht.1.cells.2.1
  rw [e1] at t1
  have HT := Lib.hid (And.intro ht.1 ((Ch.of_below (T := fun k => ¬ D k) HB1.out).trans ht.2 (fun n hn => .inl hn)))
  have HP : Hid (∀ m, RtPost w D B gr a cap u most s (fun n : Nat => .int .i64 (n : Nat)) (.int .i64 0) (Ip.take c u p) (.returned (.int .i64 ((Bt.num false ((u.drop p).take c) : Nat) : Int))) ((w1.setCell ⟨gr, 1, none⟩ (.int .i64 ((p : Int) + (c : Int)))).drewN m)) := Lib.hid (fun m => by
    rw [HX.out]
    exact ⟨rfl, ⟨v, HT.out.1.mono (dn_is _ m)⟩, HT.out.2.trans (Ch.of_below (T := fun k => ¬ D k) (dn_is _ m)) (fun n hn => .inl hn)⟩)
  have hli := ht.1.li.mono (dn_is (w1.setCell ⟨gr, 1, none⟩ (.int .i64 ((p : Int) + (c : Int)))) 1)
  have HLI := Lib.hid hli
  have hle := hli.hle
  clear ht hr2 c2 HR1 HB1 e1 HX
  have HNM : Hid (∀ (W : World) (ao : Option Addr) (cap' n : Nat), n = c → Is .i64 W ao n cap' (bi ((u.drop p).take c)) → Calls Tryd.prog 51 #[.slice ao n cap', .bool false] W fun e w' => e = .returned (.int .i64 ((Bt.num false ((u.drop p).take c) : Nat) : Int)) ∧ W = w') := Lib.hid (fun W ao cap' n hn h => number_any false ao n cap' _ W h (by omega))
  generalize Bt.num false ((u.drop p).take c) = N at *
  obtain ⟨q, hq⟩ : ∃ q : Nat, p + c = q := ⟨_, rfl⟩
  have HQ := Lib.hid hq
  have i1 : (0 : Int) ≤ (p : Int) := by omega
  have i2 : (p : Int) ≤ (q : Int) := by omega
  have i3 : (q : Int) ≤ (cap : Int) := by omega
  have iw : IntKind.i64.wrap ((q : Int) - (c : Int)) = (p : Int) := by rw [IntWalk.i64_in _ ⟨by omega, by omega⟩]; omega
  have HIW := Lib.hid iw
  have e1 : (p : Int) + (c : Int) = (q : Int) := by omega
  rw [e1] at t0 t1 HP HT HLI hli
  have hqc : q - p = c := by omega
  have HQC := Lib.hid hqc
  have hcp : p ≤ q ∧ q ≤ cap ∧ q ≤ u.length := by omega
  clear hqc hq
  by_cases hc0 : c ≤ 0
  · have HI0 : Hid (∀ (W : World) (ao : Option Addr) (cap' n : Nat), n = c → (ao = none → cap' = 0) → Is .i64 W ao n cap' (bi ((u.drop p).take c))) := Lib.hid (fun W ao cap' n hn h => by
      obtain rfl : c = 0 := by omega
      subst hn
      exact Is.none0 W ao cap' h)
    cases a with
    | none =>
      have hcap := hli.hnil rfl
      omega
    | some ad =>
      by_cases hck : cap = p
      · subst hck
        obtain rfl : q = cap := by omega
        clear hli
        go_wp2_with fail
        clear e1
        go_region_held3 (fun w' => w'.cell? ⟨gr, 0, none⟩ = some (.slice (some ad) u.length q) ∧ w'.cell? ⟨gr, 1, none⟩ = some (.int .i64 (q : Nat))) (go_keep)
          (first | (go_at_call 51; refine (HNM.out _ _ _ _ (by have := HIW.out; have := HQC.out; omega) (HI0.out _ _ _ _ (by have := HQC.out; have := HIW.out; omega) (fun h => by cases h))).mono ?_; rintro e w' ⟨rfl, rfl⟩))
        go_wp2
        go_ret
        exact HP.out 1
      · clear hli
        go_wp2_with fail
        clear e1
        go_region_held3 (fun w' => w'.cell? ⟨gr, 0, none⟩ = some (.slice (some ad) u.length cap) ∧ w'.cell? ⟨gr, 1, none⟩ = some (.int .i64 (q : Nat))) (go_keep)
          (first | (go_at_call 51; refine (HNM.out _ _ _ _ (by have := HIW.out; have := HQC.out; omega) (HI0.out _ _ _ _ (by have := HQC.out; have := HIW.out; omega) (fun h => by cases h))).mono ?_; rintro e w' ⟨rfl, rfl⟩))
        go_wp2
        go_ret
        exact HP.out 1
  · obtain ⟨b, off, rfl, _, _⟩ := hli.at' p (by omega)
    have hck : ¬ cap = p := by omega
    have HIS := Lib.hid ((HLI.out.suf p hp).pre c (by omega))
    rw [bi_drop, bi_take] at HIS
    clear hli
    go_wp2_with fail
    clear e1
    go_region_held3 (fun w' => w'.cell? ⟨gr, 0, none⟩ = some (.slice (some ⟨b, off, none⟩) u.length cap) ∧ w'.cell? ⟨gr, 1, none⟩ = some (.int .i64 (q : Nat))) (go_keep)
      (first | (go_at_call 51; refine (HNM.out _ _ _ _ (by have := HIW.out; have := HQC.out; omega) (by rw [HQC.out]; exact HIS.out)).mono ?_; rintro e w' ⟨rfl, rfl⟩))
    go_wp2
    go_ret
    exact HP.out 1
theorem rtake_any (h : Rn w D B gr a cap u p 0 most s.1.length s.2 v) (c : Nat) (hc : c ≤ 32) (hz : c ≠ 0 ∨ 0 < u.length) :
    Calls Tryd.prog 27 #[.pointer (some ⟨gr, 0, none⟩), .int .i64 (c : Nat)] w (RtPost w D B gr a cap u most s (fun n : Nat => .int .i64 (n : Nat)) (.int .i64 0) (Ip.take c u p)) := by
  by_cases hs : p + c ≤ u.length
  · exact rtake_ok h c hc hs hz
  · exact rtake_short h c hc hs
/-- take, however it stands. -/
theorem rtake_rq (r : Ip.Rs Unp) (h : Rq w D B gr a cap u most r) (c : Nat) (hc : c ≤ 32) (hz : c ≠ 0 ∨ 0 < u.length) :
    Calls Tryd.prog 27 #[.pointer (some ⟨gr, 0, none⟩), .int .i64 (c : Nat)] w fun e w' =>
      match r with
      | .ok s q => RtPost w D B gr a cap u most s (fun n : Nat => .int .i64 (n : Nat)) (.int .i64 0) (Ip.take c u q) e w'
      | .err n => e = .returned (.int .i64 0) ∧ Rq w' D B gr a cap u most (.err n) ∧ Ch w w' (fun k => ¬ D k) := by
  cases r with
  | ok s q => obtain ⟨v, h⟩ := h; exact rtake_any h c hc hz
  | err n =>
    obtain ⟨p, bad, sz, ts, v, hb, h⟩ := h
    refine (rtake_dead h hb c).mono ?_
    rintro e w1 ⟨rfl, hr, hch⟩
    exact ⟨rfl, ⟨p, bad, sz, ts, v, hb, hr⟩, hch⟩
end
end Go.Proofs.YtfgpmccmalddjaaDoor
end

section
namespace Go.Proofs.YtfgpmccmalddjaaDoor
open Go.RowKit

set_option maxHeartbeats 1000000 in
theorem refFree_any (a : Option Addr) (len cap : Nat) (l : List Int) (w : World) (h : Is .i64 w a len cap l) (hr : len ≤ 140737488355328) :
    Calls Tryd.prog 72 #[.slice a len cap] w fun e w' => e = .returned (.tuple #[.int .i64 (Cn.freeN l), .bool (Cn.freeB l)]) ∧ w = w' := by
  have HL := Lib.hid h.hlen
  have H := Lib.hid h
  clear h
  by_cases hbig : 512 < len
  · have d1 : decide (512 < (len : Int)) = true := by simp; omega
    have hf := Cn.form_big l (by rw [HL.out]; exact hbig)
    have HX := Lib.hid (show Cn.freeN l = 0 ∧ Cn.freeB l = false by simp [Cn.freeN, Cn.freeB, hf])
    clear hf
    go_enter Tryd.func72, Tryd.ntmps72
    go_wp2
    go_ret2
    exact ⟨by rw [HX.out.1, HX.out.2]; rfl, rfl⟩
  · have d1 : decide (512 < (len : Int)) = false := by simp; omega
    go_enter Tryd.func72, Tryd.ntmps72
    go_wp2
    go_loop [4, 5] (fun s i => ∃ k : Nat, k ≤ len ∧ i = .int .i64 k ∧ s = .int .i64 (Cn.sum (l.take k) : Nat) ∧ Hid (∀ j, j < k → 0 ≤ l.getD j 0 ∧ l.getD j 0 ≤ 16)) (fun _ i => len - (intOf i).toNat)
    case atStart => exact ⟨0, by omega, rfl, rfl, Lib.hid (fun j hj => absurd hj (by omega))⟩
    case round =>
      obtain ⟨k, hk, rfl, rfl, HG⟩ := hrel
      have hsum : Cn.sum (l.take k) ≤ 33554432 := by have := Cn.sum_le (l.take k); have h2 : (l.take k).length ≤ 512 := by simp; omega
                                                     omega
      by_cases hlt : k < len
      · obtain ⟨b, off, rfl, hb, hcell⟩ := H.out.at' k hlt
        have hkl : k < l.length := by rw [HL.out]; exact hlt
        have HS := Lib.hid (show Cn.sum (l.take (k + 1)) = Cn.sum (l.take k) + Cn.part (l.getD k 0) by rw [ints_snoc l k hkl, Cn.sum_snoc])
        have HB := Lib.hid (Cn.form_bad l k hkl)
        have HG2 := Lib.hid (show 0 ≤ l.getD k 0 ∧ l.getD k 0 ≤ 16 → ∀ j, j < k + 1 → 0 ≤ l.getD j 0 ∧ l.getD j 0 ≤ 16 from fun hx j hj => by
          by_cases hjk : j < k
          · exact HG.out j hjk
          · obtain rfl : j = k := by omega
            exact hx)
        clear hkl
        generalize hz : l.getD k 0 = z at *
        have HZ := Lib.hid hz
        clear hz
        generalize Cn.sum (l.take k) = s at *
        by_cases hneg : z < 0
        · have dz : decide (z < 0) = true := by simpa using hneg
          have HX := Lib.hid (show Cn.freeN l = 0 ∧ Cn.freeB l = false by simp [Cn.freeN, Cn.freeB, HB.out (.inl hneg)])
          clear hneg
          go_wp2
          go_ret2
          exact ⟨by rw [HX.out.1, HX.out.2]; rfl, rfl⟩
        · have dz : decide (z < 0) = false := by simpa using hneg
          by_cases hhi : 16 < z
          · have dh : decide (16 < z) = true := by simpa using hhi
            have HX := Lib.hid (show Cn.freeN l = 0 ∧ Cn.freeB l = false by simp [Cn.freeN, Cn.freeB, HB.out (.inr hhi)])
            clear hneg hhi
            go_wp2
            go_ret2
            exact ⟨by rw [HX.out.1, HX.out.2]; rfl, rfl⟩
          · have dh : decide (16 < z) = false := by simpa using hhi
            have HG3 := Lib.hid (HG2.out ⟨by omega, by omega⟩)
            by_cases hz0 : z = 0
            · subst hz0
              have e0 : Cn.part 0 = 0 := rfl
              clear hneg hhi
              go_wp2
              go_round
              case rel => exact ⟨k + 1, by omega, by go_num, int_eq (by rw [HS.out, e0]; rfl), HG3⟩
              case measure => simp [intOf]; omega
            · obtain ⟨n, rfl⟩ := Int.eq_ofNat_of_zero_le (show 0 ≤ z by omega)
              have hn : n ≤ 16 := by omega
              have dpos : decide (0 < n) = true := by simp; omega
              have dpos2 : 0 < n := by omega
              have ep : Cn.part (n : Int) = 65536 / 2 ^ n := by unfold Cn.part; rw [if_neg (by omega)]; rfl
              have EP := Lib.hid ep
              clear hneg hhi hz0 ep
              go_wp2
              go_loop [6, 7] (fun q i => ∃ j : Nat, j ≤ n ∧ i = .int .i64 j ∧ q = .int .i64 (65536 / 2 ^ j : Nat)) (fun _ i => n - (intOf i).toNat)
              case atStart => exact ⟨0, by omega, rfl, rfl⟩
              case round =>
                obtain ⟨j, hj, rfl, rfl⟩ := hrel
                have HN := Lib.hid (show 65536 / 2 ^ (j + 1) = 65536 / 2 ^ j / 2 by rw [Nat.pow_succ, Nat.div_div_eq_div_mul])
                have hq : 65536 / 2 ^ j ≤ 65536 := Nat.div_le_self _ _
                by_cases hjn : j < n
                · generalize 65536 / 2 ^ j = q at *
                  go_wp2
                  go_round
                  case rel => exact ⟨j + 1, by omega, by go_num, int_eq (by rw [HN.out]; omega)⟩
                  case measure => simp [intOf]; omega
                · obtain rfl : n = j := by omega
                  generalize hqq : 65536 / 2 ^ n = q at *
                  have HQ := Lib.hid hqq
                  clear hqq
                  go_wp2
                  go_round
                  case rel => exact ⟨k + 1, by omega, by go_num, int_eq (by rw [HS.out, EP.out]; omega), HG3⟩
                  case measure => simp [intOf]; omega
      · obtain rfl : len = k := by omega
        have hfull : l.take len = l := List.take_of_length_le (by rw [HL.out]; exact Nat.le_refl _)
        rw [hfull] at hsum
        have hf := Cn.form_good l (by rw [HL.out]; omega) (fun j hj => HG.out j (by rw [HL.out] at hj; exact hj))
        have HX := Lib.hid (show Cn.freeN l = 65536 - (Cn.sum l : Int) ∧ Cn.freeB l = decide (Cn.sum l ≤ 65536) by simp [Cn.freeN, Cn.freeB, hf])
        have HFU := Lib.hid hfull
        clear hf hfull HG
        rw [HFU.out]
        generalize Cn.sum l = s at *
        by_cases hs : s ≤ 65536
        · have ds : decide ((s : Int) ≤ 65536) = true := by simp; omega
          have HD := Lib.hid (show decide (s ≤ 65536) = true by simpa using hs)
          clear hs
          go_wp2
          go_ret2
          exact ⟨by rw [HX.out.1, HX.out.2, HD.out]; rfl, rfl⟩
        · have ds : decide ((s : Int) ≤ 65536) = false := by simp; omega
          have HD := Lib.hid (show decide (s ≤ 65536) = false by simpa using hs)
          clear hs
          go_wp2
          go_ret2
          exact ⟨by rw [HX.out.1, HX.out.2, HD.out]; rfl, rfl⟩
/-- A row of the call's own is written in place. -/
def PlusPost (w : World) (l : List Bool) (e : Ending) (w' : World) : Prop :=
  ∃ v, e = .returned v ∧ w'.ownsRow w.heap.size 3 1 v l.length (ivs (bi (Cn.plus l))) ∧ Below w.heap.size w w'
/-- In the midst: the last k bits were 1, and are 0 now (r: the bits, the last one first). -/
def Cn.mid (r : List Bool) (k : Nat) : List Bool := (List.replicate k false ++ r.drop k).reverse
theorem Cn.mid_length (r : List Bool) (k : Nat) (hk : k ≤ r.length) : (Cn.mid r k).length = r.length := by simp [Cn.mid]; omega
theorem Cn.mid_get (r : List Bool) (k : Nat) (hk : k < r.length) : (Cn.mid r k).getD (r.length - 1 - k) false = r.getD k false := by
  simp only [Cn.mid, List.getD]
  rw [List.getElem?_reverse (by simp; omega)]
  have e : (List.replicate k false ++ r.drop k).length - 1 - (r.length - 1 - k) = k := by simp; omega
  rw [e, List.getElem?_append_right (by simp)]
  simp
theorem Cn.mid_set (r : List Bool) (k : Nat) (hk : k < r.length) (b : Bool) : (Cn.mid r k).set (r.length - 1 - k) b = (List.replicate k false ++ b :: r.drop (k + 1)).reverse := by
  apply List.ext_getElem?
  intro i
  rw [List.getElem?_set]
  have hl : (Cn.mid r k).length = r.length := Cn.mid_length r k (by omega)
  have hl2 : (List.replicate k false ++ b :: r.drop (k + 1)).length = r.length := by simp; omega
  by_cases hi : i < r.length
  · by_cases he : r.length - 1 - k = i
    · subst he
      rw [if_pos rfl, if_pos (by rw [hl]; omega), List.getElem?_reverse (by rw [hl2]; omega), hl2]
      have e : r.length - 1 - (r.length - 1 - k) = k := by omega
      rw [e, List.getElem?_append_right (by simp)]
      simp
    · rw [if_neg he, Cn.mid, List.getElem?_reverse (by simp; omega), List.getElem?_reverse (by rw [hl2]; omega), hl2]
      have e2 : (List.replicate k false ++ r.drop k).length = r.length := by simp; omega
      rw [e2]
      by_cases hk2 : r.length - 1 - i < k
      · rw [List.getElem?_append_left (by simp; omega), List.getElem?_append_left (by simp; omega)]
      · rw [List.getElem?_append_right (by simp; omega), List.getElem?_append_right (by simp; omega)]
        simp only [List.length_replicate]
        obtain ⟨d, hd⟩ : ∃ d, r.length - 1 - i - k = d + 1 := ⟨r.length - 1 - i - k - 1, by omega⟩
        rw [hd, List.getElem?_cons_succ, List.getElem?_drop, List.getElem?_drop]
        congr 1; omega
  · have h1 : (List.replicate k false ++ b :: r.drop (k + 1)).reverse[i]? = none := List.getElem?_eq_none (by simp; omega)
    rw [h1, if_neg (by omega), List.getElem?_eq_none (by rw [hl]; omega)]
theorem Cn.mid_succ (r : List Bool) (k : Nat) (hk : k < r.length) : (Cn.mid r k).set (r.length - 1 - k) false = Cn.mid r (k + 1) := by
  rw [Cn.mid_set r k hk, Cn.mid, List.replicate_succ']; simp
theorem Cn.incR_ones (r : List Bool) : ∀ k, k ≤ r.length → (∀ j, j < k → r.getD j false = true) → Cn.incR r = List.replicate k false ++ Cn.incR (r.drop k)
  | 0, _, _ => by simp
  | k + 1, hk, h => by
    rw [Cn.incR_ones r k (by omega) (fun j hj => h j (by omega))]
    have hx := h k (by omega)
    have e : r.drop k = true :: r.drop (k + 1) := by
      rw [List.drop_eq_getElem_cons (by omega)]
      simp only [List.getD, List.getElem?_eq_getElem (show k < r.length by omega), Option.getD_some] at hx
      rw [hx]
    rw [e, Cn.incR, List.replicate_succ']; simp
theorem Cn.plus_found (l : List Bool) (k : Nat) (hk : k < l.length) (h : ∀ j, j < k → l.reverse.getD j false = true) (h0 : l.reverse.getD k false = false) :
    (Cn.mid l.reverse k).set (l.length - 1 - k) true = Cn.plus l := by
  have hk' : k < l.reverse.length := by simpa using hk
  have := Cn.mid_set l.reverse k hk' true
  rw [List.length_reverse] at this
  rw [this, Cn.plus, Cn.incR_ones l.reverse k (by simp; omega) h]
  have e : l.reverse.drop k = false :: l.reverse.drop (k + 1) := by
    rw [List.drop_eq_getElem_cons hk']
    simp only [List.getD, List.getElem?_eq_getElem hk', Option.getD_some] at h0
    rw [h0]
  rw [e, Cn.incR]
theorem Cn.plus_all (l : List Bool) (h : ∀ j, j < l.length → l.reverse.getD j false = true) : Cn.mid l.reverse l.length = Cn.plus l := by
  rw [Cn.plus, Cn.incR_ones l.reverse l.length (by simp) h, Cn.mid]
  have e : l.reverse.drop l.length = [] := List.drop_eq_nil_of_le (by simp)
  rw [e]; simp [Cn.incR]
theorem bi_set (l : List Bool) (j : Nat) (b : Bool) : (bi l).set j (b.toNat : Int) = bi (l.set j b) := by simp [bi, List.map_set]
set_option maxHeartbeats 1000000 in
theorem plus_any (a : Option Addr) (len cap : Nat) (l : List Bool) (w : World) (h : Is .i64 w a len cap (bi l)) (hr : len ≤ 1000000) :
    Calls Tryd.prog 80 #[.slice a len cap] w (PlusPost w l) := by
  have hlen : l.length = len := by have := h.hlen; rwa [bi_length] at this
  have HL := Lib.hid hlen
  have own0 := Lib.hid (World.ownsRow_made (base := w.heap.size) (e := 3) (size := 1) w #[] 0 (Nat.le_refl _) (by unfold maxLen; omega) rfl)
  have hsrc := (h.mono (below_alloc w (.cells #[] 3))).src
  clear hlen h
  go_enter Tryd.func80, Tryd.ntmps80
  go_wp2_with (at_builtin; refine wpl_append tyI rfl _ _ rfl own0.out hsrc rfl rfl (by omega) (by omega) (by simp) ?_)
  intro v1 w1 own1 hg1 _
  have hb1 : Below w.heap.size w w1 := (below_alloc w _).grown hg1 (by simp) (fun k hk => (own0.out.lt k hk).1)
  have O1 : Hid (w1.ownsRow w.heap.size 3 1 v1 len (ivs (bi l))) := Lib.hid (by simpa using own1)
  clear own1 hg1 hsrc own0
  rcases own_nil_or O1.out with ⟨rfl, rfl⟩ | ⟨g, cap1, rfl, hle, hbg, _⟩
  · have hl0 : l = [] := List.eq_nil_of_length_eq_zero HL.out
    subst hl0
    go_wp2
    go_loopw [4] (fun i wr => i = .int .i64 (-1) ∧ w1 = wr) (fun i _ => 0)
    case atStart => exact ⟨by go_num, rfl⟩
    case round =>
      obtain ⟨rfl, rfl⟩ := hrel
      go_wp2
      go_ret
      exact ⟨_, rfl, O1.out, hb1⟩
  · go_wp2
    go_loopw [4] (fun i wr => ∃ k : Nat, k ≤ len ∧ i = .int .i64 ((len : Int) - 1 - k) ∧ Below w.heap.size w wr ∧ Hid (∀ j, j < k → l.reverse.getD j false = true) ∧ Hid (wr.ownsRow w.heap.size 3 1 (.slice (some ⟨g, 0, none⟩) len cap1) len (ivs (bi (Cn.mid l.reverse k))))) (fun i _ => ((intOf i) + 1).toNat)
    case atStart => exact ⟨0, by omega, by go_num, hb1, Lib.hid (fun j hj => absurd hj (by omega)), by simpa [Cn.mid] using O1⟩
    case round =>
      obtain ⟨k, hk, rfl, hb, HJ, HO⟩ := hrel
      by_cases hlt : k < len
      · obtain ⟨i, hi⟩ : ∃ i : Nat, i = len - 1 - k := ⟨_, rfl⟩
        have hii : (len : Int) - 1 - k = (i : Int) := by omega
        have Hi := Lib.hid hi
        have hil : i < len := by omega
        have hml : (Cn.mid l.reverse k).length = len := by rw [Cn.mid_length _ _ (by simp; rw [HL.out]; omega)]; simp [HL.out]
        have hget : (Cn.mid l.reverse k).getD i false = l.reverse.getD k false := by
          have := Cn.mid_get l.reverse k (by simp; rw [HL.out]; exact hlt)
          rw [List.length_reverse, HL.out, ← hi] at this; exact this
        have hcell : wr.cell? ⟨g, i, none⟩ = some (.int .i64 ((l.reverse.getD k false).toNat : Int)) := by
          rw [HO.out.cellAt i (by omega), ivs_get _ _ (by rw [bi_length, hml]; exact hil), bi_getD, hget]
        have hfr : wr.frozen? ⟨g, i, none⟩ = false := by
          rcases HO.out.2 with ⟨e, _⟩ | ⟨g', c', cur, e, _, hg', _⟩
          · simp at e
          · simp only [Value.slice.injEq, Option.some.injEq, Addr.mk.injEq, and_true, true_and] at e
            obtain ⟨rfl, _⟩ := e
            exact frozen_of_row wr g i _ _ hg'
        rw [hii]
        by_cases hbit : l.reverse.getD k false = true
        · rw [hbit] at hcell
          have hset := own_set HO.out i ((false.toNat : Nat) : Int)
          rw [bi_set, hi] at hset
          have hms := Cn.mid_succ l.reverse k (by simp; rw [HL.out]; exact hlt)
          rw [List.length_reverse, HL.out] at hms
          rw [hms, ← hi] at hset
          have H2 : Hid ((wr.setCell ⟨g, i, none⟩ (.int .i64 0)).ownsRow w.heap.size 3 1 (.slice (some ⟨g, 0, none⟩) len cap1) len (ivs (bi (Cn.mid l.reverse (k + 1))))) := Lib.hid hset
          have HJ2 : Hid (∀ j, j < k + 1 → l.reverse.getD j false = true) := Lib.hid (fun j hj => by
            by_cases hjk : j < k
            · exact HJ.out j hjk
            · obtain rfl : j = k := by omega
              exact hbit)
          have hb2 : Below w.heap.size w (wr.setCell ⟨g, i, none⟩ (.int .i64 0)) := hb.setCell hbg _
          have hcell2 : wr.cell? ⟨g, i, none⟩ = some (.int .i64 1) := hcell
          clear hset hms hcell hget hml hi hii hbit HO HJ
          go_wp2
          go_roundw
          case rel => exact ⟨k + 1, by omega, int_eq (by have := Hi.out; omega), hb2, HJ2, H2⟩
          case measure => simp [intOf]
        · have hbf : l.reverse.getD k false = false := by simpa using hbit
          rw [hbf] at hcell
          have hset := own_set HO.out i ((true.toNat : Nat) : Int)
          rw [bi_set, hi] at hset
          have hms := Cn.plus_found l k (by rw [HL.out]; exact hlt) HJ.out hbf
          rw [HL.out] at hms
          rw [hms, ← hi] at hset
          have H2 : Hid ((wr.setCell ⟨g, i, none⟩ (.int .i64 1)).ownsRow w.heap.size 3 1 (.slice (some ⟨g, 0, none⟩) len cap1) len (ivs (bi (Cn.plus l)))) := Lib.hid hset
          have hb2 : Below w.heap.size w (wr.setCell ⟨g, i, none⟩ (.int .i64 1)) := hb.setCell hbg _
          have hcell2 : wr.cell? ⟨g, i, none⟩ = some (.int .i64 0) := hcell
          clear hset hms hcell hget hml hi hii hbit hbf HO HJ
          go_wp2
          go_ret
          exact ⟨_, rfl, by rw [HL.out]; exact H2.out, hb2⟩
      · obtain rfl : len = k := by omega
        have hms := Cn.plus_all l (fun j hj => HJ.out j (by rw [HL.out] at hj; exact hj))
        rw [HL.out] at hms
        rw [hms] at HO
        have e1 : (len : Int) - 1 - len = -1 := by omega
        rw [e1]
        clear hms e1
        go_wp2
        go_ret
        exact ⟨_, rfl, by rw [HL.out]; exact HO.out, hb⟩
end Go.Proofs.YtfgpmccmalddjaaDoor
end

section
namespace Go.Proofs.YtfgpmccmalddjaaDoor
open Go.RowKit

/-- A symbol and where its bits lie. -/
structure Cd where
  s : Int
  a : Option Addr
  len : Nat
  cap : Nat
  b : List Bool
instance : Inhabited Cd := ⟨⟨0, none, 0, 0, []⟩⟩
def cth (cs : List Cd) (i : Nat) : Cd := cs.getD i default
def cvs (cs : List Cd) : List Value := cs.flatMap fun c => [.int .i64 c.s, .slice c.a c.len c.cap]
theorem cvs_length (cs : List Cd) : (cvs cs).length = cs.length * 2 := by
  induction cs with
  | nil => rfl
  | cons c cs ih => simp only [cvs, List.flatMap_cons, List.length_append, List.length_cons, List.length_nil] at *; omega
theorem cvs_append (cs ds : List Cd) : cvs (cs ++ ds) = cvs cs ++ cvs ds := by simp [cvs]
theorem cvs_get (cs : List Cd) : ∀ i, i < cs.length → (cvs cs)[i * 2]? = some (.int .i64 (cth cs i).s) ∧ (cvs cs)[i * 2 + 1]? = some (.slice (cth cs i).a (cth cs i).len (cth cs i).cap) := by
  induction cs with
  | nil => intro i hi; simp at hi
  | cons c cs ih =>
    intro i hi
    have e : cvs (c :: cs) = .int .i64 c.s :: .slice c.a c.len c.cap :: cvs cs := rfl
    rw [e]
    cases i with
    | zero => exact ⟨rfl, rfl⟩
    | succ i =>
      have := ih i (by simp at hi; omega)
      have e3 : (i + 1) * 2 = i * 2 + 2 := by omega
      rw [e3]
      exact this
theorem cth_left (cs ds : List Cd) (i : Nat) (h : i < cs.length) : cth (cs ++ ds) i = cth cs i := by simp only [cth, List.getD]; rw [List.getElem?_append_left h]
theorem cth_last (cs : List Cd) (c : Cd) : cth (cs ++ [c]) cs.length = c := by simp [cth, List.getD]
/-- A slice of codes of the call's own. -/
structure Cds (w : World) (B : Nat) (v : Value) (n : Nat) (cs : List Cd) : Prop where
  hn : cs.length = n
  own : w.ownsRow B 154 2 v n (cvs cs)
  each : ∀ i, i < n → Is .i64 w (cth cs i).a (cth cs i).len (cth cs i).cap (bi (cth cs i).b)
  blk : ∀ i, i < n → ∀ ad, (cth cs i).a = some ad → ad.block < w.heap.size ∧ v.ownBlock ≠ some ad.block
  lo : ∀ i, i < n → ∀ ad, (cth cs i).a = some ad → B ≤ ad.block
theorem tyC : RowTy Tryd.prog 99 154 (.agg #[.int .i64 0, .slice none 0 0]) 2 32 := ⟨Tryd.underlying99, by kernel_rfl, rfl, by omega⟩
theorem src_code (w : World) (s : Int) (a : Option Addr) (len cap : Nat) : SrcRow (w.alloc (.cells #[.int .i64 s, .slice a len cap] 154)) (some ⟨w.heap.size, 0, none⟩) 1 1 (cvs [⟨s, a, len, cap, []⟩]) 2 :=
  src_new w #[.int .i64 s, .slice a len cap] 154 1 1 2 rfl (by intro u hu; simp at hu; rcases hu with rfl | rfl <;> rfl)
theorem Cds.kept {w w' : World} {T : Nat → Prop} {B : Nat} {v : Value} {n : Nat} {cs : List Cd} (h : Cds w B v n cs) (c : Ch w w' T) (h1 : ∀ k, v.ownBlock = some k → ¬ T k) (h2 : ∀ i, i < n → ∀ ad, (cth cs i).a = some ad → ¬ T ad.block) : Cds w' B v n cs :=
  ⟨h.hn, c.own h.own h1, fun i hi => (h.each i hi).kept c (h2 i hi), fun i hi ad e => ⟨Nat.lt_of_lt_of_le (h.blk i hi ad e).1 c.size, (h.blk i hi ad e).2⟩, h.lo⟩
theorem Cds.mono {w w' : World} {B : Nat} {v : Value} {n : Nat} {cs : List Cd} (h : Cds w B v n cs) (hb : Below w.heap.size w w') : Cds w' B v n cs :=
  h.kept (Ch.of_below (T := fun _ => False) hb) (fun _ _ h => h) (fun _ _ _ _ h => h)
theorem Cds.push {w w' : World} {B : Nat} {v v' : Value} {n : Nat} {cs : List Cd} (h : Cds w B v n cs) (c : Cd) (hi : Is .i64 w c.a c.len c.cap (bi c.b)) (hb : ∀ ad, c.a = some ad → ad.block < w.heap.size ∧ v.ownBlock ≠ some ad.block) (hlo : ∀ ad, c.a = some ad → B ≤ ad.block)
    (o : w'.ownsRow B 154 2 v' (n + 1) (cvs cs ++ cvs [c])) (ch : Ch w w' (fun k => v.ownBlock = some k)) (f : ∀ k, v'.ownBlock = some k → v.ownBlock = some k ∨ w.heap.size ≤ k) : Cds w' B v' (n + 1) (cs ++ [c]) := by
  have hcn := h.hn
  have far : ∀ ad : Addr, ad.block < w.heap.size ∧ v.ownBlock ≠ some ad.block → v'.ownBlock ≠ some ad.block := fun ad h e => (f _ e).elim h.2 (fun h' => by omega)
  refine ⟨by simp [hcn], by rw [cvs_append]; exact o, fun i hi' => ?_, fun i hi' ad e => ?_, fun i hi' ad e => ?_⟩
  · by_cases hin : i < n
    · rw [cth_left _ _ _ (by omega)]; exact (h.each i hin).kept ch (fun ad e => (h.blk i hin ad e).2)
    · obtain rfl : i = cs.length := by omega
      rw [cth_last]; exact hi.kept ch (fun ad e => (hb ad e).2)
  · by_cases hin : i < n
    · rw [cth_left _ _ _ (by omega)] at e
      exact ⟨Nat.lt_of_lt_of_le (h.blk i hin ad e).1 ch.size, far ad (h.blk i hin ad e)⟩
    · obtain rfl : i = cs.length := by omega
      rw [cth_last] at e
      exact ⟨Nat.lt_of_lt_of_le (hb ad e).1 ch.size, far ad (hb ad e)⟩
  · by_cases hin : i < n
    · rw [cth_left _ _ _ (by omega)] at e; exact h.lo i hin ad e
    · obtain rfl : i = cs.length := by omega
      rw [cth_last] at e; exact hlo ad e
theorem Cds.cells {w : World} {B : Nat} {v : Value} {n : Nat} {cs : List Cd} (h : Cds w B v n cs) : ∃ a cap, v = .slice a n cap ∧ ∀ i, i < n → ∃ g, a = some ⟨g, 0, none⟩ ∧ w.cell? ⟨g, i * 2, none⟩ = some (.int .i64 (cth cs i).s) ∧ w.cell? ⟨g, i * 2 + 1, none⟩ = some (.slice (cth cs i).a (cth cs i).len (cth cs i).cap) := by
  rcases own_nil_or h.own with ⟨rfl, rfl⟩ | ⟨g, cap, rfl, _⟩
  · exact ⟨none, 0, rfl, fun i hi => absurd hi (by omega)⟩
  · refine ⟨_, cap, rfl, fun i hi => ⟨g, rfl, ?_⟩⟩
    obtain ⟨t0, t1⟩ := cvs_get cs i (by rw [h.hn]; exact hi)
    rw [h.own.cellAt (i * 2) (by omega), h.own.cellAt (i * 2 + 1) (by omega)]
    exact ⟨t0, t1⟩
theorem Cds.nil (w : World) (B : Nat) : Cds w B (.slice none 0 0) 0 [] := ⟨rfl, World.ownsRow_nil _ _ _ _, fun i hi => absurd hi (by omega), fun i hi => absurd hi (by omega), fun i hi => absurd hi (by omega)⟩
end Go.Proofs.YtfgpmccmalddjaaDoor
end
