/- What tokens come to behind a text is what they stand for. append, whatever is appended: the row that comes of it lies where it lay, or in a new block. append of whatever (none, nil, some), as one step of a drawn region. (burnishlaw10.Case).text: its contract. Merging by packages: rounds, what is taken of them, and that nothing costs less. -/
import Derived.Test.YtpoilaappcjbeaaGreatDoorZ6
import Derived.Deep.RegionHeld3
set_option linter.unusedSimpArgs false
set_option linter.unusedVariables false
section
namespace Go.Proofs.YtpoilaappcjbeaaGreatDoor
open Go.RowKit

namespace Bc
theorem gb_left (c q : List UInt8) (i : Nat) (h : i < c.length) : gb (c ++ q) i = gb c i := by
  unfold gb
  rw [List.getD, List.getD, List.getElem?_append_left h]
theorem cp_get (d : Nat) (m : List UInt8) (hd : 1 ≤ d ∧ d ≤ m.length) : ∀ n k, k < n → gb (Tk.cp d m n) (m.length + k) = gb (Tk.cp d m n) (m.length + k - d)
  | 0, k, h => by omega
  | n + 1, k, h => by
    have hl := Tk.cp_length d m n
    rw [Tk.cp]
    by_cases e : k = n
    · subst e
      rw [gb_left _ _ (m.length + k - d) (by omega)]
      have h1 : gb (Tk.cp d m k ++ [Tk.bk d (Tk.cp d m k)]) (m.length + k) = (Tk.bk d (Tk.cp d m k)).toNat := by
        unfold gb
        rw [List.getD, List.getElem?_append_right (by omega), hl, Nat.sub_self]
        rfl
      rw [h1]
      unfold Tk.bk gb
      rw [hl]
    · rw [gb_left _ _ (m.length + k) (by omega), gb_left _ _ (m.length + k - d) (by omega)]
      exact cp_get d m hd n k (by omega)
theorem gb_take (l : List UInt8) (n i : Nat) (h : i < n) : gb (l.take n) i = gb l i := by
  unfold gb
  rw [List.getD, List.getD, List.getElem?_take, if_pos h]
theorem gb_drop (l : List UInt8) (n i : Nat) : gb (l.drop n) i = gb l (n + i) := by
  unfold gb
  rw [List.getD, List.getD, List.getElem?_drop]
theorem put_ag (m all tx : List UInt8) (t : Tok) (b : Nat) (ht : Tk.isTok t = true) (hd : t.1 ≠ 0 → t.2 ≤ (m.length : Int)) (hb : b ≤ m.length) (hp : Tk.put m t = all.take (m.length + Tk.size t)) (hx : tx = all.drop b) : agB tx t (m.length - b) (Tk.size t) = true := by
  have hr := Tk.tok_range ht
  subst hx
  unfold agB
  by_cases h0 : t.1 = 0
  · rw [if_pos h0]
    apply decide_eq_true
    have hs : Tk.size t = 1 := by unfold Tk.size; rw [if_pos h0]
    rw [hs] at hp
    unfold Tk.put at hp
    rw [if_pos h0] at hp
    have h2 : gb (all.take (m.length + 1)) m.length = t.2.toNat := by
      rw [← hp]
      unfold gb
      rw [List.getD, List.getElem?_append_right (Nat.le_refl _), Nat.sub_self]
      simp only [List.getElem?_cons_zero, Option.getD_some, UInt8.toNat_ofNat']
      have := hr.2.2.2.2.1 h0
      omega
    rw [gb_take _ _ _ (by omega)] at h2
    rw [gb_drop, show b + (m.length - b) = m.length by omega, h2]
    omega
  · rw [if_neg h0]
    apply decide_eq_true
    intro k hk hdk
    have hd2 := hd h0
    have h1 := (hr.2.2.2.2.2 h0).2
    have hs : Tk.size t = t.1.toNat := by unfold Tk.size; rw [if_neg h0]
    rw [hs] at hp hk
    unfold Tk.put at hp
    rw [if_neg h0] at hp
    have hg := cp_get t.2.toNat m (by omega) t.1.toNat k hk
    rw [hp, gb_take _ _ _ (by omega), gb_take _ _ _ (by omega)] at hg
    rw [gb_drop, gb_drop, show b + (m.length - b + k) = m.length + k by omega, show b + (m.length - b + k - t.2.toNat) = m.length + k - t.2.toNat by omega]
    exact hg
theorem upto_fit (most : Nat) (bf all tx : List UInt8) (ts : List Tok) (hx : tx = all.drop bf.length) (hfin : Tk.upto most (lits bf ++ ts) (lits bf ++ ts).length = (0, all)) (hbm : bf.length ≤ most) :
    ∀ n k m, ts.length - k = n → k ≤ ts.length → Tk.upto most (lits bf ++ ts) (bf.length + k) = (0, m) → bf.length ≤ m.length → fit tx (ts.drop k) (m.length - bf.length) = true
  | 0, k, m, hn, hk, hu, hbl => by
    obtain rfl : k = ts.length := by omega
    have hl : (lits bf ++ ts).length = bf.length + ts.length := by rw [List.length_append, lits_length]
    rw [hl, hu] at hfin
    obtain rfl := (Prod.mk.inj hfin).2
    rw [List.drop_length]
    subst hx
    simp [fit]
  | n + 1, k, m, hn, hk, hu, hbl => by
    have hk2 : k < ts.length := by omega
    have hl : (lits bf ++ ts).length = bf.length + ts.length := by rw [List.length_append, lits_length]
    obtain ⟨p, e1, e2⟩ := upto_pre _ _ all rfl hfin (bf.length + k + 1) (by omega)
    have e3 := e1
    rw [Tk.upto_next hu] at e3
    have hget : (lits bf ++ ts).getD (bf.length + k) (0, 0) = ts.getD k (0, 0) := by
      rw [List.getD, List.getD, List.getElem?_append_right (by rw [lits_length]; omega), lits_length, Nat.add_sub_cancel_left]
    rw [hget] at e3
    obtain ⟨ht, hd, hs, rfl⟩ := stp_inv e3
    have hpl := Tk.put_length m (ts.getD k (0, 0))
    have ih := upto_fit most bf all tx ts hx hfin hbm n (k + 1) _ (by omega) (by omega) e1 (by rw [hpl]; omega)
    rw [List.drop_eq_getElem_cons hk2]
    have hgk : ts[k] = ts.getD k (0, 0) := by simp [List.getD, List.getElem?_eq_getElem hk2]
    rw [hgk]
    have hlen : m.length + Tk.size (ts.getD k (0, 0)) ≤ all.length := by
      have := congrArg List.length e2
      rw [List.length_take, hpl] at this
      omega
    rw [hpl] at e2 ih
    have hag := put_ag m all tx (ts.getD k (0, 0)) bf.length ht hd hbl e2 hx
    rw [show m.length + Tk.size (ts.getD k (0, 0)) - bf.length = m.length - bf.length + Tk.size (ts.getD k (0, 0)) by omega] at ih
    unfold fit
    rw [ht, hag, ih]
    have hxl : tx.length = all.length - bf.length := by rw [hx, List.length_drop]
    rw [decide_eq_true (by omega)]
    rfl
/-- Behind a text: what is there first is the text, and the rest is what the tokens stand for. -/
theorem exp_fit (most : Nat) (bf all : List UInt8) (ts : List Tok) (h : Tk.upto most (lits bf ++ ts) (lits bf ++ ts).length = (0, all)) (hbm : bf.length ≤ most) : fit (all.drop bf.length) ts 0 = true ∧ all.length ≤ most ∧ bf.length ≤ all.length := by
  have hb := upto_lits most bf ts hbm bf.length (Nat.le_refl _)
  rw [List.take_length] at hb
  have h1 := upto_fit most bf all _ ts rfl h hbm _ 0 bf rfl (Nat.zero_le _) hb (Nat.le_refl _)
  rw [Nat.sub_self, List.drop_zero] at h1
  refine ⟨h1, Tk.upto_le _ _ _ _ h, ?_⟩
  obtain ⟨p, e1, e2⟩ := upto_pre _ _ all rfl h bf.length (by rw [List.length_append, lits_length]; omega)
  rw [hb] at e1
  obtain rfl := (Prod.mk.inj e1).2
  have := congrArg List.length e2
  rw [List.length_take] at this
  omega
end Bc
end Go.Proofs.YtpoilaappcjbeaaGreatDoor
end

section
namespace Go.Proofs.YtpoilaappcjbeaaGreatDoor
open Go.RowKit

section
variable {P : Program} {w : World} {ops : Array Oper} {rest : List Oper} {o : Oper} {a : Act} {Q : Exit → Act → World → Prop}
variable {t e : TypeId} {z : Value} {size by' : Nat}
theorem Ch.grown {w w' : World} {v : Value} (hg : w.grownBy w' v.ownBlock) : Ch w w' (fun k => v.ownBlock = some k) :=
  ⟨hg.os, hg.tape, hg.output, hg.size, fun i hi ht => hg.block i hi (fun e => ht e.symm)⟩
theorem wpl_append3 (R : RowTy P t e z size by') (hg : o.guard = none) (s x : Operand) (hop : o.op = Op.call { callee := Callee.builtin Builtin.append, args := #[s, x], argTypes := #[t, t] })
    {base n : Nat} {v : Value} {xs : List Value} (hown : w.ownsRow base e size v n xs) {ao : Option Addr} {m c : Nat} {news : List Value} (hsrc : SrcRow w ao m c news size)
    (hs : a.eval s = v) (hx : a.eval x = .slice ao m c) (h63 : n + m ≤ 9223372036854775807) (hbytes : (n + m) * by' ≤ 140737488355328) (hbase : base ≤ w.heap.size)
    (hK : ∀ v' w', w'.ownsRow base e size v' (n + m) (xs ++ news) → Ch w w' (fun k => v.ownBlock = some k) → (∀ k, v'.ownBlock = some k → v.ownBlock = some k ∨ w.heap.size ≤ k) → wpList P ops Q rest (a.put o.dst v') w') :
    wpList P ops Q (o :: rest) a w := by
  by_cases hm : 0 < m
  · cases ao with
    | none => have := (hsrc.hnone rfl).1; omega
    | some ad => exact wpl_append2 R hg s x hop hown hsrc hs hx hm h63 hbytes hbase (fun v' w' h1 st => hK v' w' h1 (Ch.step st) st.block)
  · obtain rfl : m = 0 := by omega
    rcases own_nil_or hown with ⟨rfl, rfl⟩ | ⟨g, cap, rfl, hle, _⟩
    · refine wpl_append R hg s x hop hown hsrc hs hx h63 hbytes hbase (fun v' w' h1 hg1 hiff => hK v' w' h1 (Ch.grown hg1) (fun k hk => ?_))
      rw [hiff.2 ⟨rfl, rfl⟩] at hk
      simp [Value.ownBlock] at hk
    · exact wpl_fits R hg s x hop hown hsrc hs hx (by omega) (fun w' h1 hg1 => hK _ w' h1 (Ch.grown hg1) (fun k hk => .inl (by simpa [Value.ownBlock] using hk)))
end
end Go.Proofs.YtpoilaappcjbeaaGreatDoor
end

section
namespace Go.Proofs.YtpoilaappcjbeaaGreatDoor
open Go.RowKit
set_option linter.unusedSimpArgs false
set_option linter.unusedVariables false

section
variable {P : Program} {w : World} {ops : Array Oper} {o : Oper} {a : Act} {Q : Exit → Act → World → Prop} {K : Act → World → Prop} {E : Prop}
variable {t e : TypeId} {z : Value} {size by' : Nat}
theorem step_app3 (R : RowTy P t e z size by') (hg : o.guard = none) (s x : Operand) (hop : o.op = Op.call { callee := Callee.builtin Builtin.append, args := #[s, x], argTypes := #[t, t] })
    {base n : Nat} {v : Value} {xs : List Value} (hown : w.ownsRow base e size v n xs) {ao : Option Addr} {m c : Nat} {news : List Value} (hsrc : SrcRow w ao m c news size)
    (hs : a.eval s = v) (hx : a.eval x = .slice ao m c) (h63 : n + m ≤ 9223372036854775807) (hbytes : (n + m) * by' ≤ 140737488355328) (hbase : base ≤ w.heap.size)
    (hK : ∀ v' w', w'.ownsRow base e size v' (n + m) (xs ++ news) → Ch w w' (fun k => v.ownBlock = some k) → (∀ k, v'.ownBlock = some k → v.ownBlock = some k ∨ w.heap.size ≤ k) → K (a.put o.dst v') w') :
    if Region.wanted o (yielded ops a.tmps) = true then Oper.wp P o a w K Q else E := by
  obtain ⟨i0, hi, hz0, hz1, hz2⟩ := info_parts R.info
  have hw : Region.wanted o (yielded ops a.tmps) = true := by simp [Region.wanted, hg]
  cases ao with
  | none =>
    obtain ⟨rfl, rfl⟩ := hsrc.hnone rfl
    have hnews : news = [] := List.eq_nil_of_length_eq_zero (by simpa using hsrc.hl)
    subst hnews
    rw [if_pos hw]
    have hrun := run_append_owned_none (P := P) w base t o.type e i0 size R.ht hi v n xs hown
    unfold Oper.wp
    simp [execOp, hop, resolve, invoke, builtin, hs, hx, hrun, Result.andThen]
    exact hK v w (by simpa using hown) (Ch.refl _ _) (fun k h => .inl h)
  | some ad =>
    by_cases hm : 0 < m
    · exact step_app R hg s x hop hown hsrc hs hx hm h63 hbytes hbase (fun v' w' h1 st => hK v' w' h1 (Ch.step st) st.block)
    · obtain rfl : m = 0 := by omega
      rw [if_pos hw]
      rcases own_nil_or hown with ⟨rfl, rfl⟩ | ⟨g, cap, rfl, hle, _⟩
      · obtain ⟨v', w', hrun, r1, r2, hiff⟩ := run_append_own (P := P) w base t o.type e i0 z size by' R.ht hi hz0 hz1 hz2 R.hzs R.hsz _ 0 xs hown ad 0 c news hsrc.hl (hsrc.hc ad rfl) hsrc.h1 (by omega) hbytes hbase
        unfold Oper.wp
        simp [execOp, hop, resolve, invoke, builtin, hs, hx, hrun, Result.andThen]
        exact hK v' w' r1 (Ch.grown r2) (fun k hk => by rw [hiff.2 ⟨rfl, rfl⟩] at hk; simp [Value.ownBlock] at hk)
      · obtain ⟨w', hrun, r1, r2⟩ := run_append_fits (P := P) w base t o.type e i0 size R.ht hi hz1 g n cap xs hown ad 0 c news hsrc.hl (hsrc.hc ad rfl) hsrc.h1 (by omega)
        unfold Oper.wp
        simp [execOp, hop, resolve, invoke, builtin, hs, hx, hrun, Result.andThen]
        exact hK _ w' r1 (Ch.grown r2) (fun k hk => .inl (by simpa [Value.ownBlock] using hk))
end
end Go.Proofs.YtpoilaappcjbeaaGreatDoor
end

section
namespace Go.Proofs.YtpoilaappcjbeaaGreatDoor
open Go.RowKit

namespace Bc
theorem bs_tail {w : World} {av : Option Addr} {n cv s : Nat} {all : List UInt8} (h : Bs w av n cv all) (hs : s ≤ n) (ao : Option Addr) (hao : ao = if cv = s then av else Option.map (fun x => x.add s) av) : Bs w ao (n - s) (cv - s) (all.drop s) := by
  have h1 := h.hlen
  have h2 := h.hle
  have h3 := h.hcap
  have h4 := h.hmax
  by_cases hn : n = s
  · refine ⟨by rw [List.length_drop]; omega, by omega, by omega, by omega, fun e => ?_, fun i hi => by omega⟩
    by_cases hc : cv = s
    · omega
    · rw [if_neg hc] at hao
      rw [hao] at e
      have := h.hnil (by simpa using e)
      omega
  · obtain ⟨b, off, rfl, _, _⟩ := h.at' 0 (by omega)
    refine h.drop s hs ao (fun hc => ?_)
    rw [hao, if_neg hc]
    show some ((⟨b, off, none⟩ : Addr).add s) = _
    rw [Addr.add_mid]
def TextPost (w : World) (l : List UInt8) (ts : List Tok) (e : Ending) (w' : World) : Prop :=
  Below w.heap.size w w' ∧ (e = .returned (.tuple #[.slice none 0 0, .bool false]) ∨
    ∃ all xa xc, l.length ≤ 1000 ∧ ts.length ≤ 300 ∧ Tk.upto 20000 (lits l ++ ts) (lits l ++ ts).length = (0, all) ∧ l.length ≤ all.length ∧ e = .returned (.tuple #[.slice xa (all.length - l.length) xc, .bool true]) ∧ Bs w' xa (all.length - l.length) xc (all.drop l.length))
set_option maxRecDepth 100000 in
set_option maxHeartbeats 1000000 in
theorem text_any (a : Option Addr) (cap : Nat) (l : List UInt8) (b : Option Addr) (cap2 : Nat) (ts : List Tok) (kind : Int) (last : Bool) (w : World) (h : Bs w a l.length cap l) (h2 : Ts2 w b ts.length cap2 ts) :
    Calls Tryz.prog 8 #[.agg #[.slice a l.length cap, .slice b ts.length cap2, .int .i64 kind, .bool last]] w (TextPost w l ts) := by
  have hal := below_alloc w (.cells #[.slice a l.length cap, .slice b ts.length cap2, .int .i64 kind, .bool last] 25)
  have hrow := heap_alloc_last w (.cells #[.slice a l.length cap, .slice b ts.length cap2, .int .i64 kind, .bool last] 25)
  have c0 := cell_of_row _ _ 0 _ _ (0, 0) hrow
  have c1 := cell_of_row _ _ 1 _ _ (0, 0) hrow
  simp only [List.getElem?_toArray, List.getElem?_cons_zero, List.getElem?_cons_succ] at c0 c1
  have HAL := Lib.hid hal
  have HQ : Hid (w.heap.size < (w.alloc (.cells #[.slice a l.length cap, .slice b ts.length cap2, .int .i64 kind, .bool last] 25)).heap.size) := Lib.hid (by simp)
  by_cases hb1 : 1000 < l.length
  · have d1 : decide ((1000 : Int) < (l.length : Int)) = true := decide_eq_true (by omega)
    clear hrow hal
    go_enter Tryz.func8, Tryz.ntmps8
    go_wp2
    go_ret2
    exact ⟨HAL.out, .inl rfl⟩
  have d1 : decide ((1000 : Int) < (l.length : Int)) = false := decide_eq_false (by omega)
  by_cases hb2 : 300 < ts.length
  · have d2 : decide ((300 : Int) < (ts.length : Int)) = true := decide_eq_true (by omega)
    clear hrow hal
    go_enter Tryz.func8, Tryz.ntmps8
    go_wp2
    go_ret2
    exact ⟨HAL.out, .inl rfl⟩
  have d2 : decide ((300 : Int) < (ts.length : Int)) = false := decide_eq_false (by omega)
  have HLI := Lib.hid (lits_any a cap l _ (h.mono (below_then hal (Below.drew (Below.refl _ _)))) (by omega))
  have HTS := Lib.hid (fun w' (hb : Below w.heap.size w w') => h2.mono hb)
  have HBB := Lib.hid (And.intro hb1 hb2)
  have HWF : Hid (∀ i, i < l.length + ts.length → (Lit.int .i64 ((lits l ++ ts).getD i (0, 0)).1).wf = true ∧ (Lit.int .i64 ((lits l ++ ts).getD i (0, 0)).2).wf = true) := Lib.hid (fun i hi => by
    by_cases hl : i < l.length
    · have e : (lits l ++ ts).getD i (0, 0) = (0, ((gb l i : Nat) : Int)) := by
        rw [← lits_get l i hl, List.getD, List.getD, List.getElem?_append_left (by rw [lits_length]; exact hl)]
      have := gb_lt l i
      rw [e]
      exact ⟨(by decide : (Lit.int .i64 0).wf = true), by simp only [Lit.wf, IntKind.min, IntKind.max, IntKind.signed, IntKind.bits, Bool.and_eq_true, decide_eq_true_eq, if_true]; simp; omega⟩
    · have e : (lits l ++ ts).getD i (0, 0) = ts.getD (i - l.length) (0, 0) := by
        rw [List.getD, List.getD, List.getElem?_append_right (by rw [lits_length]; omega), lits_length]
      rw [e]
      exact h2.wf (i - l.length) (by omega))
  clear hrow h h2
  go_enter Tryz.func8, Tryz.ntmps8
  go_wp2_with fail
  clear d1 d2
  have HBD : Hid (Below w.heap.size w (w.alloc (.cells #[.slice a l.length cap, .slice b ts.length cap2, .int .i64 kind, .bool last] 25)).drew) := Lib.hid (Below.drew HAL.out)
  revert HLI c0 c1 HQ HAL HBD
  generalize w.alloc (.cells #[.slice a l.length cap, .slice b ts.length cap2, .int .i64 kind, .bool last] 25) = w1
  clear hal
  intro c0 c1 HAL HQ HLI HBD
  go_region_held3 (fun w' => w'.cell? ⟨w.heap.size, 0, none⟩ = some (.slice a l.length cap) ∧ w'.cell? ⟨w.heap.size, 1, none⟩ = some (.slice b ts.length cap2)) (first | (with_reducible exact ⟨c0, c1⟩) | (with_reducible exact ⟨s0, s1⟩) | (with_reducible exact ⟨t0, t1⟩) | (with_reducible exact ⟨r0, r1⟩) | go_keep)
    (first
      | (go_at_call 11; (with_reducible refine HLI.out.mono ?_); rintro e w2 ⟨vl, rfl, own2, hb4⟩; have HO2 := Lib.hid (own_base (base' := w.heap.size) own2 (fun g hg => Nat.le_trans HBD.out.size (own2.lt g hg).1)); have HV2 := Lib.hid (fun g (hg : vl.ownBlock = some g) => (own2.lt g hg).1); have HQ2 : Hid (w.heap.size < w2.heap.size) := Lib.hid (Nat.lt_of_lt_of_le HQ.out hb4.size); have HB2 := Lib.hid (below_then HBD.out hb4); have hq1 : w.heap.size < w1.drew.heap.size := HQ.out; have s0 := (hb4.cell (p := ⟨w.heap.size, 0, none⟩) hq1).trans c0; have s1 := (hb4.cell (p := ⟨w.heap.size, 1, none⟩) hq1).trans c1; clear own2 hb4)
      | (refine step_app3 tyT rfl _ _ rfl HO2.out (HTS.out _ HB2.out).src rfl rfl (by omega) (by omega) HB2.out.size ?_; intro v3 w3 own3 ch3 fr3; rw [← tks_append] at own3; obtain ⟨a3, cap3, rfl, hts3⟩ := own_ts2 own3 HWF.out; have HEX := Lib.hid (refExpand_any a3 _ cap3 _ 20000 w3 hts3 (by omega)); have hbk := ch3.block w.heap.size HQ2.out (fun e => by have h1 := HV2.out _ e; have h3 := HQ.out; have h4 : w1.drew.heap.size = w1.heap.size := rfl; omega); have t0 := (World.cell?_of_block (a := ⟨w.heap.size, 0, none⟩) hbk).trans s0; have t1 := (World.cell?_of_block (a := ⟨w.heap.size, 1, none⟩) hbk).trans s1; have HB3 := Lib.hid (HB2.out.trans (ch3.below HB2.out.size (fun j e => Nat.le_trans HBD.out.size (HV2.out _ e)))); have HQ3 := Lib.hid (Nat.lt_of_lt_of_le HQ2.out ch3.size); clear own3 ch3 fr3 hts3 hbk)
      | (go_at_call 31; (with_reducible refine HEX.out.mono ?_); rintro e w4 ⟨hb5, v4, rfl, own4⟩; have HO4 := Lib.hid own4; have HB4 := Lib.hid (below_then HB3.out hb5); have r0 := (hb5.cell (p := ⟨w.heap.size, 0, none⟩) HQ3.out).trans t0; have r1 := (hb5.cell (p := ⟨w.heap.size, 1, none⟩) HQ3.out).trans t1; clear own4 hb5))
  have HE : Hid (Tk.exp 20000 (lits l ++ ts) = Tk.upto 20000 (lits l ++ ts) (lits l ++ ts).length) := Lib.hid (by unfold Tk.exp; rw [if_pos (by omega)]; rfl)
  clear HEX HB2 HB3 HO2 HV2 HQ2 HQ3 HLI s0 s1 t0 t1 c1 r1 c0 HTS HWF
  generalize hr : Tk.exp 20000 (lits l ++ ts) = r at *
  obtain ⟨c, all⟩ := r
  simp only at HO4 ⊢
  have HR := Lib.hid hr
  clear hr
  by_cases hc : c = 0
  · subst hc
    have hfit := exp_fit 20000 l all ts (by rw [← HE.out]) (by omega)
    have hup := HE.out.symm
    have HUP := Lib.hid hup
    have h3 := hfit.2.2
    have h4 := hfit.2.1
    obtain ⟨av, cv, rfl, hbs⟩ := own_bs HO4.out (by omega)
    have HBS := Lib.hid hbs
    have hcv := hbs.hle
    clear HE HR HO4 hup hfit hbs
    by_cases hq : cv = l.length
    · have HT := Lib.hid (bs_tail HBS.out h3 av (by rw [if_pos hq]))
      rw [show cv - l.length = 0 by omega] at HT
      clear HBS
      go_wp2
      go_ret2
      exact ⟨HB4.out, .inr ⟨all, _, _, by omega, by omega, HUP.out, h3, rfl, HT.out⟩⟩
    · have HT := Lib.hid (bs_tail HBS.out h3 _ (if_neg hq).symm)
      clear HBS
      go_wp2
      go_ret2
      exact ⟨HB4.out, .inr ⟨all, _, _, by omega, by omega, HUP.out, h3, rfl, HT.out⟩⟩
  · have d0 : (c == 0) = false := by simpa using hc
    clear HE HR
    go_wp2
    go_ret2
    exact ⟨HB4.out, .inl rfl⟩
end Bc
end Go.Proofs.YtpoilaappcjbeaaGreatDoor
end

section
namespace Go.Proofs.YtpoilaappcjbeaaGreatDoor

namespace Mg
abbrev Itm := Int × Bool
def go (r : Int) (f : List Int → List Itm) : List Int → List Itm
  | [] => (r, true) :: f []
  | p :: P => if r ≤ p then (r, true) :: f (p :: P) else (p, false) :: go r f P
/-- Symbols and packages, merged; a symbol comes first. -/
def mrg : List Int → List Int → List Itm
  | [] => fun P => P.map fun p => (p, false)
  | r :: R => go r (mrg R)
theorem mrg_nil (P : List Int) : mrg [] P = P.map fun p => (p, false) := rfl
theorem mrg_cons_nil (r : Int) (R : List Int) : mrg (r :: R) [] = (r, true) :: mrg R [] := rfl
theorem mrg_cons (r : Int) (R : List Int) (p : Int) (P : List Int) : mrg (r :: R) (p :: P) = if r ≤ p then (r, true) :: mrg R (p :: P) else (p, false) :: mrg (r :: R) P := rfl
theorem mrg_end (R : List Int) : mrg R [] = R.map fun x => (x, true) := by
  induction R with
  | nil => rfl
  | cons r R ih => rw [mrg_cons_nil, ih]; rfl
def wts (A : List Itm) : List Int := A.map Prod.fst
def pre (l : List Int) (t : Nat) : Int := (l.take t).sum
def syN (A : List Itm) (t : Nat) : Nat := ((A.take t).filter Prod.snd).length
theorem pre_zero (l : List Int) : pre l 0 = 0 := by simp [pre]
theorem pre_nil (t : Nat) : pre [] t = 0 := by simp [pre]
theorem pre_cons (x : Int) (l : List Int) (t : Nat) : pre (x :: l) (t + 1) = x + pre l t := by simp [pre]
theorem pre_succ (l : List Int) (t : Nat) (h : t < l.length) : pre l (t + 1) = pre l t + l[t] := by
  unfold pre; rw [List.take_succ_eq_append_getElem h, List.sum_append]; simp
theorem syN_zero (A : List Itm) : syN A 0 = 0 := by simp [syN]
theorem syN_nil (t : Nat) : syN [] t = 0 := by simp [syN]
theorem syN_sym (x : Int) (A : List Itm) (t : Nat) : syN ((x, true) :: A) (t + 1) = syN A t + 1 := by simp [syN]
theorem syN_pkg (x : Int) (A : List Itm) (t : Nat) : syN ((x, false) :: A) (t + 1) = syN A t := by simp [syN]
theorem wts_cons (x : Itm) (A : List Itm) : wts (x :: A) = x.1 :: wts A := rfl
theorem wts_length (A : List Itm) : (wts A).length = A.length := by simp [wts]
theorem syN_le (A : List Itm) (t : Nat) : syN A t ≤ t := by
  unfold syN
  refine Nat.le_trans (List.length_filter_le _ _) ?_
  rw [List.length_take]; omega
theorem wts_pkgs (P : List Int) : wts (P.map fun p => (p, false)) = P := by simp [wts, Function.comp_def]
theorem syN_pkgs (P : List Int) (t : Nat) : syN (P.map fun p => (p, false)) t = 0 := by simp [syN, ← List.map_take, List.filter_map, Function.comp_def]
theorem wts_syms (P : List Int) : wts (P.map fun p => (p, true)) = P := by simp [wts, Function.comp_def]
theorem syN_syms (P : List Int) (t : Nat) : syN (P.map fun p => (p, true)) t = min t P.length := by
  unfold syN
  have e : List.filter (Prod.snd ∘ fun (p : Int) => (p, true)) (List.take t P) = List.take t P := List.filter_eq_self.2 (fun _ _ => rfl)
  rw [← List.map_take, List.filter_map, List.length_map, e, List.length_take]
theorem mrg_length (R P : List Int) : (mrg R P).length = R.length + P.length := by
  induction R generalizing P with
  | nil => simp [mrg_nil]
  | cons r R ih =>
    induction P with
    | nil => rw [mrg_cons_nil, List.length_cons, ih]; simp
    | cons p P ihp =>
      rw [mrg_cons]
      split
      · rw [List.length_cons, ih]; simp only [List.length_cons]; omega
      · rw [List.length_cons, ihp]; simp only [List.length_cons]; omega
theorem mrg_mem (R P : List Int) (x : Int) : x ∈ wts (mrg R P) ↔ x ∈ R ∨ x ∈ P := by
  induction R generalizing P with
  | nil => rw [mrg_nil, wts_pkgs]; simp
  | cons r R ih =>
    induction P with
    | nil => rw [mrg_cons_nil, wts_cons, List.mem_cons, ih]; simp
    | cons p P ihp =>
      rw [mrg_cons]
      split
      · rw [wts_cons, List.mem_cons, ih]; simp only [List.mem_cons]; exact ⟨fun h => by rcases h with h | h | h | h <;> simp [h], fun h => by rcases h with (h | h) | h | h <;> simp [h]⟩
      · rw [wts_cons, List.mem_cons, ihp]; simp only [List.mem_cons]; exact ⟨fun h => by rcases h with h | (h | h) | h <;> simp [h], fun h => by rcases h with (h | h) | h | h <;> simp [h]⟩
def Up (l : List Int) : Prop := l.Pairwise (· ≤ ·)
theorem mrg_up (R P : List Int) (hR : Up R) (hP : Up P) : Up (wts (mrg R P)) := by
  unfold Up at *
  induction R generalizing P with
  | nil => rw [mrg_nil, wts_pkgs]; exact hP
  | cons r R ih =>
    have hR1 := List.pairwise_cons.1 hR
    induction P with
    | nil =>
      rw [mrg_cons_nil, wts_cons, List.pairwise_cons]
      exact ⟨fun x hx => by rcases (mrg_mem R [] x).1 hx with h | h; exact hR1.1 x h; simp at h, ih _ hR1.2 List.Pairwise.nil⟩
    | cons p P ihp =>
      have hP1 := List.pairwise_cons.1 hP
      rw [mrg_cons]
      split
      · rename_i hle
        rw [wts_cons, List.pairwise_cons]
        refine ⟨fun x hx => ?_, ih _ hR1.2 hP⟩
        rcases (mrg_mem R _ x).1 hx with h | h
        · exact hR1.1 x h
        · rcases List.mem_cons.1 h with rfl | h
          · exact hle
          · exact Int.le_trans hle (hP1.1 x h)
      · rename_i hle
        rw [wts_cons, List.pairwise_cons]
        refine ⟨fun x hx => ?_, ihp hP1.2⟩
        rcases (mrg_mem _ P x).1 hx with h | h
        · rcases List.mem_cons.1 h with rfl | h
          · show p ≤ x; omega
          · have := hR1.1 x h; show p ≤ x; omega
        · exact hP1.1 x h
/-- What stands ahead: so many symbols, so many packages. -/
theorem mrg_split : ∀ (t : Nat) (R P : List Int), t ≤ R.length + P.length → ∃ c d, c + d = t ∧ syN (mrg R P) t = c ∧ c ≤ R.length ∧ d ≤ P.length ∧ pre (wts (mrg R P)) t = pre R c + pre P d
  | 0, R, P, _ => ⟨0, 0, rfl, syN_zero _, Nat.zero_le _, Nat.zero_le _, by simp [pre_zero]⟩
  | t + 1, [], P, h => ⟨0, t + 1, by omega, by rw [mrg_nil, syN_pkgs], Nat.le_refl _, by simpa using h, by rw [mrg_nil, wts_pkgs, pre_nil]; simp⟩
  | t + 1, r :: R, [], h => by
    obtain ⟨c, d, h1, h2, h3, h4, h5⟩ := mrg_split t R [] (by simp at h ⊢; omega)
    exact ⟨c + 1, d, by omega, by rw [mrg_cons_nil, syN_sym, h2], by simp; omega, h4, by rw [mrg_cons_nil, wts_cons, pre_cons, pre_cons, h5, Int.add_assoc]⟩
  | t + 1, r :: R, p :: P, h => by
    rw [mrg_cons]
    split
    · obtain ⟨c, d, h1, h2, h3, h4, h5⟩ := mrg_split t R (p :: P) (by simp at h ⊢; omega)
      exact ⟨c + 1, d, by omega, by rw [syN_sym, h2], by simp; omega, h4, by rw [wts_cons, pre_cons, pre_cons, h5, Int.add_assoc]⟩
    · obtain ⟨c, d, h1, h2, h3, h4, h5⟩ := mrg_split t (r :: R) P (by simp at h ⊢; omega)
      exact ⟨c, d + 1, by omega, by rw [syN_pkg, h2], h3, by simp; omega, by rw [wts_cons, pre_cons, pre_cons, h5]; show p + _ = _; omega⟩
theorem up_head_le {x : Int} {l : List Int} (h : Up (x :: l)) (i : Nat) (hi : i < (x :: l).length) : x ≤ (x :: l)[i] := by
  cases i with
  | zero => exact Int.le_refl _
  | succ i => exact (List.pairwise_cons.1 h).1 _ (List.getElem_mem _)
/-- Nothing of as many weighs less. -/
theorem mrg_min : ∀ (t : Nat) (R P : List Int) (a b : Nat), Up R → Up P → a + b = t → a ≤ R.length → b ≤ P.length → pre (wts (mrg R P)) t ≤ pre R a + pre P b
  | 0, R, P, a, b, _, _, h, _, _ => by
    obtain ⟨rfl, rfl⟩ : a = 0 ∧ b = 0 := by omega
    simp [pre_zero]
  | t + 1, [], P, a, b, _, _, h, ha, hb => by
    obtain rfl : a = 0 := by simpa using ha
    obtain rfl : b = t + 1 := by omega
    rw [mrg_nil, wts_pkgs, pre_nil, Int.zero_add]; exact Int.le_refl _
  | t + 1, r :: R, [], a, b, hR, hP, h, ha, hb => by
    obtain rfl : b = 0 := by simpa using hb
    obtain rfl : a = t + 1 := by omega
    rw [mrg_cons_nil, wts_cons, pre_cons, pre_cons]
    have := mrg_min t R [] t 0 (List.pairwise_cons.1 hR).2 hP rfl (by simpa using ha) (Nat.le_refl _)
    show r + _ ≤ _
    omega
  | t + 1, r :: R, p :: P, a, b, hR, hP, h, ha, hb => by
    rw [mrg_cons]
    split
    · rename_i hle
      rw [wts_cons, pre_cons]
      show r + _ ≤ _
      cases a with
      | succ a =>
        have := mrg_min t R (p :: P) a b (List.pairwise_cons.1 hR).2 hP (by omega) (by simpa using ha) hb
        rw [pre_cons]; omega
      | zero =>
        obtain rfl : b = t + 1 := by omega
        have := mrg_min t R (p :: P) 0 t (List.pairwise_cons.1 hR).2 hP (by omega) (Nat.zero_le _) (by omega)
        have h2 := up_head_le hP t hb
        rw [pre_succ (p :: P) t hb, pre_zero]; rw [pre_zero] at this; omega
    · rename_i hle
      rw [wts_cons, pre_cons]
      show p + _ ≤ _
      cases b with
      | succ b =>
        have := mrg_min t (r :: R) P a b hR (List.pairwise_cons.1 hP).2 (by omega) ha (by simpa using hb)
        rw [pre_cons]; omega
      | zero =>
        obtain rfl : a = t + 1 := by omega
        have := mrg_min t (r :: R) P t 0 hR (List.pairwise_cons.1 hP).2 (by omega) (by omega) (Nat.zero_le _)
        have h2 := up_head_le hR t ha
        rw [pre_succ (r :: R) t ha, pre_zero]; rw [pre_zero] at this; omega
/-- Ahead of a package stand all symbols that weigh no more. -/
theorem mrg_ahead : ∀ (t : Nat) (R P : List Int) (c d : Nat) (w : Int), (∀ x ∈ R.take c, x ≤ w) → c ≤ R.length → P[d]? = some w → d + 1 + syN (mrg R P) t ≤ t → c ≤ syN (mrg R P) t
  | 0, R, P, c, d, w, _, _, _, h => by omega
  | t + 1, [], P, c, d, w, _, hc, _, _ => by simp at hc; omega
  | t + 1, r :: R, [], c, d, w, _, _, hd, _ => by simp at hd
  | t + 1, r :: R, p :: P, c, d, w, hw, hc, hd, h => by
    rw [mrg_cons] at h ⊢
    split at h
    · rename_i hle
      rw [if_pos hle]
      rw [syN_sym] at h ⊢
      cases c with
      | zero => omega
      | succ c =>
        have := mrg_ahead t R (p :: P) c d w (fun x hx => hw x (by rw [List.take_succ_cons]; exact List.mem_cons_of_mem _ hx)) (by simpa using hc) hd (by omega)
        omega
    · rename_i hle
      rw [if_neg hle]
      rw [syN_pkg] at h ⊢
      cases d with
      | zero =>
        cases c with
        | zero => omega
        | succ c =>
          have h1 := hw r (by rw [List.take_succ_cons]; exact List.mem_cons_self)
          simp at hd
          omega
      | succ d =>
        exact mrg_ahead t (r :: R) P c d w hw hc (by simpa using hd) (by omega)
def pairs : List Int → List Int
  | x :: y :: l => (x + y) :: pairs l
  | _ => []
theorem pairs_length : ∀ l : List Int, (pairs l).length = l.length / 2
  | [] => rfl
  | [_] => by simp [pairs]
  | x :: y :: l => by simp only [pairs, List.length_cons]; rw [pairs_length l]; omega
theorem pairs_pre : ∀ (l : List Int) (d : Nat), d ≤ l.length / 2 → pre (pairs l) d = pre l (2 * d)
  | [], d, h => by simp [pairs, pre_nil]
  | [_], d, h => by obtain rfl : d = 0 := by simpa using h
                    simp [pre_zero]
  | x :: y :: l, 0, _ => by simp [pre_zero]
  | x :: y :: l, d + 1, h => by
    have := pairs_pre l d (by simp at h; omega)
    rw [pairs, pre_cons, this, show 2 * (d + 1) = 2 * d + 1 + 1 by omega, pre_cons, pre_cons]; omega
theorem pairs_get : ∀ (l : List Int) (d : Nat) (h : 2 * d + 1 < l.length), (pairs l)[d]? = some (l[2 * d] + l[2 * d + 1])
  | [], d, h => by simp at h
  | [_], d, h => by simp at h
  | x :: y :: l, 0, _ => by simp [pairs]
  | x :: y :: l, d + 1, h => by
    have := pairs_get l d (by simp at h; omega)
    rw [pairs, List.getElem?_cons_succ, this]
    simp [show 2 * (d + 1) = 2 * d + 1 + 1 by omega]
theorem pairs_mem_ge : ∀ (l : List Int) (b : Int), (∀ x ∈ l, b ≤ x) → 0 ≤ b → ∀ z ∈ pairs l, b + b ≤ z
  | [], b, _, _ => by simp [pairs]
  | [_], b, _, _ => by simp [pairs]
  | x :: y :: l, b, h, h0 => by
    intro z hz
    rw [pairs, List.mem_cons] at hz
    rcases hz with rfl | hz
    · have := h x (by simp); have := h y (by simp); omega
    · exact pairs_mem_ge l b (fun x hx => h x (by simp [hx])) h0 z hz
theorem pairs_up : ∀ (l : List Int), Up l → Up (pairs l)
  | [], _ => List.Pairwise.nil
  | [_], _ => List.Pairwise.nil
  | x :: y :: l, h => by
    have h1 := List.pairwise_cons.1 h
    have h2 := List.pairwise_cons.1 h1.2
    rw [pairs]
    refine List.pairwise_cons.2 ⟨fun z hz => ?_, pairs_up l h2.2⟩
    clear h
    have key : ∀ (l : List Int), (∀ u ∈ l, x ≤ u ∧ y ≤ u) → ∀ z ∈ pairs l, x + y ≤ z := by
      intro l
      induction l using pairs.induct with
      | case1 a b l ih =>
        intro hl z hz
        rw [pairs, List.mem_cons] at hz
        rcases hz with rfl | hz
        · have := hl a (by simp); have := hl b (by simp); omega
        · exact ih (fun u hu => hl u (by simp [hu])) z hz
      | case2 l hl => 
        intro _ z hz
        rw [pairs] at hz
        · simp at hz
        · exact hl
    exact key l (fun u hu => ⟨h1.1 u (by simp [hu]), h2.1 u hu⟩) z hz
/-- The rounds. -/
def rnd (R : List Int) : Nat → List Itm
  | 0 => []
  | r + 1 => mrg R (pairs (wts (rnd R r)))
/-- How many symbols are taken of each round, the last one first. -/
def back (R : List Int) : Nat → Nat → List Nat
  | 0, _ => []
  | r + 1, t => syN (rnd R (r + 1)) t :: back R r (2 * (t - syN (rnd R (r + 1)) t))
def T : List Nat → Nat
  | [] => 0
  | k :: ks => k + T ks / 2
def val (R : List Int) (ks : List Nat) : Int := (ks.map (pre R)).sum
def Pos (l : List Int) : Prop := ∀ x ∈ l, 0 ≤ x
theorem pre_mono {l : List Int} (h : Pos l) {s t : Nat} (hst : s ≤ t) : pre l s ≤ pre l t := by
  induction t with
  | zero => obtain rfl : s = 0 := by omega
            exact Int.le_refl _
  | succ t ih =>
    by_cases hs : s ≤ t
    · refine Int.le_trans (ih hs) ?_
      by_cases ht : t < l.length
      · rw [pre_succ l t ht]; have := h _ (List.getElem_mem ht); omega
      · unfold pre; rw [List.take_of_length_le (by omega), List.take_of_length_le (by omega)]; exact Int.le_refl _
    · obtain rfl : s = t + 1 := by omega
      exact Int.le_refl _
theorem rnd_pos {R : List Int} (h : Pos R) (r : Nat) : Pos (wts (rnd R r)) := by
  induction r with
  | zero => intro x hx; simp [rnd, wts] at hx
  | succ r ih =>
    intro x hx
    rcases (mrg_mem _ _ _).1 hx with hx | hx
    · exact h x hx
    · have := pairs_mem_ge _ 0 ih (Int.le_refl _) x hx; omega
theorem rnd_up {R : List Int} (h : Up R) (r : Nat) : Up (wts (rnd R r)) := by
  induction r with
  | zero => exact List.Pairwise.nil
  | succ r ih => exact mrg_up _ _ h (pairs_up _ ih)
theorem rnd_length (R : List Int) (r : Nat) : (rnd R (r + 1)).length = R.length + (rnd R r).length / 2 := by
  rw [rnd, mrg_length, pairs_length, wts_length]
/-- What is taken of a round. -/
theorem rnd_split (R : List Int) (r t : Nat) (ht : t ≤ (rnd R (r + 1)).length) :
    syN (rnd R (r + 1)) t ≤ R.length ∧ 2 * (t - syN (rnd R (r + 1)) t) ≤ (rnd R r).length ∧ pre (wts (rnd R (r + 1))) t = pre R (syN (rnd R (r + 1)) t) + pre (wts (rnd R r)) (2 * (t - syN (rnd R (r + 1)) t)) := by
  have hl : t ≤ R.length + (pairs (wts (rnd R r))).length := by rw [rnd, mrg_length] at ht; exact ht
  obtain ⟨c, d, h1, h2, h3, h4, h5⟩ := mrg_split t R (pairs (wts (rnd R r))) hl
  rw [pairs_length, wts_length] at h4
  rw [rnd, h2]
  refine ⟨h3, by omega, ?_⟩
  rw [h5, pairs_pre _ d (by rw [wts_length]; exact h4), show t - c = d by omega]
theorem back_val (R : List Int) : ∀ (r t : Nat), t ≤ (rnd R r).length → val R (back R r t) = pre (wts (rnd R r)) t
  | 0, t, h => by obtain rfl : t = 0 := by simpa [rnd] using h
                  simp [back, val, pre_zero]
  | r + 1, t, h => by
    obtain ⟨_, h2, h3⟩ := rnd_split R r t h
    have := back_val R r _ h2
    rw [h3, ← this, back]
    simp [val]
theorem back_T (R : List Int) : ∀ (r t : Nat), t ≤ (rnd R r).length → T (back R r t) = t
  | 0, t, h => by obtain rfl : t = 0 := by simpa [rnd] using h
                  rfl
  | r + 1, t, h => by
    obtain ⟨_, h2, _⟩ := rnd_split R r t h
    have := back_T R r _ h2
    have := syN_le (rnd R (r + 1)) t
    rw [back, T]; omega
theorem back_length (R : List Int) : ∀ (r t : Nat), (back R r t).length = r
  | 0, _ => rfl
  | r + 1, t => by rw [back, List.length_cons, back_length]
theorem back_le (R : List Int) : ∀ (r t : Nat), t ≤ (rnd R r).length → ∀ k ∈ back R r t, k ≤ R.length
  | 0, _, _ => by simp [back]
  | r + 1, t, h => by
    obtain ⟨h1, h2, _⟩ := rnd_split R r t h
    intro k hk
    rw [back, List.mem_cons] at hk
    rcases hk with rfl | hk
    · exact h1
    · exact back_le R r _ h2 k hk
/-- The symbols among what is taken of a round stand in the next one ahead of the last package. -/
theorem rnd_nest {R : List Int} (hU : Up R) (hP : Pos R) (r t d : Nat) (hd : 0 < d) (hdl : 2 * d ≤ (rnd R r).length) (h : d + syN (rnd R (r + 1)) t ≤ t) : syN (rnd R r) (2 * d) ≤ syN (rnd R (r + 1)) t := by
  cases r with
  | zero => simp [rnd] at hdl; omega
  | succ r =>
    have hl : 2 * d ≤ R.length + (pairs (wts (rnd R r))).length := by rw [rnd, mrg_length] at hdl; exact hdl
    have hg : 2 * (d - 1) + 1 < (wts (rnd R (r + 1))).length := by rw [wts_length]; omega
    have hp := pairs_get (wts (rnd R (r + 1))) (d - 1) hg
    refine mrg_ahead t R _ _ (d - 1) _ (fun x hx => ?_) (rnd_split R r (2 * d) hdl).1 hp (by show d - 1 + 1 + syN (rnd R (r + 1 + 1)) t ≤ t; omega)
    -- a symbol that is taken weighs no more than the last item
    have hU2 := rnd_up hU (r + 1)
    have hm : ∀ (t : Nat) (R P : List Int), ∀ x ∈ R.take (syN (mrg R P) t), x ∈ (wts (mrg R P)).take t := by
      intro t
      induction t with
      | zero => intro R P x hx; rw [syN_zero] at hx; simp at hx
      | succ t ih =>
        intro R P x hx
        match R, P with
        | [], P => simp at hx
        | r :: R, [] =>
          rw [mrg_cons_nil, syN_sym, List.take_succ_cons, List.mem_cons] at hx
          rw [mrg_cons_nil, wts_cons, List.take_succ_cons, List.mem_cons]
          exact hx.elim (fun h => .inl h) (fun h => .inr (ih R [] x h))
        | r :: R, p :: P =>
          rw [mrg_cons] at hx ⊢
          split at hx
          · rename_i hle
            rw [if_pos hle, wts_cons, List.take_succ_cons, List.mem_cons]
            rw [syN_sym, List.take_succ_cons, List.mem_cons] at hx
            exact hx.elim (fun h => .inl h) (fun h => .inr (ih R (p :: P) x h))
          · rename_i hle
            rw [if_neg hle, wts_cons, List.take_succ_cons, List.mem_cons]
            rw [syN_pkg] at hx
            exact .inr (ih (r :: R) P x hx)
    have hx2 := hm (2 * d) R _ x hx
    change x ∈ (wts (rnd R (r + 1))).take (2 * d) at hx2
    obtain ⟨i, hi, rfl⟩ := List.mem_iff_getElem.1 hx2
    rw [List.getElem_take]
    simp only [List.length_take] at hi
    have h0 : 0 ≤ (wts (rnd R (r + 1)))[2 * (d - 1)]'(by omega) := rnd_pos hP (r + 1) _ (List.getElem_mem _)
    have h1 : (wts (rnd R (r + 1)))[i]'(by omega) ≤ (wts (rnd R (r + 1)))[2 * (d - 1) + 1] := by
      by_cases he : i = 2 * (d - 1) + 1
      · subst he; exact Int.le_refl _
      · exact (List.pairwise_iff_getElem.1 hU2) i (2 * (d - 1) + 1) (by omega) hg (by omega)
    omega
theorem back_anti {R : List Int} (hU : Up R) (hP : Pos R) : ∀ (r t : Nat), t ≤ (rnd R r).length → (back R r t).Pairwise (fun a b => b ≤ a)
  | 0, _, _ => List.Pairwise.nil
  | r + 1, t, h => by
    obtain ⟨_, h2, _⟩ := rnd_split R r t h
    have ih := back_anti hU hP r _ h2
    rw [back]
    refine List.pairwise_cons.2 ⟨?_, ih⟩
    intro k hk
    cases r with
    | zero => simp [back] at hk
    | succ r =>
      by_cases hd : t - syN (rnd R (r + 1 + 1)) t = 0
      · -- nothing is taken further on
        have : ∀ (r : Nat), ∀ k ∈ back R r 0, k = 0 := by
          intro r
          induction r with
          | zero => simp [back]
          | succ r ih => intro k hk; rw [back, syN_zero, List.mem_cons] at hk; rcases hk with rfl | hk; rfl; exact ih k hk
        rw [hd] at hk
        have := this _ k hk
        omega
      · have hn := rnd_nest hU hP (r + 1) t (t - syN (rnd R (r + 1 + 1)) t) (by omega) h2 (by have := syN_le (rnd R (r + 1 + 1)) t; omega)
        rw [back, List.mem_cons] at hk
        rcases hk with rfl | hk
        · exact hn
        · rw [back] at ih
          exact Nat.le_trans ((List.pairwise_cons.1 ih).1 k hk) hn
/-- All symbols are taken of the last round. -/
theorem rnd_all {R : List Int} (hU : Up R) (hP : Pos R) (hn : 2 ≤ R.length) : ∀ (r : Nat), 2 * R.length - 2 ≤ (rnd R r).length → syN (rnd R r) (2 * R.length - 2) = R.length
  | 0, h => by simp [rnd] at h; omega
  | r + 1, h => by
    obtain ⟨h1, h2, _⟩ := rnd_split R r _ h
    have h3 := syN_le (rnd R (r + 1)) (2 * R.length - 2)
    by_cases hc : syN (rnd R (r + 1)) (2 * R.length - 2) < R.length
    · have h4 : 2 * R.length - 2 ≤ (rnd R r).length := by omega
      have h5 := rnd_all hU hP hn r h4
      have h6 := rnd_nest hU hP r (2 * R.length - 2) (R.length - 1) (by omega) (by omega) (by omega)
      rw [show 2 * (R.length - 1) = 2 * R.length - 2 by omega, h5] at h6
      omega
    · omega
/-- No choice costs less. -/
theorem back_opt {R : List Int} (hU : Up R) (hP : Pos R) : ∀ (ks : List Nat), (∀ k ∈ ks, k ≤ R.length) → T ks ≤ (rnd R ks.length).length ∧ pre (wts (rnd R ks.length)) (T ks) ≤ val R ks
  | [], _ => ⟨Nat.le_refl _, by simp [T, val, pre_zero]⟩
  | k :: ks, h => by
    obtain ⟨h1, h2⟩ := back_opt hU hP ks (fun x hx => h x (by simp [hx]))
    have hk := h k (by simp)
    refine ⟨?_, ?_⟩
    · rw [List.length_cons, rnd_length, T]; omega
    · have h3 := mrg_min (T (k :: ks)) R (pairs (wts (rnd R ks.length))) k (T ks / 2) hU (pairs_up _ (rnd_up hU _)) rfl hk (by rw [pairs_length, wts_length]; omega)
      rw [pairs_pre _ _ (by rw [wts_length]; omega)] at h3
      have h4 := pre_mono (rnd_pos hP ks.length) (show 2 * (T ks / 2) ≤ T ks by omega)
      have e : val R (k :: ks) = pre R k + val R ks := by simp [val]
      rw [List.length_cons, e]
      show pre (wts (mrg R _)) _ ≤ _
      omega
/-- There are items enough. -/
theorem rnd_enough (R : List Int) (hn : 1 ≤ R.length) (r : Nat) : ∃ e, (rnd R (r + 1)).length + e = 2 * R.length ∧ e ≤ (R.length + 2 ^ r - 1) / 2 ^ r := by
  induction r with
  | zero => exact ⟨R.length, by rw [rnd_length]; simp [rnd]; omega, by simp⟩
  | succ r ih =>
    obtain ⟨e, h1, h2⟩ := ih
    refine ⟨(e + 1) / 2, by rw [rnd_length]; omega, ?_⟩
    have hp : 0 < 2 ^ r := Nat.pow_pos (by omega)
    rw [Nat.pow_succ, ← Nat.div_div_eq_div_mul]
    have h3 : (R.length + 2 ^ r * 2 - 1) / 2 ^ r = (R.length + 2 ^ r - 1) / 2 ^ r + 1 := by
      rw [show R.length + 2 ^ r * 2 - 1 = (R.length + 2 ^ r - 1) + 2 ^ r by omega, Nat.add_div_right _ hp]
    rw [h3]
    omega
theorem rnd_room (R : List Int) (hn : 1 ≤ R.length) (r : Nat) (hr : 0 < r) (h : R.length ≤ 2 ^ r) : 2 * R.length - 2 ≤ (rnd R r).length := by
  obtain ⟨s, rfl⟩ : ∃ s, r = s + 1 := ⟨r - 1, by omega⟩
  obtain ⟨e, h1, h2⟩ := rnd_enough R hn s
  have hp : 0 < 2 ^ s := Nat.pow_pos (by omega)
  have h3 : (R.length + 2 ^ s - 1) / 2 ^ s ≤ 2 := by
    rw [Nat.pow_succ] at h
    have : (R.length + 2 ^ s - 1) / 2 ^ s < 3 := (Nat.div_lt_iff_lt_mul hp).2 (by omega)
    omega
  omega
end Mg
end Go.Proofs.YtpoilaappcjbeaaGreatDoor
end
