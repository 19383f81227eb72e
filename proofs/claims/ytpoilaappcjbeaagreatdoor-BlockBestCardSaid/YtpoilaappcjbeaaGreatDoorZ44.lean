/- burnishref10.Literals: its contract; and what literals ahead of tokens come to. burnishref10.Literals: its contract. What tokens come to behind a text is what they stand for. (burnishlaw10.Case).text: its contract. -/
import Derived.Test.YtpoilaappcjbeaaGreatDoorZ9
import Derived.Test.YtpoilaappcjbeaaGreatDoorZ10
import Derived.Test.YtpoilaappcjbeaaGreatDoorZ11
import Derived.Test.YtpoilaappcjbeaaGreatDoorZ43
import Derived.Deep.RegionHeld3
set_option linter.unusedSimpArgs false
set_option linter.unusedVariables false
section
namespace Go.Proofs.YtpoilaappcjbeaaGreatDoor
open Go.RowKit

namespace Bc
/-- Bytes as tokens. -/
def lits (l : List UInt8) : List Tok := l.map fun x => (0, ((x.toNat : Nat) : Int))
theorem lits_length (l : List UInt8) : (lits l).length = l.length := by unfold lits; rw [List.length_map]
theorem lits_get (l : List UInt8) (i : Nat) (h : i < l.length) : (lits l).getD i (0, 0) = (0, ((gb l i : Nat) : Int)) := by
  unfold lits gb
  simp [List.getD, List.getElem?_map, List.getElem?_eq_getElem h]
theorem lits_next (l : List UInt8) (k : Nat) (h : k < l.length) : lits (l.take (k + 1)) = lits (l.take k) ++ [(0, ((gb l k : Nat) : Int))] := by
  rw [List.take_succ_eq_append_getElem h]
  unfold lits gb
  rw [List.map_append]
  simp [List.getD, List.getElem?_eq_getElem h]
theorem isTok_lit (x : UInt8) : Tk.isTok (0, ((x.toNat : Nat) : Int)) = true := by
  have := x.toNat_lt
  simp only [Tk.isTok, if_true]
  exact decide_eq_true ⟨by omega, by omega⟩
/-- What the first tokens come to, by one list behind another. -/
theorem upto_lits (most : Nat) (l : List UInt8) (ts : List Tok) (hm : l.length ≤ most) : ∀ k, k ≤ l.length → Tk.upto most (lits l ++ ts) k = (0, l.take k)
  | 0, _ => rfl
  | k + 1, h => by
    rw [Tk.upto_next (upto_lits most l ts hm k (by omega))]
    have hk : k < l.length := by omega
    have e : (lits l ++ ts).getD k (0, 0) = (0, ((gb l k : Nat) : Int)) := by
      rw [← lits_get l k hk, List.getD, List.getD, List.getElem?_append_left (by rw [lits_length]; exact hk)]
    have eg : gb l k = (l[k]).toNat := by unfold gb; simp [List.getD, List.getElem?_eq_getElem hk]
    rw [e, eg]
    unfold Tk.stp
    rw [if_pos (isTok_lit _)]
    unfold Tk.add
    rw [if_neg (by simp), if_neg (by unfold Tk.size; simp; omega)]
    unfold Tk.put
    rw [if_pos rfl, List.take_succ_eq_append_getElem hk]
    simp
/-- What holds of what tokens come to behind a text. -/
theorem stp_inv {most : Nat} {l m : List UInt8} {t : Tok} (h : Tk.stp most l t = (0, m)) : Tk.isTok t = true ∧ (t.1 ≠ 0 → t.2 ≤ (l.length : Int)) ∧ l.length + Tk.size t ≤ most ∧ m = Tk.put l t := by
  unfold Tk.stp at h
  split at h
  · rename_i ht
    unfold Tk.add at h
    split at h
    · simp at h
    · rename_i h1
      split at h
      · simp at h
      · rename_i h2
        simp only [Prod.mk.injEq, true_and] at h
        refine ⟨ht, fun h0 => ?_, by omega, h.symm⟩
        by_cases e : t.2 ≤ (l.length : Int)
        · exact e
        · exact absurd ⟨h0, by omega⟩ h1
  · simp at h
theorem upto_pre {most : Nat} {ts : List Tok} : ∀ (n k : Nat) (m : List UInt8), n = k → Tk.upto most ts k = (0, m) → ∀ j, j ≤ k → ∃ l, Tk.upto most ts j = (0, l) ∧ l = m.take l.length
  | 0, k, m, hn, h, j, hj => by
    obtain rfl : j = k := by omega
    exact ⟨m, h, by rw [List.take_length]⟩
  | n + 1, k, m, hn, h, j, hj => by
    subst hn
    by_cases e : j = n + 1
    · subst e; exact ⟨m, h, by rw [List.take_length]⟩
    · rw [Tk.upto] at h
      split at h
      · rename_i h0
        obtain ⟨p, hp⟩ : ∃ p, Tk.upto most ts n = (0, p) := ⟨_, Prod.ext h0 rfl⟩
        rw [hp] at h
        obtain ⟨_, _, _, rfl⟩ := stp_inv h
        obtain ⟨l, e1, e2⟩ := upto_pre n n p rfl hp j (by omega)
        refine ⟨l, e1, ?_⟩
        have hle : l.length ≤ p.length := by rw [e2, List.length_take]; omega
        have hpre : ∃ q, Tk.put p (ts.getD n (0, 0)) = p ++ q := by
          unfold Tk.put
          split
          · exact ⟨_, rfl⟩
          · have : ∀ d c, ∃ q, Tk.cp d p c = p ++ q := fun d c => by
              induction c with
              | zero => exact ⟨[], by rw [List.append_nil]; rfl⟩
              | succ c ih =>
                obtain ⟨q, hq⟩ := ih
                exact ⟨q ++ [Tk.bk d (Tk.cp d p c)], by rw [← List.append_assoc, ← hq]; rfl⟩
            exact this _ _
        obtain ⟨q, hq⟩ := hpre
        rw [hq, List.take_append_of_le_length hle]
        exact e2
      · rename_i h0; rw [h] at h0; exact absurd rfl h0
end Bc
end Go.Proofs.YtpoilaappcjbeaaGreatDoor
end

section
namespace Go.Proofs.YtpoilaappcjbeaaGreatDoor
open Go.RowKit

namespace Bc
def LitsPost (w : World) (l : List UInt8) (e : Ending) (w' : World) : Prop := ∃ v, e = .returned v ∧ w'.ownsRow w.heap.size 59 2 v l.length (tks (lits l)) ∧ Below w.heap.size w w'
theorem gb_256 (l : List UInt8) (i : Nat) : gb l i < 256 := by unfold gb; exact UInt8.toNat_lt _
set_option maxRecDepth 100000 in
set_option maxHeartbeats 2000000 in
theorem lits_any (a : Option Addr) (cap : Nat) (l : List UInt8) (w : World) (h : Bs w a l.length cap l) (hl : l.length ≤ 1000000) :
    Calls Tryz.prog 11 #[.slice a l.length cap] w (LitsPost w l) := by
  have H := Lib.hid h
  clear h
  have HN := Lib.hid (lits_next l)
  have HE : Hid (lits (l.take l.length) = lits l) := Lib.hid (by rw [List.take_length])
  have H0 : Hid (w.ownsRow w.heap.size 59 2 (.slice none 0 0) 0 (tks (lits (l.take 0)))) := Lib.hid (World.ownsRow_nil _ _ _ _)
  generalize hn : l.length = n at *
  clear hn
  go_enter Tryz.func11, Tryz.ntmps11
  go_wp2_with fail
  go_loopw [3, 4] (fun ov iv wr => ∃ k : Nat, k ≤ n ∧ iv = .int .i64 k ∧ Hid (wr.ownsRow w.heap.size 59 2 ov k (tks (lits (l.take k)))) ∧ Hid (Below w.heap.size w wr)) (fun _ iv _ => n - (intOf iv).toNat)
  case atStart => exact ⟨0, by omega, rfl, H0, Lib.hid (Below.refl _ _)⟩
  case round =>
    obtain ⟨k, hk, rfl, HO, HB⟩ := hrel
    clear H0
    by_cases hlt : k < n
    · obtain ⟨b, off, rfl, _, c0⟩ := (H.out.mono HB.out).at' k hlt
      have hz := gb_256 l k
      have HX := Lib.hid (HN.out k (by have := H.out.hlen; omega))
      have hbz := HB.out.size
      generalize gb l k = z at *
      have hal := below_alloc wr (.cells #[.int .i64 0, .int .i64 (z : Nat)] 59)
      have HOA := Lib.hid (own_below HO.out hal)
      have hsrc := src_tok wr (((0 : Int), ((z : Nat) : Int)) : Tok)
      have hbase : w.heap.size ≤ (wr.alloc (.cells #[.int .i64 0, .int .i64 (z : Nat)] 59)).heap.size := by have := hal.size; omega
      have HBA := Lib.hid (below_then HB.out hal)
      clear hal HO
      go_wp2_with (at_builtin; refine wpl_append tyT rfl _ _ rfl HOA.out hsrc rfl rfl (by omega) (by omega) hbase ?_)
      intro v1 w1 own1 hg1 _
      have HOB : Hid (w1.ownsRow w.heap.size 59 2 v1 (k + 1) (tks (lits (l.take (k + 1))))) := Lib.hid (by rw [HX.out, tks_append]; exact own1)
      have HBB : Hid (Below w.heap.size w w1) := Lib.hid (HBA.out.grown hg1 hbase (fun k hk => (HOA.out.lt k hk).1))
      clear own1 hg1 HOA HBA hsrc c0 HX
      go_wp2
      go_roundw
      case rel => exact ⟨k + 1, by omega, by go_num, HOB, HBB⟩
      case measure => simp [intOf]; omega
    · obtain rfl : n = k := by omega
      have hz := H.out.hlen
      go_wp2
      go_ret
      refine ⟨_, rfl, ?_, HB.out⟩
      have := HO.out
      rw [show l.take n = l by rw [← hz, List.take_length]] at this
      rw [hz]
      exact this
end Bc
end Go.Proofs.YtpoilaappcjbeaaGreatDoor
end

section
namespace Go.Proofs.YtpoilaappcjbeaaGreatDoor
open Go.RowKit

namespace Bc
theorem gb_left (c q : List UInt8) (i : Nat) (h : i < c.length) : gb (c ++ q) i = gb c i := by
  unfold gb
  rw [List.getD, List.getD, List.getElem?_append_left h]
theorem cp_get (d : Nat) (m : List UInt8) (hd : 1 ≤ d ∧ d ≤ m.length) : ∀ n k, k < n → gb (Tk.cp d m n) (m.length + k) = gb (Tk.cp d m n) (m.length + k - d)
  | 0, k, h => by omega
  | n + 1, k, h => by
    have hl := Tk.cp_length d m n
    rw [Tk.cp]
    by_cases e : k = n
    · subst e
      rw [gb_left _ _ (m.length + k - d) (by omega)]
      have h1 : gb (Tk.cp d m k ++ [Tk.bk d (Tk.cp d m k)]) (m.length + k) = (Tk.bk d (Tk.cp d m k)).toNat := by
        unfold gb
        rw [List.getD, List.getElem?_append_right (by omega), hl, Nat.sub_self]
        rfl
      rw [h1]
      unfold Tk.bk gb
      rw [hl]
    · rw [gb_left _ _ (m.length + k) (by omega), gb_left _ _ (m.length + k - d) (by omega)]
      exact cp_get d m hd n k (by omega)
theorem gb_take (l : List UInt8) (n i : Nat) (h : i < n) : gb (l.take n) i = gb l i := by
  unfold gb
  rw [List.getD, List.getD, List.getElem?_take, if_pos h]
theorem gb_drop (l : List UInt8) (n i : Nat) : gb (l.drop n) i = gb l (n + i) := by
  unfold gb
  rw [List.getD, List.getD, List.getElem?_drop]
theorem put_ag (m all tx : List UInt8) (t : Tok) (b : Nat) (ht : Tk.isTok t = true) (hd : t.1 ≠ 0 → t.2 ≤ (m.length : Int)) (hb : b ≤ m.length) (hp : Tk.put m t = all.take (m.length + Tk.size t)) (hx : tx = all.drop b) : agB tx t (m.length - b) (Tk.size t) = true := by
  have hr := Tk.tok_range ht
  subst hx
  unfold agB
  by_cases h0 : t.1 = 0
  · rw [if_pos h0]
    apply decide_eq_true
    have hs : Tk.size t = 1 := by unfold Tk.size; rw [if_pos h0]
    rw [hs] at hp
    unfold Tk.put at hp
    rw [if_pos h0] at hp
    have h2 : gb (all.take (m.length + 1)) m.length = t.2.toNat := by
      rw [← hp]
      unfold gb
      rw [List.getD, List.getElem?_append_right (Nat.le_refl _), Nat.sub_self]
      simp only [List.getElem?_cons_zero, Option.getD_some, UInt8.toNat_ofNat']
      have := hr.2.2.2.2.1 h0
      omega
    rw [gb_take _ _ _ (by omega)] at h2
    rw [gb_drop, show b + (m.length - b) = m.length by omega, h2]
    omega
  · rw [if_neg h0]
    apply decide_eq_true
    intro k hk hdk
    have hd2 := hd h0
    have h1 := (hr.2.2.2.2.2 h0).2
    have hs : Tk.size t = t.1.toNat := by unfold Tk.size; rw [if_neg h0]
    rw [hs] at hp hk
    unfold Tk.put at hp
    rw [if_neg h0] at hp
    have hg := cp_get t.2.toNat m (by omega) t.1.toNat k hk
    rw [hp, gb_take _ _ _ (by omega), gb_take _ _ _ (by omega)] at hg
    rw [gb_drop, gb_drop, show b + (m.length - b + k) = m.length + k by omega, show b + (m.length - b + k - t.2.toNat) = m.length + k - t.2.toNat by omega]
    exact hg
theorem upto_fit (most : Nat) (bf all tx : List UInt8) (ts : List Tok) (hx : tx = all.drop bf.length) (hfin : Tk.upto most (lits bf ++ ts) (lits bf ++ ts).length = (0, all)) (hbm : bf.length ≤ most) :
    ∀ n k m, ts.length - k = n → k ≤ ts.length → Tk.upto most (lits bf ++ ts) (bf.length + k) = (0, m) → bf.length ≤ m.length → fit tx (ts.drop k) (m.length - bf.length) = true
  | 0, k, m, hn, hk, hu, hbl => by
    obtain rfl : k = ts.length := by omega
    have hl : (lits bf ++ ts).length = bf.length + ts.length := by rw [List.length_append, lits_length]
    rw [hl, hu] at hfin
    obtain rfl := (Prod.mk.inj hfin).2
    rw [List.drop_length]
    subst hx
    simp [fit]
  | n + 1, k, m, hn, hk, hu, hbl => by
    have hk2 : k < ts.length := by omega
    have hl : (lits bf ++ ts).length = bf.length + ts.length := by rw [List.length_append, lits_length]
    obtain ⟨p, e1, e2⟩ := upto_pre _ _ all rfl hfin (bf.length + k + 1) (by omega)
    have e3 := e1
    rw [Tk.upto_next hu] at e3
    have hget : (lits bf ++ ts).getD (bf.length + k) (0, 0) = ts.getD k (0, 0) := by
      rw [List.getD, List.getD, List.getElem?_append_right (by rw [lits_length]; omega), lits_length, Nat.add_sub_cancel_left]
    rw [hget] at e3
    obtain ⟨ht, hd, hs, rfl⟩ := stp_inv e3
    have hpl := Tk.put_length m (ts.getD k (0, 0))
    have ih := upto_fit most bf all tx ts hx hfin hbm n (k + 1) _ (by omega) (by omega) e1 (by rw [hpl]; omega)
    rw [List.drop_eq_getElem_cons hk2]
    have hgk : ts[k] = ts.getD k (0, 0) := by simp [List.getD, List.getElem?_eq_getElem hk2]
    rw [hgk]
    have hlen : m.length + Tk.size (ts.getD k (0, 0)) ≤ all.length := by
      have := congrArg List.length e2
      rw [List.length_take, hpl] at this
      omega
    rw [hpl] at e2 ih
    have hag := put_ag m all tx (ts.getD k (0, 0)) bf.length ht hd hbl e2 hx
    rw [show m.length + Tk.size (ts.getD k (0, 0)) - bf.length = m.length - bf.length + Tk.size (ts.getD k (0, 0)) by omega] at ih
    unfold fit
    rw [ht, hag, ih]
    have hxl : tx.length = all.length - bf.length := by rw [hx, List.length_drop]
    rw [decide_eq_true (by omega)]
    rfl
/-- Behind a text: what is there first is the text, and the rest is what the tokens stand for. -/
theorem exp_fit (most : Nat) (bf all : List UInt8) (ts : List Tok) (h : Tk.upto most (lits bf ++ ts) (lits bf ++ ts).length = (0, all)) (hbm : bf.length ≤ most) : fit (all.drop bf.length) ts 0 = true ∧ all.length ≤ most ∧ bf.length ≤ all.length := by
  have hb := upto_lits most bf ts hbm bf.length (Nat.le_refl _)
  rw [List.take_length] at hb
  have h1 := upto_fit most bf all _ ts rfl h hbm _ 0 bf rfl (Nat.zero_le _) hb (Nat.le_refl _)
  rw [Nat.sub_self, List.drop_zero] at h1
  refine ⟨h1, Tk.upto_le _ _ _ _ h, ?_⟩
  obtain ⟨p, e1, e2⟩ := upto_pre _ _ all rfl h bf.length (by rw [List.length_append, lits_length]; omega)
  rw [hb] at e1
  obtain rfl := (Prod.mk.inj e1).2
  have := congrArg List.length e2
  rw [List.length_take] at this
  omega
end Bc
end Go.Proofs.YtpoilaappcjbeaaGreatDoor
end

section
namespace Go.Proofs.YtpoilaappcjbeaaGreatDoor
open Go.RowKit

namespace Bc
theorem bs_tail {w : World} {av : Option Addr} {n cv s : Nat} {all : List UInt8} (h : Bs w av n cv all) (hs : s ≤ n) (ao : Option Addr) (hao : ao = if cv = s then av else Option.map (fun x => x.add s) av) : Bs w ao (n - s) (cv - s) (all.drop s) := by
  have h1 := h.hlen
  have h2 := h.hle
  have h3 := h.hcap
  have h4 := h.hmax
  by_cases hn : n = s
  · refine ⟨by rw [List.length_drop]; omega, by omega, by omega, by omega, fun e => ?_, fun i hi => by omega⟩
    by_cases hc : cv = s
    · omega
    · rw [if_neg hc] at hao
      rw [hao] at e
      have := h.hnil (by simpa using e)
      omega
  · obtain ⟨b, off, rfl, _, _⟩ := h.at' 0 (by omega)
    refine h.drop s hs ao (fun hc => ?_)
    rw [hao, if_neg hc]
    show some ((⟨b, off, none⟩ : Addr).add s) = _
    rw [Addr.add_mid]
def TextPost (w : World) (l : List UInt8) (ts : List Tok) (e : Ending) (w' : World) : Prop :=
  Below w.heap.size w w' ∧ (e = .returned (.tuple #[.slice none 0 0, .bool false]) ∨
    ∃ all xa xc, l.length ≤ 1000 ∧ ts.length ≤ 300 ∧ Tk.upto 20000 (lits l ++ ts) (lits l ++ ts).length = (0, all) ∧ l.length ≤ all.length ∧ e = .returned (.tuple #[.slice xa (all.length - l.length) xc, .bool true]) ∧ Bs w' xa (all.length - l.length) xc (all.drop l.length))
set_option maxRecDepth 100000 in
set_option maxHeartbeats 1000000 in
theorem text_any (a : Option Addr) (cap : Nat) (l : List UInt8) (b : Option Addr) (cap2 : Nat) (ts : List Tok) (kind : Int) (last : Bool) (w : World) (h : Bs w a l.length cap l) (h2 : Ts2 w b ts.length cap2 ts) :
    Calls Tryz.prog 8 #[.agg #[.slice a l.length cap, .slice b ts.length cap2, .int .i64 kind, .bool last]] w (TextPost w l ts) := by
  have hal := below_alloc w (.cells #[.slice a l.length cap, .slice b ts.length cap2, .int .i64 kind, .bool last] 25)
  have hrow := heap_alloc_last w (.cells #[.slice a l.length cap, .slice b ts.length cap2, .int .i64 kind, .bool last] 25)
  have c0 := cell_of_row _ _ 0 _ _ (0, 0) hrow
  have c1 := cell_of_row _ _ 1 _ _ (0, 0) hrow
  simp only [List.getElem?_toArray, List.getElem?_cons_zero, List.getElem?_cons_succ] at c0 c1
  have HAL := Lib.hid hal
  have HQ : Hid (w.heap.size < (w.alloc (.cells #[.slice a l.length cap, .slice b ts.length cap2, .int .i64 kind, .bool last] 25)).heap.size) := Lib.hid (by simp)
  by_cases hb1 : 1000 < l.length
  · have d1 : decide ((1000 : Int) < (l.length : Int)) = true := decide_eq_true (by omega)
    clear hrow hal
    go_enter Tryz.func8, Tryz.ntmps8
    go_wp2
    go_ret2
    exact ⟨HAL.out, .inl rfl⟩
  have d1 : decide ((1000 : Int) < (l.length : Int)) = false := decide_eq_false (by omega)
  by_cases hb2 : 300 < ts.length
  · have d2 : decide ((300 : Int) < (ts.length : Int)) = true := decide_eq_true (by omega)
    clear hrow hal
    go_enter Tryz.func8, Tryz.ntmps8
    go_wp2
    go_ret2
    exact ⟨HAL.out, .inl rfl⟩
  have d2 : decide ((300 : Int) < (ts.length : Int)) = false := decide_eq_false (by omega)
  have HLI := Lib.hid (lits_any a cap l _ (h.mono (below_then hal (Below.drew (Below.refl _ _)))) (by omega))
  have HTS := Lib.hid (fun w' (hb : Below w.heap.size w w') => h2.mono hb)
  have HBB := Lib.hid (And.intro hb1 hb2)
  have HWF : Hid (∀ i, i < l.length + ts.length → (Lit.int .i64 ((lits l ++ ts).getD i (0, 0)).1).wf = true ∧ (Lit.int .i64 ((lits l ++ ts).getD i (0, 0)).2).wf = true) := Lib.hid (fun i hi => by
    by_cases hl : i < l.length
    · have e : (lits l ++ ts).getD i (0, 0) = (0, ((gb l i : Nat) : Int)) := by
        rw [← lits_get l i hl, List.getD, List.getD, List.getElem?_append_left (by rw [lits_length]; exact hl)]
      have := gb_lt l i
      rw [e]
      exact ⟨(by decide : (Lit.int .i64 0).wf = true), by simp only [Lit.wf, IntKind.min, IntKind.max, IntKind.signed, IntKind.bits, Bool.and_eq_true, decide_eq_true_eq, if_true]; simp; omega⟩
    · have e : (lits l ++ ts).getD i (0, 0) = ts.getD (i - l.length) (0, 0) := by
        rw [List.getD, List.getD, List.getElem?_append_right (by rw [lits_length]; omega), lits_length]
      rw [e]
      exact h2.wf (i - l.length) (by omega))
  clear hrow h h2
  go_enter Tryz.func8, Tryz.ntmps8
  go_wp2_with fail
  clear d1 d2
  have HBD : Hid (Below w.heap.size w (w.alloc (.cells #[.slice a l.length cap, .slice b ts.length cap2, .int .i64 kind, .bool last] 25)).drew) := Lib.hid (Below.drew HAL.out)
  revert HLI c0 c1 HQ HAL HBD
  generalize w.alloc (.cells #[.slice a l.length cap, .slice b ts.length cap2, .int .i64 kind, .bool last] 25) = w1
  clear hal
  intro c0 c1 HAL HQ HLI HBD
  go_region_held3 (fun w' => w'.cell? ⟨w.heap.size, 0, none⟩ = some (.slice a l.length cap) ∧ w'.cell? ⟨w.heap.size, 1, none⟩ = some (.slice b ts.length cap2)) (first | (with_reducible exact ⟨c0, c1⟩) | (with_reducible exact ⟨s0, s1⟩) | (with_reducible exact ⟨t0, t1⟩) | (with_reducible exact ⟨r0, r1⟩) | go_keep)
    (first
      | (go_at_call 11; (with_reducible refine HLI.out.mono ?_); rintro e w2 ⟨vl, rfl, own2, hb4⟩; have HO2 := Lib.hid (own_base (base' := w.heap.size) own2 (fun g hg => Nat.le_trans HBD.out.size (own2.lt g hg).1)); have HV2 := Lib.hid (fun g (hg : vl.ownBlock = some g) => (own2.lt g hg).1); have HQ2 : Hid (w.heap.size < w2.heap.size) := Lib.hid (Nat.lt_of_lt_of_le HQ.out hb4.size); have HB2 := Lib.hid (below_then HBD.out hb4); have hq1 : w.heap.size < w1.drew.heap.size := HQ.out; have s0 := (hb4.cell (p := ⟨w.heap.size, 0, none⟩) hq1).trans c0; have s1 := (hb4.cell (p := ⟨w.heap.size, 1, none⟩) hq1).trans c1; clear own2 hb4)
      | (refine step_app3 tyT rfl _ _ rfl HO2.out (HTS.out _ HB2.out).src rfl rfl (by omega) (by omega) HB2.out.size ?_; intro v3 w3 own3 ch3 fr3; rw [← tks_append] at own3; obtain ⟨a3, cap3, rfl, hts3⟩ := own_ts2 own3 HWF.out; have HEX := Lib.hid (refExpand_any a3 _ cap3 _ 20000 w3 hts3 (by omega)); have hbk := ch3.block w.heap.size HQ2.out (fun e => by have h1 := HV2.out _ e; have h3 := HQ.out; have h4 : w1.drew.heap.size = w1.heap.size := rfl; omega); have t0 := (World.cell?_of_block (a := ⟨w.heap.size, 0, none⟩) hbk).trans s0; have t1 := (World.cell?_of_block (a := ⟨w.heap.size, 1, none⟩) hbk).trans s1; have HB3 := Lib.hid (HB2.out.trans (ch3.below HB2.out.size (fun j e => Nat.le_trans HBD.out.size (HV2.out _ e)))); have HQ3 := Lib.hid (Nat.lt_of_lt_of_le HQ2.out ch3.size); clear own3 ch3 fr3 hts3 hbk)
      | (go_at_call 31; (with_reducible refine HEX.out.mono ?_); rintro e w4 ⟨hb5, v4, rfl, own4⟩; have HO4 := Lib.hid own4; have HB4 := Lib.hid (below_then HB3.out hb5); have r0 := (hb5.cell (p := ⟨w.heap.size, 0, none⟩) HQ3.out).trans t0; have r1 := (hb5.cell (p := ⟨w.heap.size, 1, none⟩) HQ3.out).trans t1; clear own4 hb5))
  have HE : Hid (Tk.exp 20000 (lits l ++ ts) = Tk.upto 20000 (lits l ++ ts) (lits l ++ ts).length) := Lib.hid (by unfold Tk.exp; rw [if_pos (by omega)]; rfl)
  clear HEX HB2 HB3 HO2 HV2 HQ2 HQ3 HLI s0 s1 t0 t1 c1 r1 c0 HTS HWF
  generalize hr : Tk.exp 20000 (lits l ++ ts) = r at *
  obtain ⟨c, all⟩ := r
  simp only at HO4 ⊢
  have HR := Lib.hid hr
  clear hr
  by_cases hc : c = 0
  · subst hc
    have hfit := exp_fit 20000 l all ts (by rw [← HE.out]) (by omega)
    have hup := HE.out.symm
    have HUP := Lib.hid hup
    have h3 := hfit.2.2
    have h4 := hfit.2.1
    obtain ⟨av, cv, rfl, hbs⟩ := own_bs HO4.out (by omega)
    have HBS := Lib.hid hbs
    have hcv := hbs.hle
    clear HE HR HO4 hup hfit hbs
    by_cases hq : cv = l.length
    · have HT := Lib.hid (bs_tail HBS.out h3 av (by rw [if_pos hq]))
      rw [show cv - l.length = 0 by omega] at HT
      clear HBS
      go_wp2
      go_ret2
      exact ⟨HB4.out, .inr ⟨all, _, _, by omega, by omega, HUP.out, h3, rfl, HT.out⟩⟩
    · have HT := Lib.hid (bs_tail HBS.out h3 _ (if_neg hq).symm)
      clear HBS
      go_wp2
      go_ret2
      exact ⟨HB4.out, .inr ⟨all, _, _, by omega, by omega, HUP.out, h3, rfl, HT.out⟩⟩
  · have d0 : (c == 0) = false := by simpa using hc
    clear HE HR
    go_wp2
    go_ret2
    exact ⟨HB4.out, .inl rfl⟩
end Bc
end Go.Proofs.YtpoilaappcjbeaaGreatDoor
end
