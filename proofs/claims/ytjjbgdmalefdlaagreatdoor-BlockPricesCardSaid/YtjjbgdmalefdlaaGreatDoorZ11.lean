/- Tokens, what they come to, and slices of pairs of numbers in memory. Tokens, and what they come to: their type. The document's Good. -/
import Derived.Test.YtjjbgdmalefdlaaGreatDoorZ4
import Derived.Test.YtjjbgdmalefdlaaGreatDoorZ10
import Derived.Test.YtjjbgdmalefdlaaGreatDoorProg
set_option linter.unusedSimpArgs false
set_option linter.unusedVariables false
section
namespace Go.Proofs.YtjjbgdmalefdlaaGreatDoor
open Go.RowKit

/-- A token: its length and its distance. -/
abbrev Tok := Int × Int
namespace Tk
def isTok (t : Tok) : Bool := if t.1 = 0 then decide (0 ≤ t.2 ∧ t.2 ≤ 255) else decide (3 ≤ t.1 ∧ t.1 ≤ 258 ∧ 1 ≤ t.2 ∧ t.2 ≤ 32768)
/-- The last byte but so many. -/
def bk (d : Nat) (l : List UInt8) : UInt8 := l.getD (l.length - d) 0
/-- So many bytes more, each as the one that is so far behind. -/
def cp (d : Nat) (l : List UInt8) : Nat → List UInt8
  | 0 => l
  | n + 1 => cp d l n ++ [bk d (cp d l n)]
theorem cp_length (d : Nat) (l : List UInt8) : ∀ n, (cp d l n).length = l.length + n
  | 0 => rfl
  | n + 1 => by rw [cp, List.length_append, cp_length d l n]; simp; omega
def size (t : Tok) : Nat := if t.1 = 0 then 1 else t.1.toNat
def put (l : List UInt8) (t : Tok) : List UInt8 := if t.1 = 0 then l ++ [UInt8.ofNat t.2.toNat] else cp t.2.toNat l t.1.toNat
/-- A token that is one is added: an error's number (0: none), and what there is then. -/
def add (most : Nat) (l : List UInt8) (t : Tok) : Int × List UInt8 :=
  if t.1 ≠ 0 ∧ (l.length : Int) < t.2 then (2, []) else if most < l.length + size t then (4, []) else (0, put l t)
def stp (most : Nat) (l : List UInt8) (t : Tok) : Int × List UInt8 := if isTok t then add most l t else (6, [])
/-- What the first k come to. -/
def upto (most : Nat) (ts : List Tok) : Nat → Int × List UInt8
  | 0 => (0, [])
  | k + 1 => if (upto most ts k).1 = 0 then stp most (upto most ts k).2 (ts.getD k (0, 0)) else upto most ts k
theorem upto_next {most : Nat} {ts : List Tok} {k : Nat} {l : List UInt8} (h : upto most ts k = (0, l)) : upto most ts (k + 1) = stp most l (ts.getD k (0, 0)) := by rw [upto, h]; rfl
theorem upto_stuck {most : Nat} {ts : List Tok} {k : Nat} (h : (upto most ts k).1 ≠ 0) : ∀ n, k ≤ n → upto most ts n = upto most ts k
  | 0, hn => by obtain rfl : k = 0 := by omega
                rfl
  | n + 1, hn => by
    by_cases e : k = n + 1
    · rw [e]
    · have ih := upto_stuck h n (by omega)
      rw [upto, ih, if_neg h]
theorem upto_err {most : Nat} {ts : List Tok} {k : Nat} {l m : List UInt8} {n : Int} (h : upto most ts k = (0, l)) (h2 : stp most l (ts.getD k (0, 0)) = (n, m)) (hn : n ≠ 0) (hk : k < ts.length) : upto most ts ts.length = (n, m) := by
  have e := upto_next h
  rw [h2] at e
  rw [upto_stuck (k := k + 1) (by rw [e]; exact hn) _ (by omega), e]
/-- What tokens come to. -/
def exp (most : Int) (ts : List Tok) : Int × List UInt8 := if 0 ≤ most ∧ most ≤ 4194304 then upto most.toNat ts ts.length else (7, [])
theorem put_length (l : List UInt8) (t : Tok) : (put l t).length = l.length + size t := by
  unfold put size
  split
  · simp
  · rw [cp_length]
theorem add_le {most : Nat} {l m : List UInt8} {t : Tok} (h : add most l t = (0, m)) : m.length ≤ most := by
  unfold add at h
  split at h
  · simp at h
  split at h
  · simp at h
  · simp only [Prod.mk.injEq, true_and] at h
    rw [← h, put_length]; omega
theorem upto_le (most : Nat) (ts : List Tok) : ∀ k l, upto most ts k = (0, l) → l.length ≤ most
  | 0, l, h => by simp only [upto, Prod.mk.injEq, true_and] at h; subst h; simp
  | k + 1, l, h => by
    rw [upto] at h
    split at h
    · unfold stp at h
      split at h
      · exact add_le h
      · simp at h
    · rename_i hne; rw [h] at hne; exact absurd rfl hne
theorem tok_range {t : Tok} (h : isTok t = true) : 0 ≤ t.1 ∧ t.1 ≤ 258 ∧ 0 ≤ t.2 ∧ t.2 ≤ 32768 ∧ (t.1 = 0 → t.2 ≤ 255) ∧ (t.1 ≠ 0 → 3 ≤ t.1 ∧ 1 ≤ t.2) := by
  unfold isTok at h
  split at h
  · have := of_decide_eq_true h; omega
  · have := of_decide_eq_true h; omega
end Tk
/-- Tokens as cells. -/
def tks (l : List Tok) : List Value := l.flatMap fun o => [.int .i64 o.1, .int .i64 o.2]
theorem tks_length (l : List Tok) : (tks l).length = l.length * 2 := by
  induction l with
  | nil => rfl
  | cons o l ih => simp only [tks, List.flatMap_cons, List.length_append, List.length_cons, List.length_nil] at *; omega
theorem tks_append (l m : List Tok) : tks (l ++ m) = tks l ++ tks m := by simp [tks]
theorem tks_get (l : List Tok) : ∀ i, i < l.length → (tks l)[i * 2]? = some (.int .i64 (l.getD i (0, 0)).1) ∧ (tks l)[i * 2 + 1]? = some (.int .i64 (l.getD i (0, 0)).2) := by
  induction l with
  | nil => intro i hi; simp at hi
  | cons c cs ih =>
    intro i hi
    have e : tks (c :: cs) = .int .i64 c.1 :: .int .i64 c.2 :: tks cs := rfl
    rw [e]
    cases i with
    | zero => exact ⟨rfl, rfl⟩
    | succ i =>
      have := ih i (by simp at hi; omega)
      have e3 : (i + 1) * 2 = i * 2 + 2 := by omega
      rw [e3]
      exact this
theorem tks_one (l : List Tok) : ∀ u ∈ tks l, u.oneCell' = true := by
  intro u hu
  simp only [tks, List.mem_flatMap] at hu
  obtain ⟨o, _, ho⟩ := hu
  simp at ho
  rcases ho with rfl | rfl <;> rfl
/-- A slice of tokens that reads as l. -/
structure Ts2 (w : World) (a : Option Addr) (len cap : Nat) (l : List Tok) : Prop where
  hlen : l.length = len
  hle : len ≤ cap
  hnil : a = none → cap = 0
  at' : ∀ i, i < len → ∃ b off, a = some ⟨b, off, none⟩ ∧ b < w.heap.size ∧ w.cell? ⟨b, off + i * 2, none⟩ = some (.int .i64 (l.getD i (0, 0)).1) ∧ w.cell? ⟨b, off + i * 2 + 1, none⟩ = some (.int .i64 (l.getD i (0, 0)).2)
  wf : ∀ i, i < len → (Lit.int .i64 (l.getD i (0, 0)).1).wf = true ∧ (Lit.int .i64 (l.getD i (0, 0)).2).wf = true
theorem Ts2.mono {w w' : World} {a : Option Addr} {len cap : Nat} {l : List Tok} (h : Ts2 w a len cap l) (hb : Below w.heap.size w w') : Ts2 w' a len cap l :=
  ⟨h.hlen, h.hle, h.hnil, fun i hi => by
    obtain ⟨b, off, e, hlt, c0, c1⟩ := h.at' i hi
    exact ⟨b, off, e, Nat.lt_of_lt_of_le hlt hb.size, by rw [hb.cell (p := ⟨b, off + i * 2, none⟩) hlt]; exact c0, by rw [hb.cell (p := ⟨b, off + i * 2 + 1, none⟩) hlt]; exact c1⟩, h.wf⟩
theorem Ts2.src {w : World} {a : Option Addr} {len cap : Nat} {l : List Tok} (h : Ts2 w a len cap l) : SrcRow w a len cap (tks l) 2 := by
  refine ⟨by rw [tks_length, h.hlen], fun e => ?_, fun ad e j u hu => ?_, tks_one l⟩
  · have := h.hnil e; have := h.hle; omega
  · have hj : j < (tks l).length := (List.getElem?_eq_some_iff.1 hu).1
    rw [tks_length, h.hlen] at hj
    obtain ⟨b, off, e2, _, c0, c1⟩ := h.at' (j / 2) (by omega)
    rw [e] at e2
    obtain rfl := Option.some.inj e2
    obtain ⟨t0, t1⟩ := tks_get l (j / 2) (by rw [h.hlen]; omega)
    rw [Addr.add_mid]
    rcases Nat.mod_two_eq_zero_or_one j with h0 | h0
    · have ej : j = j / 2 * 2 := by omega
      rw [ej] at hu ⊢
      have e4 : j / 2 * 2 / 2 = j / 2 := by omega
      rw [t0] at hu
      rw [c0]; exact hu
    · have ej : j = j / 2 * 2 + 1 := by omega
      rw [ej] at hu ⊢
      rw [t1] at hu
      rw [← Nat.add_assoc, c1]; exact hu
end Go.Proofs.YtjjbgdmalefdlaaGreatDoor
end

section
namespace Go.Proofs.YtjjbgdmalefdlaaGreatDoor
open Go.RowKit

theorem tyT : RowTy Tryz.prog 23 59 (.agg #[.int .i64 0, .int .i64 0]) 2 16 := ⟨Tryz.underlying23, by kernel_rfl, rfl, by omega⟩
theorem src_tok (w : World) (t : Tok) : SrcRow (w.alloc (.cells #[.int .i64 t.1, .int .i64 t.2] 59)) (some ⟨w.heap.size, 0, none⟩) 1 1 (tks [t]) 2 :=
  src_new w #[.int .i64 t.1, .int .i64 t.2] 59 1 1 2 rfl (by intro u hu; simp at hu; rcases hu with rfl | rfl <;> rfl)
/-- A row of tokens of the call's own reads as its tokens. -/
theorem own_ts2 {w : World} {base n : Nat} {v : Value} {l : List Tok} (h : w.ownsRow base 59 2 v n (tks l)) (hw : ∀ i, i < n → (Lit.int .i64 (l.getD i (0, 0)).1).wf = true ∧ (Lit.int .i64 (l.getD i (0, 0)).2).wf = true) :
    ∃ a cap, v = .slice a n cap ∧ Ts2 w a n cap l := by
  have hn : l.length = n := by have := h.1; rw [tks_length] at this; omega
  rcases own_nil_or h with ⟨rfl, rfl⟩ | ⟨g, cap, rfl, hle, _⟩
  · exact ⟨none, 0, rfl, hn, Nat.le_refl _, fun _ => rfl, fun i hi => absurd hi (by omega), hw⟩
  · refine ⟨_, cap, rfl, hn, hle, fun e => by simp at e, fun i hi => ⟨g, 0, rfl, (h.lt g rfl).2, ?_⟩, hw⟩
    obtain ⟨t0, t1⟩ := tks_get l i (by omega)
    rw [Nat.zero_add, h.cellAt (i * 2) (by omega), h.cellAt (i * 2 + 1) (by omega)]
    exact ⟨t0, t1⟩
end Go.Proofs.YtjjbgdmalefdlaaGreatDoor
end

section
namespace Go.Proofs.YtjjbgdmalefdlaaGreatDoor
open Go.RowKit

theorem refGood06_any (t : Tok) (w : World) (hw : (Lit.int .i64 t.1).wf = true ∧ (Lit.int .i64 t.2).wf = true) :
    Calls Tryz.prog 24 #[.agg #[.int .i64 t.1, .int .i64 t.2]] w fun e w' => e = .returned (.bool (Tk.isTok t)) ∧ Below w.heap.size w w' := by
  obtain ⟨x, y⟩ := t
  have hb := Lib.hid (below_alloc w (.cells #[.int .i64 x, .int .i64 y] 59))
  clear hw
  by_cases h0 : x = 0
  · by_cases h1 : 0 ≤ y
    · by_cases h2 : y ≤ 255
      · have E := Lib.hid (show Tk.isTok (x, y) = true by simp only [Tk.isTok, h0, if_true]; exact decide_eq_true ⟨h1, h2⟩)
        have d0 : (x == 0) = true := by simpa using h0
        have d1 : decide (0 ≤ y) = true := by simpa using h1
        have d2 : decide (y < 256) = true := by simp; omega
        clear h0
        go_enter Tryz.func24, Tryz.ntmps24
        go_wp2
        go_ret
        exact ⟨by rw [E.out]; rfl, hb.out⟩
      · have E := Lib.hid (show Tk.isTok (x, y) = false by simp only [Tk.isTok, h0, if_true]; exact decide_eq_false (fun h => h2 h.2))
        have d0 : (x == 0) = true := by simpa using h0
        have d1 : decide (0 ≤ y) = true := by simpa using h1
        have d2 : decide (y < 256) = false := by simp; omega
        clear h0
        go_enter Tryz.func24, Tryz.ntmps24
        go_wp2
        go_ret
        exact ⟨by rw [E.out]; rfl, hb.out⟩
    · have E := Lib.hid (show Tk.isTok (x, y) = false by simp only [Tk.isTok, h0, if_true]; exact decide_eq_false (fun h => h1 h.1))
      have d0 : (x == 0) = true := by simpa using h0
      have d1 : decide (0 ≤ y) = false := by simpa using h1
      clear h0
      go_enter Tryz.func24, Tryz.ntmps24
      go_wp2
      go_ret
      exact ⟨by rw [E.out]; rfl, hb.out⟩
  have d0 : (x == 0) = false := by simpa using h0
  have hi : Tk.isTok (x, y) = decide (3 ≤ x ∧ x ≤ 258 ∧ 1 ≤ y ∧ y ≤ 32768) := by simp only [Tk.isTok, if_neg h0]
  by_cases h1 : 3 ≤ x
  · have d1 : decide (3 ≤ x) = true := by simpa using h1
    by_cases h2 : x ≤ 258
    · have d2 : decide (x ≤ 258) = true := by simpa using h2
      by_cases h3 : 1 ≤ y
      · have d3 : decide (1 ≤ y) = true := by simpa using h3
        by_cases h4 : y ≤ 32768
        · have d4 : decide (y ≤ 32768) = true := by simpa using h4
          have E := Lib.hid (hi.trans (decide_eq_true ⟨h1, h2, h3, h4⟩))
          clear hi
          go_enter Tryz.func24, Tryz.ntmps24
          go_wp2
          go_ret
          exact ⟨by rw [E.out]; rfl, hb.out⟩
        · have d4 : decide (y ≤ 32768) = false := by simpa using h4
          have E := Lib.hid (hi.trans (decide_eq_false (fun h => h4 h.2.2.2)))
          clear hi
          go_enter Tryz.func24, Tryz.ntmps24
          go_wp2
          go_ret
          exact ⟨by rw [E.out]; rfl, hb.out⟩
      · have d3 : decide (1 ≤ y) = false := by simpa using h3
        have E := Lib.hid (hi.trans (decide_eq_false (fun h => h3 h.2.2.1)))
        clear hi
        go_enter Tryz.func24, Tryz.ntmps24
        go_wp2
        go_ret
        exact ⟨by rw [E.out]; rfl, hb.out⟩
    · have d2 : decide (x ≤ 258) = false := by simpa using h2
      have E := Lib.hid (hi.trans (decide_eq_false (fun h => h2 h.2.1)))
      clear hi
      go_enter Tryz.func24, Tryz.ntmps24
      go_wp2
      go_ret
      exact ⟨by rw [E.out]; rfl, hb.out⟩
  · have d1 : decide (3 ≤ x) = false := by simpa using h1
    have E := Lib.hid (hi.trans (decide_eq_false (fun h => h1 h.1)))
    clear hi
    go_enter Tryz.func24, Tryz.ntmps24
    go_wp2
    go_ret
    exact ⟨by rw [E.out]; rfl, hb.out⟩
end Go.Proofs.YtjjbgdmalefdlaaGreatDoor
end
