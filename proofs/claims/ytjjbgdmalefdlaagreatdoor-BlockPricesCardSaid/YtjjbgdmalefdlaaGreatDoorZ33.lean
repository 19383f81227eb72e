/- What blocks are written as, in bits. block.shorten: its contract. -/
import Derived.Test.YtjjbgdmalefdlaaGreatDoorZ6
import Derived.Test.YtjjbgdmalefdlaaGreatDoorZ7
import Derived.Test.YtjjbgdmalefdlaaGreatDoorZ13
import Derived.Test.YtjjbgdmalefdlaaGreatDoorZ15
import Derived.Test.YtjjbgdmalefdlaaGreatDoorZ28
import Derived.Test.YtjjbgdmalefdlaaGreatDoorZ31
import Derived.Test.YtjjbgdmalefdlaaGreatDoorZ32
set_option linter.unusedSimpArgs false
set_option linter.unusedVariables false
section
namespace Go.Proofs.YtjjbgdmalefdlaaGreatDoor
open Go.RowKit

namespace Bc
/-- The sorts of symbols. -/
inductive Kd where
  | lit | dst | run
/-- A symbol's base and its extra bits. -/
def bse : Kd → Int → Nat × Nat
  | .lit, s => if 257 ≤ s ∧ s ≤ 285 then Sy.lb (s - 257).toNat else (0, 0)
  | .dst, s => if 0 ≤ s ∧ s ≤ 29 then Sy.db s.toNat else (0, 0)
  | .run, s => if 0 ≤ s ∧ s ≤ 18 then (Bl.base s, Bl.bits s) else (0, 0)
def bok : Kd → Int → Bool
  | .lit, s => decide (257 ≤ s ∧ s ≤ 285)
  | .dst, s => decide (0 ≤ s ∧ s ≤ 29)
  | .run, s => decide (0 ≤ s ∧ s ≤ 18)
def xt (k : Kd) (s : Int) : Nat := (bse k s).2
/-- What the base function answers. -/
def bval (k : Kd) (s : Int) : Value := .tuple #[.int .i64 ((bse k s).1 : Nat), .int .i64 ((bse k s).2 : Nat), .bool (bok k s)]
theorem lb_le : ∀ p, p < 29 → (Sy.lb p).1 ≤ 258 ∧ (Sy.lb p).2 ≤ 5 := by decide +kernel
theorem db_le : ∀ p, p < 30 → (Sy.db p).1 ≤ 24577 ∧ (Sy.db p).2 ≤ 13 := by decide +kernel
theorem bse_le (k : Kd) (s : Int) : (bse k s).1 ≤ 24577 ∧ (bse k s).2 ≤ 13 := by
  cases k <;> simp only [bse]
  · split
    · have := lb_le (s - 257).toNat (by omega); omega
    · exact ⟨by omega, by omega⟩
  · split
    · exact db_le s.toNat (by omega)
    · exact ⟨by omega, by omega⟩
  · split
    · have := Bl.base_le s
      have h : Bl.bits s ≤ 13 := by unfold Bl.bits; split; omega; split; omega; split <;> omega
      exact ⟨by simp only; omega, h⟩
    · exact ⟨by omega, by omega⟩
theorem xt_le (k : Kd) (s : Int) : xt k s ≤ 13 := (bse_le k s).2
/-- The words of a book of lengths. -/
def wsL (L : List Int) : List (Nat × Nat) := Bk.wsOf (Bk.seq (Bk.rowsL L) 17) L.length
theorem wsL_length (L : List Int) : (wsL L).length = L.length := Bk.wsOf_length _ _
/-- A symbol's code. -/
def wd (L : List Int) (s : Int) : List Bool := Bt.dg true (Bk.wAt (wsL L) s).1 (Bk.wAt (wsL L) s).2
theorem w_good (l : List Int) (h : Cn.freeB l = true) (s : Nat) (hs : s < l.length) (hp : 0 < l.getD s 0) :
    ∃ m i, m < 17 ∧ i < (Bk.rowsL l m).length ∧ (Bk.it (Bk.rowsL l) m i).s = s ∧ l.getD s 0 = (m : Int) ∧ 0 < m ∧ Bk.wAt (wsL l) (s : Int) = ((Bk.it (Bk.rowsL l) m i).c, m) ∧ (Bk.it (Bk.rowsL l) m i).c < 2 ^ m := by
  have h1 := h
  simp only [Cn.freeB, Bool.and_eq_true] at h1
  have hf := (Cn.form_mem l h1.1 (l.getD s 0) (by simp [List.getD, List.getElem?_eq_getElem hs])).2
  obtain ⟨m, i, hm, hi, e1, e2, e3⟩ := Bk.look_some l s hs ⟨hp, hf⟩
  refine ⟨m, i, hm, hi, e1, e2, by omega, ?_, Bk.it_lt (Bk.rowsL l) (Bk.good_of l h) m i (by omega) hi⟩
  unfold Bk.wAt
  rw [if_pos (by omega), Int.toNat_natCast]
  have e : (wsL l).getD s (0, 0) = Bk.look (Bk.seq (Bk.rowsL l) 17) s := by simp [wsL, Bk.wsOf, List.getD, List.getElem?_range hs]
  rw [e, e3]; rfl
theorem wd_length (l : List Int) (h : Cn.freeB l = true) (s : Nat) (hs : s < l.length) (hp : 0 < l.getD s 0) : ((wd l (s : Int)).length : Int) = l.getD s 0 := by
  obtain ⟨m, i, _, _, _, e2, _, e3, _⟩ := w_good l h s hs hp
  unfold wd
  rw [e3, Bt.dg_length, e2]
/-- A symbol, and the number in its extra bits. -/
def syB (k : Kd) (L : List Int) (s : Int) (z : Nat) : List Bool := wd L s ++ Bt.dg false z (xt k s)
/-- A length or a distance by its symbol. -/
def mtB (k : Kd) (L : List Int) (s : Int) (n : Nat) : List Bool := syB k L s (n - (bse k s).1)
def tkB (L D : List Int) (t : Tok) : List Bool :=
  if t.1 = 0 then syB .lit L t.2 0 else mtB .lit L ((257 + Sy.lsy t.1.toNat : Nat) : Int) t.1.toNat ++ mtB .dst D ((Sy.dsy t.2.toNat : Nat) : Int) t.2.toNat
/-- All symbols' bits. -/
def tot (k : Kd) (C L : List Int) : Nat → Int
  | 0 => 0
  | n + 1 => tot k C L n + C.getD n 0 * (L.getD n 0 + (xt k (n : Int) : Nat))
/-- Lengths without the zeros at their end, so many of them at least. -/
def shn (l : List Int) (least : Nat) : Nat → Nat
  | 0 => 0
  | n + 1 => if least < n + 1 ∧ l.getD n 0 = 0 then shn l least n else n + 1
def short (l : List Int) (least : Nat) : List Int := l.take (shn l least l.length)
theorem shn_le (l : List Int) (least : Nat) : ∀ n, shn l least n ≤ n
  | 0 => Nat.le_refl _
  | n + 1 => by
    rw [shn]
    split
    · have := shn_le l least n; omega
    · omega
theorem shn_ge (l : List Int) (least : Nat) : ∀ n, least ≤ n → least ≤ shn l least n
  | 0, h => by rw [shn]; exact h
  | n + 1, h => by
    rw [shn]
    split
    · exact shn_ge l least n (by omega)
    · exact h
/-- How often each run's symbol stands. -/
def rc (rs : List Tok) (k : Nat) : List Int := (rs.take k).foldl (fun c t => Pa.bmp c t.1.toNat) (List.replicate 19 0)
theorem rc_next (rs : List Tok) (k : Nat) (h : k < rs.length) : rc rs (k + 1) = Pa.bmp (rc rs k) (rs.getD k (0, 0)).1.toNat := by
  unfold rc
  rw [List.take_succ_eq_append_getElem h, List.foldl_append]
  simp [List.getD, List.getElem?_eq_getElem h]
theorem rc_in (rs : List Tok) : ∀ k, k ≤ rs.length → Pa.In 19 (rc rs k) (k + 1)
  | 0, _ => Pa.in_zs 19
  | k + 1, h => by rw [rc_next rs k (by omega)]; exact (rc_in rs k (by omega)).bmp
/-- The order of the lengths of runs' symbols. -/
def order : List Nat := [16, 17, 18, 0, 8, 7, 9, 6, 10, 5, 11, 4, 12, 3, 13, 2, 14, 1, 15]
/-- A header: literal lengths, distance lengths, runs, the lengths of their symbols, and those in order. -/
structure Hd where
  ll : List Int
  dl : List Int
  rs : List Tok
  C : List Int
  R : List Int
  own : List Int
def hdOf (L D : List Int) (rs : List Tok) : Hd :=
  let C := rc rs rs.length
  let R := cmpl C 7
  ⟨short L 257, short D 1, rs, C, R, short (order.map fun i => R.getD i 0) 4⟩
def hdBits (h : Hd) : List Bool :=
  Bt.dg false (h.ll.length - 257) 5 ++ (Bt.dg false (h.dl.length - 1) 5 ++ (Bt.dg false (h.own.length - 4) 4 ++ (h.own.flatMap (fun x => Bt.dg false x.toNat 3) ++ h.rs.flatMap (fun t => syB .run h.R t.1 t.2.toNat))))
def hdLen (h : Hd) : Int := 5 + 5 + 4 + 3 * (h.own.length : Int) + tot .run h.C h.R 19
/-- What follows the kind. -/
def LL (kind : Nat) (ts : List Tok) : List Int := if kind = 2 then cmpl (Pa.cts ts ts.length).1 15 else litL
def DL (kind : Nat) (ts : List Tok) : List Int := if kind = 2 then Mg.lensOf (Pa.cts ts ts.length).2 15 else dstL
/-- The header of a block of kind 2. -/
def hdR (ts : List Tok) : List Tok := (Bl.ru [] (short (LL 2 ts) 257 ++ short (DL 2 ts) 1)).getD []
def hdT (ts : List Tok) : Hd := hdOf (LL 2 ts) (DL 2 ts) (hdR ts)
theorem hdT_eq (ts : List Tok) : hdT ts = hdOf (LL 2 ts) (DL 2 ts) (hdR ts) := rfl
theorem hdR_eq (ts : List Tok) : hdR ts = (Bl.ru [] (short (LL 2 ts) 257 ++ short (DL 2 ts) 1)).getD [] := rfl
theorem hdOf_rs (L D : List Int) (rs : List Tok) : (hdOf L D rs).rs = rs := rfl
theorem hdT_rs (ts : List Tok) : (hdT ts).rs = hdR ts := by rw [hdT_eq]; exact hdOf_rs _ _ _
def bdBits (kind : Nat) (ts : List Tok) : List Bool :=
  (if kind = 2 then hdBits (hdT ts) else []) ++ (ts.flatMap (tkB (LL kind ts) (DL kind ts)) ++ wd (LL kind ts) 256)
def bdLen (kind : Nat) (ts : List Tok) : Int :=
  (if kind = 2 then hdLen (hdT ts) else 0) + tot .lit (Pa.cts ts ts.length).1 (LL kind ts) 286 + tot .dst (Pa.cts ts ts.length).2 (DL kind ts) 30
/-- How many bits a block has. -/
def szB (kind : Nat) (ts : List Tok) (n : Nat) : Int := if kind = 0 then 42 + 8 * (n : Int) else 3 + bdLen kind ts
end Bc
end Go.Proofs.YtjjbgdmalefdlaaGreatDoor
end

section
namespace Go.Proofs.YtjjbgdmalefdlaaGreatDoor
open Go.RowKit

namespace Bc
set_option maxHeartbeats 1000000 in
theorem shorten_any (a : Option Addr) (n c : Nat) (l : List Int) (least : Nat) (w : World) (h : Is .i64 w a n c l) (hn : n ≤ 1000000) (hle : least ≤ 1000000) :
    Calls Tryz.prog 84 #[.slice a n c, .int .i64 (least : Nat)] w fun e w' => e = .returned (.slice a (shn l least n) c) ∧ w = w' := by
  obtain ⟨R, hR⟩ : ∃ R, shn l least n = R := ⟨_, rfl⟩
  rw [hR]
  have HR := Lib.hid hR
  have H := Lib.hid h
  have hcap := h.hle
  clear h hR
  go_enter Tryz.func84, Tryz.ntmps84
  go_wp2
  go_loop [5] (fun sv => ∃ k : Nat, k ≤ n ∧ sv = .int .i64 k ∧ Hid (shn l least k = R)) (fun sv => (intOf sv).toNat)
  case atStart => exact ⟨n, Nat.le_refl _, rfl, HR⟩
  case round =>
    obtain ⟨k, hk, rfl, HK⟩ := hrel
    clear HR
    by_cases hgt : least < k
    · have d1 : decide (least < k) = true := decide_eq_true hgt
      obtain ⟨j, rfl⟩ : ∃ j, k = j + 1 := ⟨k - 1, by omega⟩
      obtain ⟨b, off, rfl, hb, hcell⟩ := H.out.at' j (by omega)
      have HS : Hid ((if least < j + 1 ∧ l.getD j 0 = 0 then shn l least j else j + 1) = R) := Lib.hid (by rw [← HK.out, shn])
      have e1 : ((j + 1 : Nat) : Int) - 1 = (j : Int) := by omega
      clear HK
      generalize l.getD j 0 = z at *
      by_cases hz : z = 0
      · subst hz
        have HS2 : Hid (shn l least j = R) := Lib.hid (by rw [← HS.out, if_pos ⟨hgt, rfl⟩])
        have hj1 : j < n := by omega
        clear HS
        go_wp2
        go_round
        case rel => exact ⟨j, by omega, by first | rfl | exact int_eq e1, HS2⟩
        case measure => simp [intOf]
      · have dz : (z == 0) = false := by simpa using hz
        have HS2 : Hid (j + 1 = R) := Lib.hid (by rw [← HS.out, if_neg (fun h => hz h.2)])
        have hj1 : j < n := by omega
        clear HS hz
        go_wp2
        go_ret
        exact ⟨by rw [← HS2.out]; rfl, rfl⟩
    · have d1 : decide (least < k) = false := decide_eq_false hgt
      have HS2 : Hid (k = R) := Lib.hid (by
        rw [← HK.out]
        cases k with
        | zero => rfl
        | succ j => rw [shn, if_neg (fun h => hgt h.1)])
      clear HK
      go_wp2
      go_ret
      exact ⟨by rw [← HS2.out]; rfl, rfl⟩
end Bc
end Go.Proofs.YtjjbgdmalefdlaaGreatDoor
end
