/- What blocks are written as, in bits. A slice of ints, cut off. block.shorten: its contract. canon.Free: its contract. canon.NewBook: its contract. canon.NewBook: its contract, and where the book lies. inflate's symbols: their bases, and which symbol a number has. Runs in memory. Package bits: what a writer and a reader are in memory. The type of a slice of bytes. Package bits: the small functions' contracts. -/
import Derived.Test.YtpoilaappcjbeaaGreatDoorZ12
import Derived.Test.YtpoilaappcjbeaaGreatDoorProg
set_option linter.unusedSimpArgs false
set_option linter.unusedVariables false
section
namespace Go.Proofs.YtpoilaappcjbeaaGreatDoor
open Go.RowKit

namespace Bc
/-- The sorts of symbols. -/
inductive Kd where
  | lit | dst | run
/-- A symbol's base and its extra bits. -/
def bse : Kd → Int → Nat × Nat
  | .lit, s => if 257 ≤ s ∧ s ≤ 285 then Sy.lb (s - 257).toNat else (0, 0)
  | .dst, s => if 0 ≤ s ∧ s ≤ 29 then Sy.db s.toNat else (0, 0)
  | .run, s => if 0 ≤ s ∧ s ≤ 18 then (Bl.base s, Bl.bits s) else (0, 0)
def bok : Kd → Int → Bool
  | .lit, s => decide (257 ≤ s ∧ s ≤ 285)
  | .dst, s => decide (0 ≤ s ∧ s ≤ 29)
  | .run, s => decide (0 ≤ s ∧ s ≤ 18)
def xt (k : Kd) (s : Int) : Nat := (bse k s).2
/-- What the base function answers. -/
def bval (k : Kd) (s : Int) : Value := .tuple #[.int .i64 ((bse k s).1 : Nat), .int .i64 ((bse k s).2 : Nat), .bool (bok k s)]
theorem lb_le : ∀ p, p < 29 → (Sy.lb p).1 ≤ 258 ∧ (Sy.lb p).2 ≤ 5 := by decide +kernel
theorem db_le : ∀ p, p < 30 → (Sy.db p).1 ≤ 24577 ∧ (Sy.db p).2 ≤ 13 := by decide +kernel
theorem bse_le (k : Kd) (s : Int) : (bse k s).1 ≤ 24577 ∧ (bse k s).2 ≤ 13 := by
  cases k <;> simp only [bse]
  · split
    · have := lb_le (s - 257).toNat (by omega); omega
    · exact ⟨by omega, by omega⟩
  · split
    · exact db_le s.toNat (by omega)
    · exact ⟨by omega, by omega⟩
  · split
    · have := Bl.base_le s
      have h : Bl.bits s ≤ 13 := by unfold Bl.bits; split; omega; split; omega; split <;> omega
      exact ⟨by simp only; omega, h⟩
    · exact ⟨by omega, by omega⟩
theorem xt_le (k : Kd) (s : Int) : xt k s ≤ 13 := (bse_le k s).2
/-- The words of a book of lengths. -/
def wsL (L : List Int) : List (Nat × Nat) := Bk.wsOf (Bk.seq (Bk.rowsL L) 17) L.length
theorem wsL_length (L : List Int) : (wsL L).length = L.length := Bk.wsOf_length _ _
/-- A symbol's code. -/
def wd (L : List Int) (s : Int) : List Bool := Bt.dg true (Bk.wAt (wsL L) s).1 (Bk.wAt (wsL L) s).2
theorem w_good (l : List Int) (h : Cn.freeB l = true) (s : Nat) (hs : s < l.length) (hp : 0 < l.getD s 0) :
    ∃ m i, m < 17 ∧ i < (Bk.rowsL l m).length ∧ (Bk.it (Bk.rowsL l) m i).s = s ∧ l.getD s 0 = (m : Int) ∧ 0 < m ∧ Bk.wAt (wsL l) (s : Int) = ((Bk.it (Bk.rowsL l) m i).c, m) ∧ (Bk.it (Bk.rowsL l) m i).c < 2 ^ m := by
  have h1 := h
  simp only [Cn.freeB, Bool.and_eq_true] at h1
  have hf := (Cn.form_mem l h1.1 (l.getD s 0) (by simp [List.getD, List.getElem?_eq_getElem hs])).2
  obtain ⟨m, i, hm, hi, e1, e2, e3⟩ := Bk.look_some l s hs ⟨hp, hf⟩
  refine ⟨m, i, hm, hi, e1, e2, by omega, ?_, Bk.it_lt (Bk.rowsL l) (Bk.good_of l h) m i (by omega) hi⟩
  unfold Bk.wAt
  rw [if_pos (by omega), Int.toNat_natCast]
  have e : (wsL l).getD s (0, 0) = Bk.look (Bk.seq (Bk.rowsL l) 17) s := by simp [wsL, Bk.wsOf, List.getD, List.getElem?_range hs]
  rw [e, e3]; rfl
theorem wd_length (l : List Int) (h : Cn.freeB l = true) (s : Nat) (hs : s < l.length) (hp : 0 < l.getD s 0) : ((wd l (s : Int)).length : Int) = l.getD s 0 := by
  obtain ⟨m, i, _, _, _, e2, _, e3, _⟩ := w_good l h s hs hp
  unfold wd
  rw [e3, Bt.dg_length, e2]
/-- A symbol, and the number in its extra bits. -/
def syB (k : Kd) (L : List Int) (s : Int) (z : Nat) : List Bool := wd L s ++ Bt.dg false z (xt k s)
/-- A length or a distance by its symbol. -/
def mtB (k : Kd) (L : List Int) (s : Int) (n : Nat) : List Bool := syB k L s (n - (bse k s).1)
def tkB (L D : List Int) (t : Tok) : List Bool :=
  if t.1 = 0 then syB .lit L t.2 0 else mtB .lit L ((257 + Sy.lsy t.1.toNat : Nat) : Int) t.1.toNat ++ mtB .dst D ((Sy.dsy t.2.toNat : Nat) : Int) t.2.toNat
/-- All symbols' bits. -/
def tot (k : Kd) (C L : List Int) : Nat → Int
  | 0 => 0
  | n + 1 => tot k C L n + C.getD n 0 * (L.getD n 0 + (xt k (n : Int) : Nat))
/-- Lengths without the zeros at their end, so many of them at least. -/
def shn (l : List Int) (least : Nat) : Nat → Nat
  | 0 => 0
  | n + 1 => if least < n + 1 ∧ l.getD n 0 = 0 then shn l least n else n + 1
def short (l : List Int) (least : Nat) : List Int := l.take (shn l least l.length)
theorem shn_le (l : List Int) (least : Nat) : ∀ n, shn l least n ≤ n
  | 0 => Nat.le_refl _
  | n + 1 => by
    rw [shn]
    split
    · have := shn_le l least n; omega
    · omega
theorem shn_ge (l : List Int) (least : Nat) : ∀ n, least ≤ n → least ≤ shn l least n
  | 0, h => by rw [shn]; exact h
  | n + 1, h => by
    rw [shn]
    split
    · exact shn_ge l least n (by omega)
    · exact h
/-- How often each run's symbol stands. -/
def rc (rs : List Tok) (k : Nat) : List Int := (rs.take k).foldl (fun c t => Pa.bmp c t.1.toNat) (List.replicate 19 0)
theorem rc_next (rs : List Tok) (k : Nat) (h : k < rs.length) : rc rs (k + 1) = Pa.bmp (rc rs k) (rs.getD k (0, 0)).1.toNat := by
  unfold rc
  rw [List.take_succ_eq_append_getElem h, List.foldl_append]
  simp [List.getD, List.getElem?_eq_getElem h]
theorem rc_in (rs : List Tok) : ∀ k, k ≤ rs.length → Pa.In 19 (rc rs k) (k + 1)
  | 0, _ => Pa.in_zs 19
  | k + 1, h => by rw [rc_next rs k (by omega)]; exact (rc_in rs k (by omega)).bmp
/-- The order of the lengths of runs' symbols. -/
def order : List Nat := [16, 17, 18, 0, 8, 7, 9, 6, 10, 5, 11, 4, 12, 3, 13, 2, 14, 1, 15]
/-- A header: literal lengths, distance lengths, runs, the lengths of their symbols, and those in order. -/
structure Hd where
  ll : List Int
  dl : List Int
  rs : List Tok
  C : List Int
  R : List Int
  own : List Int
def hdOf (L D : List Int) (rs : List Tok) : Hd :=
  let C := rc rs rs.length
  let R := cmpl C 7
  ⟨short L 257, short D 1, rs, C, R, short (order.map fun i => R.getD i 0) 4⟩
def hdBits (h : Hd) : List Bool :=
  Bt.dg false (h.ll.length - 257) 5 ++ (Bt.dg false (h.dl.length - 1) 5 ++ (Bt.dg false (h.own.length - 4) 4 ++ (h.own.flatMap (fun x => Bt.dg false x.toNat 3) ++ h.rs.flatMap (fun t => syB .run h.R t.1 t.2.toNat))))
def hdLen (h : Hd) : Int := 5 + 5 + 4 + 3 * (h.own.length : Int) + tot .run h.C h.R 19
/-- What follows the kind. -/
def LL (kind : Nat) (ts : List Tok) : List Int := if kind = 2 then cmpl (Pa.cts ts ts.length).1 15 else litL
def DL (kind : Nat) (ts : List Tok) : List Int := if kind = 2 then Mg.lensOf (Pa.cts ts ts.length).2 15 else dstL
/-- The header of a block of kind 2. -/
def hdR (ts : List Tok) : List Tok := (Bl.ru [] (short (LL 2 ts) 257 ++ short (DL 2 ts) 1)).getD []
def hdT (ts : List Tok) : Hd := hdOf (LL 2 ts) (DL 2 ts) (hdR ts)
theorem hdT_eq (ts : List Tok) : hdT ts = hdOf (LL 2 ts) (DL 2 ts) (hdR ts) := rfl
theorem hdR_eq (ts : List Tok) : hdR ts = (Bl.ru [] (short (LL 2 ts) 257 ++ short (DL 2 ts) 1)).getD [] := rfl
theorem hdOf_rs (L D : List Int) (rs : List Tok) : (hdOf L D rs).rs = rs := rfl
theorem hdT_rs (ts : List Tok) : (hdT ts).rs = hdR ts := by rw [hdT_eq]; exact hdOf_rs _ _ _
def bdBits (kind : Nat) (ts : List Tok) : List Bool :=
  (if kind = 2 then hdBits (hdT ts) else []) ++ (ts.flatMap (tkB (LL kind ts) (DL kind ts)) ++ wd (LL kind ts) 256)
def bdLen (kind : Nat) (ts : List Tok) : Int :=
  (if kind = 2 then hdLen (hdT ts) else 0) + tot .lit (Pa.cts ts ts.length).1 (LL kind ts) 286 + tot .dst (Pa.cts ts ts.length).2 (DL kind ts) 30
/-- How many bits a block has. -/
def szB (kind : Nat) (ts : List Tok) (n : Nat) : Int := if kind = 0 then 42 + 8 * (n : Int) else 3 + bdLen kind ts
end Bc
end Go.Proofs.YtpoilaappcjbeaaGreatDoor
end

section
namespace Go.Proofs.YtpoilaappcjbeaaGreatDoor
open Go.RowKit

theorem Is.pre {k : IntKind} {w : World} {a : Option Addr} {len cap : Nat} {l : List Int} (h : Is k w a len cap l) (n : Nat) (hn : n ≤ len) : Is k w a n cap (l.take n) := by
  have h1 := h.hlen
  have h2 := h.hle
  refine ⟨by simp; omega, by omega, h.hnil, fun i hi => ?_, fun x hx => h.wf x (List.mem_of_mem_take hx)⟩
  obtain ⟨b, off, e, hb, hc⟩ := h.at' i (by omega)
  refine ⟨b, off, e, hb, ?_⟩
  rw [hc]
  simp [List.getD, List.getElem?_take, hi]
theorem Is.suf {k : IntKind} {w : World} {b off len cap : Nat} {l : List Int} (h : Is k w (some ⟨b, off, none⟩) len cap l) (n : Nat) (hn : n ≤ len) : Is k w (some ⟨b, off + n, none⟩) (len - n) (cap - n) (l.drop n) := by
  have h1 := h.hlen
  have h2 := h.hle
  refine ⟨by simp; omega, by omega, fun e => (by cases e), fun i hi => ?_, fun x hx => h.wf x (List.mem_of_mem_drop hx)⟩
  obtain ⟨b', off', e, hb, hc⟩ := h.at' (n + i) (by omega)
  simp only [Option.some.injEq, Addr.mk.injEq, and_true] at e
  obtain ⟨rfl, rfl⟩ := e
  refine ⟨b, off + n, rfl, hb, ?_⟩
  rw [Nat.add_assoc, hc]
  simp [List.getD, List.getElem?_drop]
theorem Is.none0 {k : IntKind} (w : World) (a : Option Addr) (cap : Nat) (h : a = none → cap = 0) : Is k w a 0 cap [] := ⟨rfl, Nat.zero_le _, h, fun i hi => absurd hi (by omega), fun n hn => by simp at hn⟩
end Go.Proofs.YtpoilaappcjbeaaGreatDoor
end

section
namespace Go.Proofs.YtpoilaappcjbeaaGreatDoor
open Go.RowKit

namespace Bc
set_option maxHeartbeats 1000000 in
theorem shorten_any (a : Option Addr) (n c : Nat) (l : List Int) (least : Nat) (w : World) (h : Is .i64 w a n c l) (hn : n ≤ 1000000) (hle : least ≤ 1000000) :
    Calls Tryz.prog 84 #[.slice a n c, .int .i64 (least : Nat)] w fun e w' => e = .returned (.slice a (shn l least n) c) ∧ w = w' := by
  obtain ⟨R, hR⟩ : ∃ R, shn l least n = R := ⟨_, rfl⟩
  rw [hR]
  have HR := Lib.hid hR
  have H := Lib.hid h
  have hcap := h.hle
  clear h hR
  go_enter Tryz.func84, Tryz.ntmps84
  go_wp2
  go_loop [5] (fun sv => ∃ k : Nat, k ≤ n ∧ sv = .int .i64 k ∧ Hid (shn l least k = R)) (fun sv => (intOf sv).toNat)
  case atStart => exact ⟨n, Nat.le_refl _, rfl, HR⟩
  case round =>
    obtain ⟨k, hk, rfl, HK⟩ := hrel
    clear HR
    by_cases hgt : least < k
    · have d1 : decide (least < k) = true := decide_eq_true hgt
      obtain ⟨j, rfl⟩ : ∃ j, k = j + 1 := ⟨k - 1, by omega⟩
      obtain ⟨b, off, rfl, hb, hcell⟩ := H.out.at' j (by omega)
      have HS : Hid ((if least < j + 1 ∧ l.getD j 0 = 0 then shn l least j else j + 1) = R) := Lib.hid (by rw [← HK.out, shn])
      have e1 : ((j + 1 : Nat) : Int) - 1 = (j : Int) := by omega
      clear HK
      generalize l.getD j 0 = z at *
      by_cases hz : z = 0
      · subst hz
        have HS2 : Hid (shn l least j = R) := Lib.hid (by rw [← HS.out, if_pos ⟨hgt, rfl⟩])
        have hj1 : j < n := by omega
        clear HS
        go_wp2
        go_round
        case rel => exact ⟨j, by omega, by first | rfl | exact int_eq e1, HS2⟩
        case measure => simp [intOf]
      · have dz : (z == 0) = false := by simpa using hz
        have HS2 : Hid (j + 1 = R) := Lib.hid (by rw [← HS.out, if_neg (fun h => hz h.2)])
        have hj1 : j < n := by omega
        clear HS hz
        go_wp2
        go_ret
        exact ⟨by rw [← HS2.out]; rfl, rfl⟩
    · have d1 : decide (least < k) = false := decide_eq_false hgt
      have HS2 : Hid (k = R) := Lib.hid (by
        rw [← HK.out]
        cases k with
        | zero => rfl
        | succ j => rw [shn, if_neg (fun h => hgt h.1)])
      clear HK
      go_wp2
      go_ret
      exact ⟨by rw [← HS2.out]; rfl, rfl⟩
end Bc
end Go.Proofs.YtpoilaappcjbeaaGreatDoor
end

section
namespace Go.Proofs.YtpoilaappcjbeaaGreatDoor
open Go.RowKit

theorem errno_shr (n : Nat) (hn : n ≤ 16) : (65536 : Int) / 2 ^ n = ((65536 / 2 ^ n : Nat) : Int) := by rw [Bt.pow_cast]; exact (Int.natCast_ediv 65536 (2 ^ n)).symm
def FreePost (w : World) (l : List Int) (e : Ending) (w' : World) : Prop :=
  e = .returned (.tuple (if Cn.freeB l then #[.int .i64 (65536 - (Cn.sum l : Int)), .nilIface] else #[.int .i64 0, .iface 51 (.int .i64 6)])) ∧ w = w'
theorem free_no (w : World) (l : List Int) (h : Cn.freeB l = false) : FreePost w l (.returned (.tuple #[.int .i64 0, .iface 51 (.int .i64 6)])) w := by
  unfold FreePost; rw [h]; exact ⟨rfl, rfl⟩
theorem free_yes (w : World) (l : List Int) (h : Cn.freeB l = true) (n : Int) (hn : n = 65536 - (Cn.sum l : Int)) : FreePost w l (.returned (.tuple #[.int .i64 n, .nilIface])) w := by
  subst hn; unfold FreePost; rw [h]; exact ⟨rfl, rfl⟩
set_option maxHeartbeats 1000000 in
theorem free_any (a : Option Addr) (len cap : Nat) (l : List Int) (w : World) (h : Is .i64 w a len cap l) (hr : len ≤ 140737488355328) :
    Calls Tryz.prog 106 #[.slice a len cap] w (FreePost w l) := by
  have HL := Lib.hid h.hlen
  have H := Lib.hid h
  clear h
  by_cases hbig : 512 < len
  · have d1 : decide (512 < (len : Int)) = true := by simp; omega
    have hf := Cn.form_big l (by rw [HL.out]; exact hbig)
    have HX := Lib.hid (free_no w l (by simp [Cn.freeB, hf]))
    clear hf
    go_enter Tryz.func106, Tryz.ntmps106
    go_wp2
    go_ret2
    exact HX.out
  · have d1 : decide (512 < (len : Int)) = false := by simp; omega
    go_enter Tryz.func106, Tryz.ntmps106
    go_wp2
    go_loop [4, 13] (fun s i => ∃ k : Nat, k ≤ len ∧ i = .int .i64 k ∧ s = .int .i64 (65536 - (Cn.sum (l.take k) : Int)) ∧ Hid (∀ j, j < k → 0 ≤ l.getD j 0 ∧ l.getD j 0 ≤ 16)) (fun _ i => len - (intOf i).toNat)
    case atStart => exact ⟨0, by omega, rfl, rfl, Lib.hid (fun j hj => absurd hj (by omega))⟩
    case round =>
      obtain ⟨k, hk, rfl, rfl, HG⟩ := hrel
      have hsum : Cn.sum (l.take k) ≤ 33554432 := by have := Cn.sum_le (l.take k); have h2 : (l.take k).length ≤ 512 := by simp; omega
                                                     omega
      by_cases hlt : k < len
      · obtain ⟨b, off, rfl, hb, hcell⟩ := H.out.at' k hlt
        have hkl : k < l.length := by rw [HL.out]; exact hlt
        have HS := Lib.hid (show Cn.sum (l.take (k + 1)) = Cn.sum (l.take k) + Cn.part (l.getD k 0) by rw [ints_snoc l k hkl, Cn.sum_snoc])
        have HB := Lib.hid (Cn.form_bad l k hkl)
        have HG2 := Lib.hid (show 0 ≤ l.getD k 0 ∧ l.getD k 0 ≤ 16 → ∀ j, j < k + 1 → 0 ≤ l.getD j 0 ∧ l.getD j 0 ≤ 16 from fun hx j hj => by
          by_cases hjk : j < k
          · exact HG.out j hjk
          · obtain rfl : j = k := by omega
            exact hx)
        clear hkl
        generalize hz : l.getD k 0 = z at *
        have HZ := Lib.hid hz
        clear hz
        generalize Cn.sum (l.take k) = s at *
        by_cases hneg : z < 0
        · have dz : decide (z < 0) = true := by simpa using hneg
          have HX := Lib.hid (free_no w l (by simp [Cn.freeB, HB.out (.inl hneg)]))
          clear hneg
          go_wp2
          go_ret2
          exact HX.out
        · have dz : decide (z < 0) = false := by simpa using hneg
          by_cases hhi : 16 < z
          · have dh : decide (16 < z) = true := by simpa using hhi
            have HX := Lib.hid (free_no w l (by simp [Cn.freeB, HB.out (.inr hhi)]))
            clear hneg hhi
            go_wp2
            go_ret2
            exact HX.out
          · have dh : decide (16 < z) = false := by simpa using hhi
            have HG3 := Lib.hid (HG2.out ⟨by omega, by omega⟩)
            by_cases hz0 : z = 0
            · subst hz0
              have e0 : Cn.part 0 = 0 := rfl
              clear hneg hhi
              go_wp2
              go_round
              case rel => exact ⟨k + 1, by omega, by go_num, int_eq (by rw [HS.out, e0]; rfl), HG3⟩
              case measure => simp [intOf]; omega
            · obtain ⟨n, rfl⟩ := Int.eq_ofNat_of_zero_le (show 0 ≤ z by omega)
              have hn : n ≤ 16 := by omega
              have dpos : decide (0 < n) = true := by simp; omega
              have dpos2 : 0 < n := by omega
              have dn0 : decide ((n : Int) < 0) = false := by simp
              have ep : Cn.part (n : Int) = 65536 / 2 ^ n := by unfold Cn.part; rw [if_neg (by omega)]; rfl
              have hq : 65536 / 2 ^ n ≤ 65536 := Nat.div_le_self _ _
              have HN := Lib.hid (errno_shr n hn)
              have EP := Lib.hid ep
              clear hneg hhi hz0 ep
              go_wp2
              go_round
              case rel =>
                refine ⟨k + 1, by omega, by go_num, int_eq ?_, HG3⟩
                rw [HS.out, EP.out, HN.out]
                generalize 65536 / 2 ^ n = q at *
                rw [IntWalk.wrap64_in _ ⟨by omega, by omega⟩]
                omega
              case measure => simp [intOf]; omega
      · obtain rfl : len = k := by omega
        have hfull : l.take len = l := List.take_of_length_le (by rw [HL.out]; exact Nat.le_refl _)
        rw [hfull] at hsum
        have hf := Cn.form_good l (by rw [HL.out]; omega) (fun j hj => HG.out j (by rw [HL.out] at hj; exact hj))
        have HX := Lib.hid (show Cn.freeB l = decide (Cn.sum l ≤ 65536) by simp [Cn.freeB, hf])
        have HFU := Lib.hid hfull
        clear hf hfull HG
        rw [HFU.out]
        by_cases hs : Cn.sum l ≤ 65536
        · have ds : decide ((65536 : Int) - (Cn.sum l : Int) < 0) = false := by simp; omega
          have HD := Lib.hid (free_yes w l (by rw [HX.out]; simpa using hs) _ rfl)
          clear hs
          generalize Cn.sum l = s at *
          go_wp2
          go_ret2
          exact HD.out
        · have ds : decide ((65536 : Int) - (Cn.sum l : Int) < 0) = true := by simp; omega
          have HD := Lib.hid (free_no w l (by rw [HX.out]; simpa using hs))
          clear hs
          generalize Cn.sum l = s at *
          go_wp2
          go_ret2
          exact HD.out
end Go.Proofs.YtpoilaappcjbeaaGreatDoor
end

section
namespace Go.Proofs.YtpoilaappcjbeaaGreatDoor
open Go.RowKit

namespace Bk
/-- The numbers below k, then 0. -/
def upto (n k : Nat) : List Int := (List.range n).map fun i => if i < k then (i : Int) else 0
theorem upto_length (n k : Nat) : (upto n k).length = n := by simp [upto]
theorem upto_zero (n : Nat) : upto n 0 = List.replicate n 0 := by
  rw [List.eq_replicate_iff]
  refine ⟨upto_length _ _, fun b hb => ?_⟩
  simp only [upto, List.mem_map] at hb
  obtain ⟨i, _, rfl⟩ := hb
  simp
theorem upto_set (n k : Nat) : (upto n k).set k (k : Int) = upto n (k + 1) := by
  apply List.ext_getElem?
  intro i
  rw [List.getElem?_set, upto_length]
  by_cases hi : i < n
  · have e1 : ∀ m, (upto n m)[i]? = some (if i < m then (i : Int) else 0) := fun m => by simp [upto, List.getElem?_range hi]
    rw [e1, e1]
    by_cases h : k = i
    · subst h; rw [if_pos rfl, if_pos hi, if_pos (by omega)]
    · rw [if_neg h]
      by_cases h2 : i < k
      · rw [if_pos h2, if_pos (by omega)]
      · rw [if_neg h2, if_neg (by omega)]
  · have e1 : ∀ m, (upto n m)[i]? = none := fun m => by rw [List.getElem?_eq_none]; rw [upto_length]; omega
    rw [e1, e1]
    split
    · rw [if_neg (by omega)]
    · rfl
theorem upto_full (n : Nat) : upto n n = sy (List.range n) := by
  unfold upto sy
  apply List.map_congr_left
  intro i hi
  rw [if_pos (List.mem_range.1 hi)]
def BookPost (w : World) (l : List Int) (e : Ending) (w' : World) : Prop :=
  (Cn.freeB l = true ∧ ∃ g, e = .returned (.tuple #[.pointer (some ⟨g, 0, none⟩), .nilIface]) ∧ Book w' w'.heap.size g (rowsL l) (wsOf (seq (rowsL l) 17) l.length) ∧ Below w.heap.size w w' ∧ w.heap.size ≤ g) ∨
  (Cn.freeB l = false ∧ e = .returned (.tuple #[.pointer none, .iface 51 (.int .i64 6)]) ∧ Below w.heap.size w w')
set_option maxRecDepth 100000 in
theorem book_any (a : Option Addr) (len cap : Nat) (l : List Int) (w : World) (h : Is .i64 w a len cap l) (hr : len ≤ 140737488355328) :
    Calls Tryz.prog 98 #[.slice a len cap] w (BookPost w l) := by
  have HL := Lib.hid h.hlen
  have H := Lib.hid h
  clear h
  go_enter Tryz.func98, Tryz.ntmps98
  go_wp2_with fail
  refine (free_any a len cap l _ H.out hr).mono ?_
  rintro e w' ⟨rfl, rfl⟩
  cases hf : Cn.freeB l
  · have HF := Lib.hid hf
    clear hf
    simp only [Bool.false_eq_true, if_false]
    go_wp2
    go_ret2
    exact .inr ⟨HF.out, rfl, Below.refl _ _⟩
  · have HF := Lib.hid hf
    have hl5 : len ≤ 512 := by
      simp only [Cn.freeB, Cn.formB, Bool.and_eq_true, decide_eq_true_eq] at hf
      have := hf.1.1; rw [HL.out] at this; exact this
    clear hf
    simp only [if_true]
    go_wp2_with (at_make; refine wpl_make_full tyI rfl _ _ rfl w.heap.size .i64 .i64 _ _ len rfl rfl rfl rfl (by omega) (by omega) (Nat.le_refl _) ?_)
    intro w1 own1 hg1
    have hb1 : Below w.heap.size w w1 := (Below.refl _ _).grown hg1 (Nat.le_refl _) (by simp)
    have hz1 := hb1.size
    have own2 : w1.ownsRow w.heap.size 3 1 (.slice (some ⟨w.heap.size, 0, none⟩) len len) len (ivs (upto len 0)) := by rw [upto_zero]; have e := made_ints1 len; rw [Nat.mul_one] at e; rw [e] at own1; exact own1
    have HO := Lib.hid own2
    clear own1 own2 hg1
    generalize hq : w.heap.size = q at *
    have HQ := Lib.hid hq
    clear hq
    go_wp2
    go_loopw [21] (fun i wr => ∃ k : Nat, k ≤ len ∧ i = .int .i64 k ∧ Hid (wr.ownsRow q 3 1 (.slice (some ⟨q, 0, none⟩) len len) len (ivs (upto len k))) ∧ Hid (Below q w wr)) (fun i _ => len - (intOf i).toNat)
    case atStart => exact ⟨0, by omega, rfl, HO, Lib.hid hb1⟩
    case round =>
      obtain ⟨k, hk, rfl, HK, HB⟩ := hrel
      by_cases hlt : k < len
      · have c1 : ∃ z, wr.cell? ⟨q, k, none⟩ = some z := ⟨_, by rw [HK.out.cellAt k (by omega), ivs_get _ _ (by rw [upto_length]; exact hlt)]⟩
        obtain ⟨z, c1⟩ := c1
        have HS := Lib.hid (own_set HK.out k (k : Int))
        rw [upto_set] at HS
        have HB2 := Lib.hid (HB.out.setCell (p := ⟨q, k, none⟩) (Nat.le_refl _) (.int .i64 (k : Nat)))
        have f1 : wr.frozen? ⟨q, k, none⟩ = false := by
          rcases HK.out.2 with ⟨h1, _⟩ | ⟨g2, cap2, cur, h1, _, hg, _⟩
          · simp at h1
          · simp only [Value.slice.injEq, Option.some.injEq, Addr.mk.injEq, and_true, true_and] at h1
            obtain ⟨rfl, rfl⟩ := h1
            exact frozen_of_row _ _ _ _ _ hg
        go_wp2
        go_roundw
        case rel => exact ⟨k + 1, by omega, by go_num, HS, HB2⟩
        case measure => simp [intOf]; omega
      · obtain rfl : len = k := by omega
        rw [upto_full] at HK
        have hw : Wf (sy (List.range len)) := fun n hn => by
          simp only [sy, List.mem_map, List.mem_range] at hn
          obtain ⟨i, hi, rfl⟩ := hn
          simp only [Lit.wf, IntKind.min, IntKind.max, IntKind.signed, IntKind.bits, Bool.and_eq_true, decide_eq_true_eq, if_true]
          simp; omega
        have his := is_of_own HK.out hw 0 len len (by omega) (Nat.le_refl _)
        rw [List.drop_zero, List.take_of_length_le (by rw [sy_length, List.length_range]; exact Nat.le_refl _)] at his
        have HI := Lib.hid his
        have H2 := Lib.hid (H.out.mono (HB.out.mono (by rw [HQ.out]; exact Nat.le_refl _)))
        have hz : ∀ k, k < len → 0 ≤ l.getD k 0 ∧ l.getD k 0 ≤ 16 := fun k hk => by
          have h1 := HF.out
          simp only [Cn.freeB, Bool.and_eq_true] at h1
          exact Cn.form_mem l h1.1 _ (by have : k < l.length := by rw [HL.out]; exact hk
                                         simp [List.getD, List.getElem?_eq_getElem this])
        have HZ := Lib.hid hz
        clear hw his hz
        go_wp2_with fail
        refine (newBook_any _ len len (List.range len) a len cap l wr HI.out H2.out (by omega) (by omega) (fun s hs => List.mem_range.1 hs) HZ.out (by have := good_of l HF.out; unfold rowsL at this; rw [HL.out] at this; exact this)).mono ?_
        rintro e w5 ⟨g, fs, vs, wv, rfl, hfs, hnb, hb5⟩
        have hgq := hnb.hg
        have hbq := HB.out.size
        have HP : Hid (BookPost w l (.returned (.tuple #[.pointer (some ⟨g, 0, none⟩), .nilIface])) w5) := Lib.hid (by
          have e1 : rowsOf l (List.range len) = rowsL l := by unfold rowsL; rw [HL.out]
          rw [e1] at hfs hnb
          refine .inl ⟨HF.out, g, rfl, Book.of hnb hfs, ?_, ?_⟩
          · rw [HQ.out]; exact HB.out.trans (hb5.mono (by rw [← HQ.out]; exact hbq))
          · rw [HQ.out]; exact Nat.le_trans (by rw [← HQ.out]; exact hbq) hgq)
        clear hnb hfs hb5 hgq hbq
        go_wp2
        go_ret2
        exact HP.out
end Bk
end Go.Proofs.YtpoilaappcjbeaaGreatDoor
end

section
namespace Go.Proofs.YtpoilaappcjbeaaGreatDoor
open Go.RowKit

namespace Bk
def BookLow (w : World) (l : List Int) (e : Ending) (w' : World) : Prop :=
  (Cn.freeB l = true ∧ ∃ (g : Nat) (fs : Nat → Int) (vs : Nat → Value) (wv : Value), e = .returned (.tuple #[.pointer (some ⟨g, 0, none⟩), .nilIface]) ∧ (∀ n, n < 17 → fs n = (fst (rowsL l) n : Nat)) ∧ NB w' w.heap.size g fs vs wv (nx (rowsL l) 17 : Nat) (rowsL l) (wsOf (seq (rowsL l) 17) l.length) ∧ Below w.heap.size w w') ∨
  (Cn.freeB l = false ∧ e = .returned (.tuple #[.pointer none, .iface 51 (.int .i64 6)]) ∧ Below w.heap.size w w')
set_option maxRecDepth 100000 in
theorem book_low (a : Option Addr) (len cap : Nat) (l : List Int) (w : World) (h : Is .i64 w a len cap l) (hr : len ≤ 140737488355328) :
    Calls Tryz.prog 98 #[.slice a len cap] w (BookLow w l) := by
  have HL := Lib.hid h.hlen
  have H := Lib.hid h
  clear h
  go_enter Tryz.func98, Tryz.ntmps98
  go_wp2_with fail
  refine (free_any a len cap l _ H.out hr).mono ?_
  rintro e w' ⟨rfl, rfl⟩
  cases hf : Cn.freeB l
  · have HF := Lib.hid hf
    clear hf
    simp only [Bool.false_eq_true, if_false]
    go_wp2
    go_ret2
    exact .inr ⟨HF.out, rfl, Below.refl _ _⟩
  · have HF := Lib.hid hf
    have hl5 : len ≤ 512 := by
      simp only [Cn.freeB, Cn.formB, Bool.and_eq_true, decide_eq_true_eq] at hf
      have := hf.1.1; rw [HL.out] at this; exact this
    clear hf
    simp only [if_true]
    go_wp2_with (at_make; refine wpl_make_full tyI rfl _ _ rfl w.heap.size .i64 .i64 _ _ len rfl rfl rfl rfl (by omega) (by omega) (Nat.le_refl _) ?_)
    intro w1 own1 hg1
    have hb1 : Below w.heap.size w w1 := (Below.refl _ _).grown hg1 (Nat.le_refl _) (by simp)
    have hz1 := hb1.size
    have own2 : w1.ownsRow w.heap.size 3 1 (.slice (some ⟨w.heap.size, 0, none⟩) len len) len (ivs (upto len 0)) := by rw [upto_zero]; have e := made_ints1 len; rw [Nat.mul_one] at e; rw [e] at own1; exact own1
    have HO := Lib.hid own2
    clear own1 own2 hg1
    generalize hq : w.heap.size = q at *
    have HQ := Lib.hid hq
    clear hq
    go_wp2
    go_loopw [21] (fun i wr => ∃ k : Nat, k ≤ len ∧ i = .int .i64 k ∧ Hid (wr.ownsRow q 3 1 (.slice (some ⟨q, 0, none⟩) len len) len (ivs (upto len k))) ∧ Hid (Below q w wr)) (fun i _ => len - (intOf i).toNat)
    case atStart => exact ⟨0, by omega, rfl, HO, Lib.hid hb1⟩
    case round =>
      obtain ⟨k, hk, rfl, HK, HB⟩ := hrel
      by_cases hlt : k < len
      · have c1 : ∃ z, wr.cell? ⟨q, k, none⟩ = some z := ⟨_, by rw [HK.out.cellAt k (by omega), ivs_get _ _ (by rw [upto_length]; exact hlt)]⟩
        obtain ⟨z, c1⟩ := c1
        have HS := Lib.hid (own_set HK.out k (k : Int))
        rw [upto_set] at HS
        have HB2 := Lib.hid (HB.out.setCell (p := ⟨q, k, none⟩) (Nat.le_refl _) (.int .i64 (k : Nat)))
        have f1 : wr.frozen? ⟨q, k, none⟩ = false := by
          rcases HK.out.2 with ⟨h1, _⟩ | ⟨g2, cap2, cur, h1, _, hg, _⟩
          · simp at h1
          · simp only [Value.slice.injEq, Option.some.injEq, Addr.mk.injEq, and_true, true_and] at h1
            obtain ⟨rfl, rfl⟩ := h1
            exact frozen_of_row _ _ _ _ _ hg
        go_wp2
        go_roundw
        case rel => exact ⟨k + 1, by omega, by go_num, HS, HB2⟩
        case measure => simp [intOf]; omega
      · obtain rfl : len = k := by omega
        rw [upto_full] at HK
        have hw : Wf (sy (List.range len)) := fun n hn => by
          simp only [sy, List.mem_map, List.mem_range] at hn
          obtain ⟨i, hi, rfl⟩ := hn
          simp only [Lit.wf, IntKind.min, IntKind.max, IntKind.signed, IntKind.bits, Bool.and_eq_true, decide_eq_true_eq, if_true]
          simp; omega
        have his := is_of_own HK.out hw 0 len len (by omega) (Nat.le_refl _)
        rw [List.drop_zero, List.take_of_length_le (by rw [sy_length, List.length_range]; exact Nat.le_refl _)] at his
        have HI := Lib.hid his
        have H2 := Lib.hid (H.out.mono (HB.out.mono (by rw [HQ.out]; exact Nat.le_refl _)))
        have hz : ∀ k, k < len → 0 ≤ l.getD k 0 ∧ l.getD k 0 ≤ 16 := fun k hk => by
          have h1 := HF.out
          simp only [Cn.freeB, Bool.and_eq_true] at h1
          exact Cn.form_mem l h1.1 _ (by have : k < l.length := by rw [HL.out]; exact hk
                                         simp [List.getD, List.getElem?_eq_getElem this])
        have HZ := Lib.hid hz
        clear hw his hz
        go_wp2_with fail
        refine (newBook_any _ len len (List.range len) a len cap l wr HI.out H2.out (by omega) (by omega) (fun s hs => List.mem_range.1 hs) HZ.out (by have := good_of l HF.out; unfold rowsL at this; rw [HL.out] at this; exact this)).mono ?_
        rintro e w5 ⟨g, fs, vs, wv, rfl, hfs, hnb, hb5⟩
        have hgq := hnb.hg
        have hbq := HB.out.size
        have HP : Hid (BookLow w l (.returned (.tuple #[.pointer (some ⟨g, 0, none⟩), .nilIface])) w5) := Lib.hid (by
          have e1 : rowsOf l (List.range len) = rowsL l := by unfold rowsL; rw [HL.out]
          rw [e1] at hfs hnb
          refine .inl ⟨HF.out, g, fs, vs, wv, rfl, hfs, ?_, ?_⟩
          · rw [HQ.out]; exact hnb.base (by rw [← HQ.out]; exact hbq)
          · rw [HQ.out]; exact HB.out.trans (hb5.mono (by rw [← HQ.out]; exact hbq)))
        clear hnb hfs hb5 hgq hbq
        go_wp2
        go_ret2
        exact HP.out
end Bk
end Go.Proofs.YtpoilaappcjbeaaGreatDoor
end

section
namespace Go.Proofs.YtpoilaappcjbeaaGreatDoor
open Go.RowKit
theorem start_any (p g : Nat) (w : World) (hp : p < 30) (hg : g = 2 ∨ g = 4) :
    Calls Tryz.prog 99 #[.int .i64 (p : Nat), .int .i64 (g : Nat)] w fun e w' => e = .returned (.tuple #[.int .i64 ((Sy.st p g).1 : Nat), .int .i64 ((Sy.st p g).2 : Nat)]) ∧ w = w' := by
  by_cases hpg : p < g
  · have e : Sy.st p g = (p, 0) := by unfold Sy.st; rw [if_pos hpg]
    rw [e]
    have d0 : decide (p < g) = true := by simpa using hpg
    go_enter Tryz.func99, Tryz.ntmps99
    go_wp2
    go_ret2
    exact ⟨rfl, rfl⟩
  · have e : Sy.st p g = ((g + p % g) * 2 ^ (p / g - 1), p / g - 1) := by unfold Sy.st; rw [if_neg hpg]
    rw [e]
    have d0 : decide (p < g) = false := by simpa using hpg
    have hq : p / g < 15 := by rcases hg with rfl | rfl <;> omega
    have hq1 : 1 ≤ p / g := by rcases hg with rfl | rfl <;> omega
    have hr : p % g < 4 := by rcases hg with rfl | rfl <;> omega
    have hg0 : ((g : Int) == 0) = false := by rcases hg with rfl | rfl <;> rfl
    have hp2 : 2 ^ (p / g - 1) ≤ 2 ^ 14 := Nat.pow_le_pow_right (by omega) (by omega)
    have hb : (g + p % g) * 2 ^ (p / g - 1) ≤ 8 * 16384 := Nat.mul_le_mul (by omega) hp2
    have hw : wrap64 (((g : Int) + (p : Int) % (g : Int)) * 2 ^ (p / g - 1)) = (((g + p % g) * 2 ^ (p / g - 1) : Nat) : Int) := by
      rw [IntWalk.wrap64_in]
      · simp
      · have e2 : ((g : Int) + (p : Int) % (g : Int)) * 2 ^ (p / g - 1) = (((g + p % g) * 2 ^ (p / g - 1) : Nat) : Int) := by simp
        rw [e2]; omega
    have hs : (p : Int) / (g : Int) - 1 = ((p / g - 1 : Nat) : Int) := by omega
    go_enter Tryz.func99, Tryz.ntmps99
    go_wp2
    go_ret2
    exact ⟨by rw [hw]; rfl, rfl⟩
theorem lengthBase_any (s : Int) (w : World) (hw : (Lit.int .i64 s).wf = true) :
    Calls Tryz.prog 77 #[.int .i64 s] w fun e w' => e = .returned (Sy.lbV s) ∧ w = w' := by
  go_enter Tryz.func77, Tryz.ntmps77
  by_cases h1 : s < 257
  · have e : Sy.lbV s = .tuple #[.int .i64 0, .int .i64 0, .bool false] := by unfold Sy.lbV; rw [if_neg (by omega)]
    rw [e]
    have d1 : decide (s < 257) = true := by simpa using h1
    go_wp2
    go_ret3
    exact ⟨rfl, rfl⟩
  have d1 : decide (s < 257) = false := by simpa using h1
  by_cases h2 : 285 < s
  · have e : Sy.lbV s = .tuple #[.int .i64 0, .int .i64 0, .bool false] := by unfold Sy.lbV; rw [if_neg (by omega)]
    rw [e]
    have d2 : decide (285 < s) = true := by simpa using h2
    go_wp2
    go_ret3
    exact ⟨rfl, rfl⟩
  have d2 : decide (285 < s) = false := by simpa using h2
  obtain ⟨p, rfl⟩ : ∃ p : Nat, s = (p : Int) + 257 := ⟨(s - 257).toNat, by omega⟩
  have e : Sy.lbV ((p : Int) + 257) = .tuple #[.int .i64 ((Sy.lb p).1 : Nat), .int .i64 ((Sy.lb p).2 : Nat), .bool true] := by
    unfold Sy.lbV
    rw [if_pos (by omega), show ((p : Int) + 257 - 257).toNat = p by omega]
  rw [e]
  by_cases h3 : p = 28
  · subst h3
    go_wp2
    go_ret3
    exact ⟨rfl, rfl⟩
  have d3 : ((p : Int) + 257 == 285) = false := by simp; omega
  have es : (p : Int) + 257 - 257 = (p : Int) := by omega
  have hb := Sy.st_lt p 4 (by omega) (.inr rfl)
  have el : Sy.lb p = (3 + (Sy.st p 4).1, (Sy.st p 4).2) := by unfold Sy.lb; rw [if_neg h3]
  have HC := start_any p 4 w (by omega) (.inr rfl)
  rw [el]
  clear el e
  generalize Sy.st p 4 = x at *
  go_wp2_with fail
  refine HC.mono ?_
  rintro e w' ⟨rfl, rfl⟩
  go_wp2
  go_ret3
  exact ⟨rfl, rfl⟩
theorem distBase_any (s : Int) (w : World) (hw : (Lit.int .i64 s).wf = true) :
    Calls Tryz.prog 78 #[.int .i64 s] w fun e w' => e = .returned (Sy.dbV s) ∧ w = w' := by
  go_enter Tryz.func78, Tryz.ntmps78
  by_cases h1 : s < 0
  · have e : Sy.dbV s = .tuple #[.int .i64 0, .int .i64 0, .bool false] := by unfold Sy.dbV; rw [if_neg (by omega)]
    rw [e]
    have d1 : decide (s < 0) = true := by simpa using h1
    go_wp2
    go_ret3
    exact ⟨rfl, rfl⟩
  have d1 : decide (s < 0) = false := by simpa using h1
  by_cases h2 : 29 < s
  · have e : Sy.dbV s = .tuple #[.int .i64 0, .int .i64 0, .bool false] := by unfold Sy.dbV; rw [if_neg (by omega)]
    rw [e]
    have d2 : decide (29 < s) = true := by simpa using h2
    go_wp2
    go_ret3
    exact ⟨rfl, rfl⟩
  have d2 : decide (29 < s) = false := by simpa using h2
  obtain ⟨p, rfl⟩ := Int.eq_ofNat_of_zero_le (show 0 ≤ s by omega)
  have e : Sy.dbV (p : Int) = .tuple #[.int .i64 ((Sy.db p).1 : Nat), .int .i64 ((Sy.db p).2 : Nat), .bool true] := by
    unfold Sy.dbV
    rw [if_pos (by omega), Int.toNat_natCast]
  rw [e]
  have hb := Sy.st_lt p 2 (by omega) (.inl rfl)
  have el : Sy.db p = (1 + (Sy.st p 2).1, (Sy.st p 2).2) := rfl
  have HC := start_any p 2 w (by omega) (.inl rfl)
  rw [el]
  clear el e
  generalize Sy.st p 2 = x at *
  go_wp2_with fail
  refine HC.mono ?_
  rintro e w' ⟨rfl, rfl⟩
  go_wp2
  go_ret3
  exact ⟨rfl, rfl⟩
end Go.Proofs.YtpoilaappcjbeaaGreatDoor
end

section
namespace Go.Proofs.YtpoilaappcjbeaaGreatDoor
open Go.RowKit

theorem tyR : RowTy Tryz.prog 127 132 (.agg #[.int .i64 0, .int .i64 0]) 2 16 := ⟨Tryz.underlying127, by kernel_rfl, rfl, by omega⟩
theorem src_run (w : World) (t : Tok) : SrcRow (w.alloc (.cells #[.int .i64 t.1, .int .i64 t.2] 132)) (some ⟨w.heap.size, 0, none⟩) 1 1 (tks [t]) 2 :=
  src_new w #[.int .i64 t.1, .int .i64 t.2] 132 1 1 2 rfl (by intro u hu; simp at hu; rcases hu with rfl | rfl <;> rfl)
/-- A row of runs of the call's own reads as its runs. -/
theorem own_rs2 {w : World} {base n : Nat} {v : Value} {l : List Tok} (h : w.ownsRow base 132 2 v n (tks l)) (hw : ∀ i, i < n → (Lit.int .i64 (l.getD i (0, 0)).1).wf = true ∧ (Lit.int .i64 (l.getD i (0, 0)).2).wf = true) :
    ∃ a cap, v = .slice a n cap ∧ Ts2 w a n cap l := by
  have hn : l.length = n := by have := h.1; rw [tks_length] at this; omega
  rcases own_nil_or h with ⟨rfl, rfl⟩ | ⟨g, cap, rfl, hle, _⟩
  · exact ⟨none, 0, rfl, hn, Nat.le_refl _, fun _ => rfl, fun i hi => absurd hi (by omega), hw⟩
  · refine ⟨_, cap, rfl, hn, hle, fun e => by simp at e, fun i hi => ⟨g, 0, rfl, (h.lt g rfl).2, ?_⟩, hw⟩
    obtain ⟨t0, t1⟩ := tks_get l i (by omega)
    rw [Nat.zero_add, h.cellAt (i * 2) (by omega), h.cellAt (i * 2 + 1) (by omega)]
    exact ⟨t0, t1⟩
/-- What runBase answers. -/
def Bl.rb (y : Int) : Value := if 0 ≤ y ∧ y ≤ 18 then .tuple #[.int .i64 (Bl.base y : Nat), .int .i64 (Bl.bits y : Nat), .bool true] else .tuple #[.int .i64 0, .int .i64 0, .bool false]
theorem runBase_any (y : Int) (w : World) : Calls Tryz.prog 88 #[.int .i64 y] w fun e w' => e = .returned (Bl.rb y) ∧ w = w' := by
  by_cases h1 : 0 ≤ y ∧ y ≤ 18
  · have d1 : decide (y < 0) = false := decide_eq_false (by omega)
    have d2 : decide (19 ≤ y) = false := decide_eq_false (by omega)
    have HR : Hid (Bl.rb y = .tuple #[.int .i64 (Bl.base y : Nat), .int .i64 (Bl.bits y : Nat), .bool true]) := Lib.hid (by unfold Bl.rb; rw [if_pos h1])
    by_cases e6 : y = 16
    · subst e6
      go_enter Tryz.func88, Tryz.ntmps88
      go_wp2
      go_ret3
      exact ⟨by rw [HR.out]; rfl, rfl⟩
    · by_cases e7 : y = 17
      · subst e7
        go_enter Tryz.func88, Tryz.ntmps88
        go_wp2
        go_ret3
        exact ⟨by rw [HR.out]; rfl, rfl⟩
      · by_cases e8 : y = 18
        · subst e8
          go_enter Tryz.func88, Tryz.ntmps88
          go_wp2
          go_ret3
          exact ⟨by rw [HR.out]; rfl, rfl⟩
        · have d6 : (y == 16) = false := by simpa using e6
          have d7 : (y == 17) = false := by simpa using e7
          have d8 : (y == 18) = false := by simpa using e8
          have HB : Hid (Bl.base y = 1 ∧ Bl.bits y = 0) := Lib.hid (by unfold Bl.base Bl.bits; rw [if_neg e6, if_neg e7, if_neg e8, if_neg e6, if_neg e7, if_neg e8]; exact ⟨rfl, rfl⟩)
          clear h1 e6 e7 e8
          go_enter Tryz.func88, Tryz.ntmps88
          go_wp2
          go_ret3
          exact ⟨by rw [HR.out, HB.out.1, HB.out.2]; rfl, rfl⟩
  · have HR : Hid (Bl.rb y = .tuple #[.int .i64 0, .int .i64 0, .bool false]) := Lib.hid (by unfold Bl.rb; rw [if_neg h1])
    by_cases h2 : y < 0
    · have d1 : decide (y < 0) = true := decide_eq_true h2
      clear h1
      go_enter Tryz.func88, Tryz.ntmps88
      go_wp2
      go_ret3
      exact ⟨by rw [HR.out]; rfl, rfl⟩
    · have d1 : decide (y < 0) = false := decide_eq_false h2
      have d2 : decide (19 ≤ y) = true := decide_eq_true (by omega)
      clear h1
      go_enter Tryz.func88, Tryz.ntmps88
      go_wp2
      go_ret3
      exact ⟨by rw [HR.out]; rfl, rfl⟩
end Go.Proofs.YtpoilaappcjbeaaGreatDoor
end

section
namespace Go.Proofs.YtpoilaappcjbeaaGreatDoor
open Go.RowKit

/-- A writer: its block, and its bytes. -/
structure Wr (w : World) (B g : Nat) (h : Bool) (v : Value) (l : List Bool) : Prop where
  blk : w.heap[g]? = some (.cells #[.bool h, v, .int .i64 (l.length : Nat)] 73 (0, 0))
  own : w.ownsRow B 5 1 v ((l.length + 7) / 8) (bvs (Bt.packs h false l))
  hg : B ≤ g
  ne : v.ownBlock ≠ some g
/-- What a writer's call may change. -/
def Wt (g : Nat) (v : Value) (k : Nat) : Prop := k = g ∨ v.ownBlock = some k
theorem Wr.lt {w : World} {B g : Nat} {h : Bool} {v : Value} {l : List Bool} (H : Wr w B g h v l) : g < w.heap.size := (Array.getElem?_eq_some_iff.1 H.blk).1
theorem Wr.kept {w w' : World} {T : Nat → Prop} {B g : Nat} {h : Bool} {v : Value} {l : List Bool} (H : Wr w B g h v l) (c : Ch w w' T) (h1 : ¬ T g) (h2 : ∀ k, v.ownBlock = some k → ¬ T k) : Wr w' B g h v l :=
  ⟨by rw [c.block g H.lt h1]; exact H.blk, c.own H.own h2, H.hg, H.ne⟩
theorem Wr.mono {w w' : World} {B g : Nat} {h : Bool} {v : Value} {l : List Bool} (H : Wr w B g h v l) (hb : Below w.heap.size w w') : Wr w' B g h v l :=
  H.kept (Ch.of_below (T := fun _ => False) hb) (fun h => h) (fun _ _ h => h)
theorem Wr.c0 {w : World} {B g : Nat} {h : Bool} {v : Value} {l : List Bool} (H : Wr w B g h v l) : w.cell? ⟨g, 0, none⟩ = some (.bool h) := by rw [cell_of_row _ _ _ _ _ (0, 0) H.blk]; rfl
theorem Wr.c1 {w : World} {B g : Nat} {h : Bool} {v : Value} {l : List Bool} (H : Wr w B g h v l) : w.cell? ⟨g, 1, none⟩ = some v := by rw [cell_of_row _ _ _ _ _ (0, 0) H.blk]; rfl
theorem Wr.c2 {w : World} {B g : Nat} {h : Bool} {v : Value} {l : List Bool} (H : Wr w B g h v l) : w.cell? ⟨g, 2, none⟩ = some (.int .i64 (l.length : Nat)) := by rw [cell_of_row _ _ _ _ _ (0, 0) H.blk]; rfl
theorem Wr.fr {w : World} {B g : Nat} {h : Bool} {v : Value} {l : List Bool} (H : Wr w B g h v l) (o : Nat) : w.frozen? ⟨g, o, none⟩ = false := frozen_of_row w g o _ _ H.blk

end Go.Proofs.YtpoilaappcjbeaaGreatDoor
end

section
namespace Go.Proofs.YtpoilaappcjbeaaGreatDoor
open Go.RowKit

theorem tyB : RowTy Tryz.prog 22 5 (.int .u8 0) 1 1 := ⟨Tryz.underlying22, by kernel_rfl, rfl, by omega⟩
end Go.Proofs.YtpoilaappcjbeaaGreatDoor
end

section
namespace Go.Proofs.YtpoilaappcjbeaaGreatDoor
open Go.RowKit

theorem isCount_yes (n : Nat) (w : World) (h2 : n ≤ 32) : Calls Tryz.prog 101 #[.int .i64 n] w fun e w' => e = .returned (.bool true) ∧ w = w' := by
  have d1 : decide ((0 : Int) ≤ n) = true := by simp
  have d2 : decide ((n : Int) ≤ 32) = true := by simp; omega
  go_enter Tryz.func101, Tryz.ntmps101
  go_wp2
  go_ret
  exact ⟨rfl, rfl⟩
theorem isCount_no (n : Int) (w : World) (h : n < 0 ∨ 32 < n) : Calls Tryz.prog 101 #[.int .i64 n] w fun e w' => e = .returned (.bool false) ∧ w = w' := by
  by_cases h1 : 0 ≤ n
  · have d1 : decide (0 ≤ n) = true := by simpa using h1
    have d2 : decide (n ≤ 32) = false := by simp; omega
    clear h
    go_enter Tryz.func101, Tryz.ntmps101
    go_wp2
    go_ret
    exact ⟨rfl, rfl⟩
  · have d1 : decide (0 ≤ n) = false := by simpa using h1
    clear h
    go_enter Tryz.func101, Tryz.ntmps101
    go_wp2
    go_ret
    exact ⟨rfl, rfl⟩

theorem missing_any (n : Nat) (w : World) (h : n ≤ 1000000000000) : Calls Tryz.prog 41 #[.int .i64 n] w fun e w' => e = .returned (.int .i64 ((8 - n % 8) % 8 : Nat)) ∧ w = w' := by
  go_enter Tryz.func41, Tryz.ntmps41
  go_wp2
  go_ret
  exact ⟨ret_int (i64_and_neg7 n (by omega)), rfl⟩

theorem shift_any (h : Bool) (size fro some : Nat) (w : World) (hs : fro + some ≤ size) (h32 : size ≤ 64) :
    Calls Tryz.prog 102 #[.agg #[.bool h], .int .i64 size, .int .i64 fro, .int .i64 some] w fun e w' => e = .returned (.int .i64 (Bt.shf h size fro some : Nat)) ∧ w' = w.alloc (.cells #[.bool h] 71) := by
  cases h
  · go_enter Tryz.func102, Tryz.ntmps102
    go_wp2
    go_ret
    exact ⟨ret_int (by simp [Bt.shf]), rfl⟩
  · go_enter Tryz.func102, Tryz.ntmps102
    go_wp2
    go_ret
    exact ⟨ret_int (by simp [Bt.shf]; omega), rfl⟩
end Go.Proofs.YtpoilaappcjbeaaGreatDoor
end
