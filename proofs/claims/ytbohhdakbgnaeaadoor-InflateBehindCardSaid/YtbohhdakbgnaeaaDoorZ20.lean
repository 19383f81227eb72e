/- inflate's isMost and isToken, and the document's Good. inflate.Inflate and inflate.Tokens at all blocks: their contracts. What a block of kind 0 comes to, as the law lays it. What InflateBehind asks of what is unpacked. What the listed variable holds. What law06's alive asks of Inflate, by the specification. burnishnum.Num: its contract. burnishnum.Same: its contract. burnishlaw06.alive: its contract. burnishnum.Is: its contract. A slice of bytes, cut off. inflate.Expand: its contract. -/
import Derived.Test.YtbohhdakbgnaeaaDoorZ19
import Derived.Test.YtbohhdakbgnaeaaDoorRows
import Derived.LaidLaws
import Derived.MakeChecks
import Derived.Stop.Joined
import Derived.Test.YtbohhdakbgnaeaaDoorProg
set_option linter.unusedSimpArgs false
set_option linter.unusedVariables false
section
namespace Go.Proofs.YtbohhdakbgnaeaaDoor
open Go.RowKit

theorem isMost_any (m : Int) (w : World) : Calls Tryd.prog 26 #[.int .i64 m] w fun e w' => e = .returned (.bool (decide (0 ≤ m ∧ m ≤ 4194304))) ∧ w = w' := by
  go_enter Tryd.func26, Tryd.ntmps26
  by_cases h1 : 0 ≤ m
  · have d1 : decide (0 ≤ m) = true := by simpa using h1
    by_cases h2 : m ≤ 4194304
    · have d2 : decide (m ≤ 4194304) = true := by simpa using h2
      have E := Lib.hid (show decide (0 ≤ m ∧ m ≤ 4194304) = true from decide_eq_true ⟨h1, h2⟩)
      go_wp2
      go_ret
      exact ⟨by first | rfl | (rw [E.out]; rfl), rfl⟩
    · have d2 : decide (m ≤ 4194304) = false := by simpa using h2
      have E := Lib.hid (show decide (0 ≤ m ∧ m ≤ 4194304) = false from decide_eq_false (fun h => h2 h.2))
      go_wp2
      go_ret
      exact ⟨by first | rfl | (rw [E.out]; rfl), rfl⟩
  · have d1 : decide (0 ≤ m) = false := by simpa using h1
    have E := Lib.hid (show decide (0 ≤ m ∧ m ≤ 4194304) = false from decide_eq_false (fun h => h1 h.1))
    go_wp2
    go_ret
    exact ⟨by first | rfl | (rw [E.out]; rfl), rfl⟩
theorem isToken_any (t : Tok) (w : World) (hw : (Lit.int .i64 t.1).wf = true ∧ (Lit.int .i64 t.2).wf = true) :
    Calls Tryd.prog 27 #[.agg #[.int .i64 t.1, .int .i64 t.2]] w fun e w' => e = .returned (.bool (Tk.isTok t)) ∧ Below w.heap.size w w' := by
  obtain ⟨x, y⟩ := t
  have hb := Lib.hid (below_alloc w (.cells #[.int .i64 x, .int .i64 y] 68))
  clear hw
  by_cases h0 : x = 0
  · by_cases h1 : 0 ≤ y
    · by_cases h2 : y ≤ 255
      · have E := Lib.hid (show Tk.isTok (x, y) = true by simp only [Tk.isTok, h0, if_true]; exact decide_eq_true ⟨h1, h2⟩)
        have d0 : (x == 0) = true := by simpa using h0
        have d1 : decide (0 ≤ y) = true := by simpa using h1
        have d2 : decide (y ≤ 255) = true := by simpa using h2
        clear h0
        go_enter Tryd.func27, Tryd.ntmps27
        go_wp2
        go_ret
        exact ⟨by rw [E.out]; rfl, hb.out⟩
      · have E := Lib.hid (show Tk.isTok (x, y) = false by simp only [Tk.isTok, h0, if_true]; exact decide_eq_false (fun h => h2 h.2))
        have d0 : (x == 0) = true := by simpa using h0
        have d1 : decide (0 ≤ y) = true := by simpa using h1
        have d2 : decide (y ≤ 255) = false := by simpa using h2
        clear h0
        go_enter Tryd.func27, Tryd.ntmps27
        go_wp2
        go_ret
        exact ⟨by rw [E.out]; rfl, hb.out⟩
    · have E := Lib.hid (show Tk.isTok (x, y) = false by simp only [Tk.isTok, h0, if_true]; exact decide_eq_false (fun h => h1 h.1))
      have d0 : (x == 0) = true := by simpa using h0
      have d1 : decide (0 ≤ y) = false := by simpa using h1
      clear h0
      go_enter Tryd.func27, Tryd.ntmps27
      go_wp2
      go_ret
      exact ⟨by rw [E.out]; rfl, hb.out⟩
  have d0 : (x == 0) = false := by simpa using h0
  have hi : Tk.isTok (x, y) = decide (3 ≤ x ∧ x ≤ 258 ∧ 1 ≤ y ∧ y ≤ 32768) := by simp only [Tk.isTok, if_neg h0]
  by_cases h1 : 3 ≤ x
  · have d1 : decide (3 ≤ x) = true := by simpa using h1
    by_cases h2 : x ≤ 258
    · have d2 : decide (x ≤ 258) = true := by simpa using h2
      by_cases h3 : 1 ≤ y
      · have d3 : decide (1 ≤ y) = true := by simpa using h3
        by_cases h4 : y ≤ 32768
        · have d4 : decide (y ≤ 32768) = true := by simpa using h4
          have E := Lib.hid (hi.trans (decide_eq_true ⟨h1, h2, h3, h4⟩))
          clear hi
          go_enter Tryd.func27, Tryd.ntmps27
          go_wp2
          go_ret
          exact ⟨by rw [E.out]; rfl, hb.out⟩
        · have d4 : decide (y ≤ 32768) = false := by simpa using h4
          have E := Lib.hid (hi.trans (decide_eq_false (fun h => h4 h.2.2.2)))
          clear hi
          go_enter Tryd.func27, Tryd.ntmps27
          go_wp2
          go_ret
          exact ⟨by rw [E.out]; rfl, hb.out⟩
      · have d3 : decide (1 ≤ y) = false := by simpa using h3
        have E := Lib.hid (hi.trans (decide_eq_false (fun h => h3 h.2.2.1)))
        clear hi
        go_enter Tryd.func27, Tryd.ntmps27
        go_wp2
        go_ret
        exact ⟨by rw [E.out]; rfl, hb.out⟩
    · have d2 : decide (x ≤ 258) = false := by simpa using h2
      have E := Lib.hid (hi.trans (decide_eq_false (fun h => h2 h.2.1)))
      clear hi
      go_enter Tryd.func27, Tryd.ntmps27
      go_wp2
      go_ret
      exact ⟨by rw [E.out]; rfl, hb.out⟩
  · have d1 : decide (3 ≤ x) = false := by simpa using h1
    have E := Lib.hid (hi.trans (decide_eq_false (fun h => h1 h.1)))
    clear hi
    go_enter Tryd.func27, Tryd.ntmps27
    go_wp2
    go_ret
    exact ⟨by rw [E.out]; rfl, hb.out⟩
end Go.Proofs.YtbohhdakbgnaeaaDoor
end

section
namespace Go.Proofs.YtbohhdakbgnaeaaDoor
open Go.RowKit
attribute [local go_sem] Oper.semAt_some

/-- What is unpacked, by the specification. -/
def infR (most : Nat) (bs : List UInt8) : Ip.Rs Unp := Ip.unpP (Ip.dynP most) most (lob bs) 0
theorem unpack_dyn {w : World} {most : Nat} {bs : List UInt8} {ls : Bool} (hlo : Lo w) (hw0 : 0 < w.heap.size) (a : Option Addr) (len cap : Nat) (H : Bs w a len cap bs) (hl : bs.length ≤ 1000000000) (hm : most ≤ 4194304) :
    Calls Tryd.prog 24 #[.slice a len cap, .int .i64 (most : Nat), .bool ls] w (UnpPost w bs most ls (infR most bs)) :=
  unpack_any (Ip.dynP most) (Ip.mono_dynP most) a len cap H hl hm (.inr (fun _ _ _ _ _ _ _ _ _ c hD hir hfx => block_2 hir hfx (hlo.kept c (fun h => h) hw0) (hD 0 hw0)))
theorem inflate_dyn {w : World} {most : Nat} {bs : List UInt8} (hlo : Lo w) (hw0 : 0 < w.heap.size) (a : Option Addr) (len cap : Nat) (H : Bs w a len cap bs) (hl : bs.length ≤ 1000000000) (hm : most ≤ 4194304) :
    Calls Tryd.prog 8 #[.slice a len cap, .int .i64 (most : Nat)] w (InfPost w (infR most bs)) :=
  inflate_any _ a len cap (unpack_dyn hlo hw0 a len cap H hl hm)
theorem isMost_no (m : Int) (w : World) (h : ¬ (0 ≤ m ∧ m ≤ 4194304)) : Calls Tryd.prog 26 #[.int .i64 m] w fun e w' => e = .returned (.bool false) ∧ w = w' := by
  refine (isMost_any m w).mono ?_
  rintro e w' ⟨rfl, rfl⟩
  rw [decide_eq_false h]
  exact ⟨rfl, rfl⟩
theorem unpack_range (a : Option Addr) (len cap : Nat) (m : Int) (ls : Bool) (w : World) (h : ¬ (0 ≤ m ∧ m ≤ 4194304)) :
    Calls Tryd.prog 24 #[.slice a len cap, .int .i64 m, .bool ls] w fun e w' => e = .returned (.tuple #[.pointer none, .iface 35 (.int .i64 7)]) ∧ w = w' := by
  have HM := Lib.hid (isMost_no m w h)
  clear h
  go_enter Tryd.func24, Tryd.ntmps24
  go_wp2_with fail
  refine HM.out.mono ?_
  rintro e w' ⟨rfl, rfl⟩
  go_wp2
  go_ret2
  exact ⟨rfl, rfl⟩
theorem inflate_range (a : Option Addr) (len cap : Nat) (m : Int) (w : World) (h : ¬ (0 ≤ m ∧ m ≤ 4194304)) :
    Calls Tryd.prog 8 #[.slice a len cap, .int .i64 m] w fun e w' => e = .returned (.tuple #[.slice none 0 0, .int .i64 0, .iface 35 (.int .i64 7)]) ∧ w = w' := by
  have HM := Lib.hid (unpack_range a len cap m false w h)
  clear h
  go_enter Tryd.func8, Tryd.ntmps8
  go_wp2_with fail
  refine HM.out.mono ?_
  rintro e w' ⟨rfl, rfl⟩
  go_wp2
  go_ret3
  exact ⟨rfl, rfl⟩
/-- What Tokens answers. -/
def TokPost (w : World) (r : Ip.Rs Unp) (e : Ending) (w' : World) : Prop :=
  match r with
  | .ok s _ => ∃ v, e = .returned (.tuple #[v, .nilIface]) ∧ w'.ownsRow w.heap.size 68 2 v s.2.length (tks s.2) ∧ s.2.length ≤ s.1.length ∧ s.1.length ≤ 4194304 ∧ Ch w w' (fun _ => False)
  | .err n => (n == 0) = false ∧ e = .returned (.tuple #[.slice none 0 0, .iface 35 (.int .i64 n)]) ∧ Ch w w' (fun _ => False)
set_option maxRecDepth 100000 in
theorem tokens_dyn {w : World} {most : Nat} {bs : List UInt8} (hlo : Lo w) (hw0 : 0 < w.heap.size) (a : Option Addr) (len cap : Nat) (H : Bs w a len cap bs) (hl : bs.length ≤ 1000000000) (hm : most ≤ 4194304) :
    Calls Tryd.prog 9 #[.slice a len cap, .int .i64 (most : Nat)] w (TokPost w (infR most bs)) := by
  have HH := Lib.hid (unpack_dyn (ls := true) hlo hw0 a len cap H hl hm)
  clear H hlo
  obtain ⟨r, hr⟩ : ∃ r, infR most bs = r := ⟨_, rfl⟩
  rw [hr] at HH ⊢
  clear hr
  go_enter Tryd.func9, Tryd.ntmps9
  go_wp2_with fail
  refine HH.out.mono ?_
  cases r with
  | err n =>
    rintro e w1 ⟨hn, rfl, hch⟩
    have HP : Hid (TokPost w (.err n) (.returned (.tuple #[.slice none 0 0, .iface 35 (.int .i64 n)])) w1) := Lib.hid ⟨hn, rfl, hch⟩
    clear hch hn HH
    go_wp2
    go_ret2
    exact HP.out
  | ok s q =>
    rintro e w1 ⟨gr, gb, D, p5, p6, rfl, hir, hch⟩
    obtain ⟨vb, cs, v, vl, k⟩ := hir
    have t4 : w1.cell? ⟨gr, 4, none⟩ = some vl := k.ou.cells.2.2.2
    have hol := k.ou.ol
    rw [if_pos rfl] at hol
    obtain ⟨al, cl, rfl⟩ : ∃ a c, vl = .slice a s.2.length c := by
      rcases own_nil_or hol with ⟨rfl, h0⟩ | ⟨g, cap, rfl, _⟩
      · exact ⟨none, 0, by rw [h0]⟩
      · exact ⟨_, cap, rfl⟩
    have HP : Hid (TokPost w (.ok s q) (.returned (.tuple #[.slice al s.2.length cl, .nilIface])) w1) := Lib.hid ⟨_, rfl, hol, k.ht, by have := k.hl; have := k.hm; omega, hch⟩
    clear k hch HH hol
    go_wp2
    go_ret2
    exact HP.out
end Go.Proofs.YtbohhdakbgnaeaaDoor
end

section
namespace Go.Proofs.YtbohhdakbgnaeaaDoor
open Go.RowKit

theorem i64_xor_nat (a b : Nat) (ha : a < 9223372036854775808) (hb : b < 9223372036854775808) : bits .xor .i64 (a : Int) (b : Int) = ((a ^^^ b : Nat) : Int) := by
  have h : a ^^^ b < 2 ^ 63 := Nat.xor_lt_two_pow (by omega) (by omega)
  show IntKind.i64.wrap ((BitVec.ofInt 64 (a : Int) ^^^ BitVec.ofInt 64 (b : Int)).toNat : Int) = _
  rw [BitVec.toNat_xor, ofInt_64 a ha, ofInt_64 b hb, i64_wrap_small _ (by omega)]
theorem xor_full (a : Nat) (h : a < 65536) : a ^^^ (65535 - a) = 65535 := by
  apply Nat.eq_of_testBit_eq
  intro i
  rw [Nat.testBit_xor, show 65535 - a = 2 ^ 16 - (a + 1) by omega, Nat.testBit_two_pow_sub_succ (by omega), show (65535 : Nat) = 2 ^ 16 - 1 by rfl, Nat.testBit_two_pow_sub_one]
  by_cases hi : i < 16
  · simp [hi]
  · have : a.testBit i = false := Nat.testBit_lt_two_pow (Nat.lt_of_lt_of_le h (Nat.pow_le_pow_right (n := 2) (by omega) (by omega : 16 ≤ i)))
    simp [hi, this]
theorem lob_append (x y : List UInt8) : lob (x ++ y) = lob x ++ lob y := by unfold lob Bt.rbits; rw [List.flatMap_append]
theorem lob_cons (x : UInt8) (y : List UInt8) : lob (x :: y) = Bt.dg false x.toNat 8 ++ lob y := rfl
namespace Ip
theorem take_byte (pre : List UInt8) (x : UInt8) (post : List UInt8) : take 8 (lob (pre ++ x :: post)) (8 * pre.length) = .ok x.toNat (8 * pre.length + 8) := by
  unfold take
  rw [if_pos (by rw [lob_length, List.length_append, List.length_cons]; omega), lob_append, List.drop_left' (lob_length pre), lob_cons, List.take_left' (Bt.dg_length false x.toNat 8), Bt.num_dg false x.toNat 8 (u8_lt x)]
theorem nums_bytes : ∀ (xs pre post : List UInt8), numbers (List.replicate xs.length 8) (lob (pre ++ (xs ++ post))) (8 * pre.length) = .ok (xs.map UInt8.toNat) (8 * (pre.length + xs.length))
  | [], pre, post => rfl
  | x :: xs, pre, post => by
    show bind (take 8) (fun n => bind (numbers (List.replicate xs.length 8)) fun ns => pure (n :: ns)) _ _ = _
    rw [List.cons_append, bind_ok (take_byte pre x (xs ++ post))]
    have ih := nums_bytes xs (pre ++ [x]) post
    rw [List.length_append, List.length_singleton, List.append_assoc, List.singleton_append, show 8 * (pre.length + 1) = 8 * pre.length + 8 by omega] at ih
    rw [bind_ok ih]
    simp only [pure, List.map_cons, List.length_cons]
    congr 1; omega
theorem dg_two (n : Nat) : Bt.dg false n 16 = Bt.dg false (n % 256) 8 ++ Bt.dg false (n / 256) 8 := by
  have h1 : ∀ i, i < 8 → (n % 256).testBit i = n.testBit i := fun i hi => by
    rw [show (256 : Nat) = 2 ^ 8 by rfl, Nat.testBit_mod_two_pow]; simp [hi]
  have h2 : ∀ i, (n / 256).testBit i = n.testBit (8 + i) := fun i => by
    rw [show (256 : Nat) = 2 ^ 8 by rfl, Nat.testBit_div_two_pow, Nat.add_comm]
  unfold Bt.dg
  simp only [Bool.false_eq_true, if_false]
  rw [show (16 : Nat) = 8 + 8 by rfl, List.range_add, List.map_append, List.map_map]
  congr 1
  · exact List.map_congr_left (fun i hi => (h1 i (List.mem_range.1 hi)).symm)
  · exact List.map_congr_left (fun i _ => (h2 i).symm)
theorem take_two (pre : List UInt8) (x y : UInt8) (post : List UInt8) : take 16 (lob (pre ++ x :: y :: post)) (8 * pre.length) = .ok (x.toNat + 256 * y.toNat) (8 * pre.length + 16) := by
  have hx := u8_lt x
  have hy := u8_lt y
  have e : Bt.dg false x.toNat 8 ++ Bt.dg false y.toNat 8 = Bt.dg false (x.toNat + 256 * y.toNat) 16 := by
    rw [dg_two, show (x.toNat + 256 * y.toNat) % 256 = x.toNat by omega, show (x.toNat + 256 * y.toNat) / 256 = y.toNat by omega]
  unfold take
  rw [if_pos (by rw [lob_length, List.length_append, List.length_cons, List.length_cons]; omega), lob_append, List.drop_left' (lob_length pre), lob_cons, lob_cons, ← List.append_assoc, e, List.take_left' (Bt.dg_length false _ 16), Bt.num_dg false _ 16 (by omega)]
/-- Literals, as tokens. -/
def lits (xs : List UInt8) : List Tok := xs.map fun x => (0, ((x.toNat : Nat) : Int))
theorem adds_lits (most : Nat) (u : List Bool) (p : Nat) : ∀ (xs : List UInt8) (s : Unp), s.1.length + xs.length ≤ most → addsP most (xs.map UInt8.toNat) s u p = .ok (s.1 ++ xs, s.2 ++ lits xs) p
  | [], s, h => by simp [addsP, pure, lits]
  | x :: xs, s, h => by
    rw [List.length_cons] at h
    have ea : addP most (0, ((x.toNat : Nat) : Int)) s u p = .ok (s.1 ++ [x], s.2 ++ [(0, ((x.toNat : Nat) : Int))]) p := by
      have e1 : Tk.add most s.1 (0, ((x.toNat : Nat) : Int)) = (0, s.1 ++ [x]) := by
        unfold Tk.add Tk.size Tk.put
        simp
        omega
      have e2 : Tk.put s.1 (0, ((x.toNat : Nat) : Int)) = s.1 ++ [x] := by unfold Tk.put; simp
      unfold addP
      rw [e1, if_pos rfl, e2]
    show bind (addP most (0, ((x.toNat : Nat) : Int)) s) (addsP most (xs.map UInt8.toNat)) u p = _
    rw [bind_ok ea, adds_lits most u p xs _ (by rw [List.length_append]; simp; omega)]
    simp [lits]
/-- What stands in front of a block's bytes: its mark and kind, how many there are, and that number turned over. -/
def head (last : UInt8) (n : Nat) : List UInt8 := [last, UInt8.ofNat n, UInt8.ofNat (n / 256), UInt8.ofNat (255 - n % 256), UInt8.ofNat (255 - n / 256 % 256)]
theorem head_length (last : UInt8) (n : Nat) : (head last n).length = 5 := rfl
theorem stored_blk (most : Nat) (s : Unp) (hs : s.1.length ≤ most) (last : UInt8) (pre xs post : List UInt8) (hx : xs.length < 65536) :
    storedP most s (lob (pre ++ (head last xs.length ++ (xs ++ post)))) (8 * pre.length + 3) =
      if s.1.length + xs.length ≤ most then .ok (s.1 ++ xs, s.2 ++ lits xs) (8 * (pre.length + 5 + xs.length)) else .err 4 := by
  obtain ⟨n, hn⟩ : ∃ n, xs.length = n := ⟨_, rfl⟩
  rw [hn] at hx ⊢
  have b0 : (UInt8.ofNat n).toNat = n % 256 := by simp
  have b1 : (UInt8.ofNat (n / 256)).toNat = n / 256 := by simp; omega
  have b2 : (UInt8.ofNat (255 - n % 256)).toNat = 255 - n % 256 := by simp; omega
  have b3 : (UInt8.ofNat (255 - n / 256 % 256)).toNat = 255 - n / 256 := by simp; omega
  have l5 : (pre ++ [last]).length = pre.length + 1 := by simp
  have l7 : (pre ++ [last, UInt8.ofNat n, UInt8.ofNat (n / 256)]).length = pre.length + 3 := by simp
  have l9 : (pre ++ head last n).length = pre.length + 5 := by simp [head]
  have t1 := take_two (pre ++ [last]) (UInt8.ofNat n) (UInt8.ofNat (n / 256)) (UInt8.ofNat (255 - n % 256) :: UInt8.ofNat (255 - n / 256 % 256) :: (xs ++ post))
  have t2 := take_two (pre ++ [last, UInt8.ofNat n, UInt8.ofNat (n / 256)]) (UInt8.ofNat (255 - n % 256)) (UInt8.ofNat (255 - n / 256 % 256)) (xs ++ post)
  have t3 := nums_bytes xs (pre ++ head last n) post
  rw [l5, b0, b1, List.append_assoc] at t1
  rw [l7, b2, b3, List.append_assoc] at t2
  rw [l9, hn, List.append_assoc] at t3
  have e1 : n % 256 + 256 * (n / 256) = n := by omega
  have e2 : 255 - n % 256 + 256 * (255 - n / 256) = 65535 - n := by omega
  rw [e1] at t1
  rw [e2] at t2
  have hU : ∃ U, pre ++ (head last n ++ (xs ++ post)) = U := ⟨_, rfl⟩
  obtain ⟨U, hU⟩ := hU
  have u1 : pre ++ ([last] ++ UInt8.ofNat n :: UInt8.ofNat (n / 256) :: UInt8.ofNat (255 - n % 256) :: UInt8.ofNat (255 - n / 256 % 256) :: (xs ++ post)) = U := hU
  have u2 : pre ++ ([last, UInt8.ofNat n, UInt8.ofNat (n / 256)] ++ UInt8.ofNat (255 - n % 256) :: UInt8.ofNat (255 - n / 256 % 256) :: (xs ++ post)) = U := hU
  rw [u1] at t1
  rw [u2] at t2
  rw [hU] at t3 ⊢
  have a1 : align (lob U) (8 * pre.length + 3) = .ok () (8 * (pre.length + 1)) := by unfold align; congr 1; omega
  have k1 : numbers [16, 16] (lob U) (8 * (pre.length + 1)) = .ok [n, 65535 - n] (8 * (pre.length + 5)) := by
    show bind (take 16) (fun n => bind (numbers [16]) fun ns => pure (n :: ns)) _ _ = _
    rw [bind_ok t1, show 8 * (pre.length + 1) + 16 = 8 * (pre.length + 3) by omega]
    show bind (bind (take 16) (fun n => bind (numbers []) fun ns => pure (n :: ns))) (fun ns => pure (n :: ns)) _ _ = _
    rw [bind2_ok t2, show 8 * (pre.length + 3) + 16 = 8 * (pre.length + 5) by omega]
    rfl
  unfold storedP
  rw [bind_ok a1, bind_ok k1]
  show storedK most s n (65535 - n) (lob U) (8 * (pre.length + 5)) = _
  have hxr : bits .xor .i64 ((n : Nat) : Int) ((65535 - n : Nat) : Int) = 65535 := by
    rw [i64_xor_nat n (65535 - n) (by omega) (by omega), xor_full n hx]; rfl
  unfold storedK
  rw [if_pos hxr]
  by_cases hf : s.1.length + n ≤ most
  · rw [if_pos (show n ≤ most - s.1.length by omega), if_pos hf, bind_ok t3, adds_lits most _ _ xs s (by rw [hn]; exact hf)]
  · rw [if_neg (show ¬ n ≤ most - s.1.length by omega), if_neg hf]
    rfl
end Ip
end Go.Proofs.YtbohhdakbgnaeaaDoor
end

section
namespace Go.Proofs.YtbohhdakbgnaeaaDoor
open Go.RowKit

namespace Ip
theorem lob_take (l : List UInt8) : ∀ n, n ≤ l.length → lob (l.take n) = (lob l).take (8 * n) := fun n hn => by
  have e : lob l = lob (l.take n) ++ lob (l.drop n) := by rw [← lob_append, List.take_append_drop]
  rw [e, List.take_left' (by rw [lob_length, List.length_take]; omega)]
theorem lob_div (l : List UInt8) : 8 ∣ (lob l).length := by rw [lob_length]; exact Nat.dvd_mul_right 8 _
theorem locU (most : Nat) : Loc (unpP (dynP most) most) := loc_unpP (fun s => loc_dynP most s) most
theorem nums_three {u : List Bool} {p q : Nat} {ns : List Nat} (h : numbers [1, 2] u p = .ok ns q) : q = p + 3 := (nums12 h).1
end Ip
variable {most q : Nat} {l : List UInt8} {s : Unp}
theorem infR_le (h : infR most l = .ok s q) : 3 ≤ q ∧ q ≤ 8 * l.length := by
  have h1 := (Ip.locU most).le (lob l) 0 s q h (Nat.zero_le _) (Ip.lob_div l)
  rw [lob_length] at h1
  refine ⟨?_, h1.2⟩
  unfold infR Ip.unpP at h
  obtain ⟨f, hf⟩ : ∃ f, Ip.big = f + 1 := ⟨9999999999, rfl⟩
  rw [hf] at h
  obtain ⟨x, r, h2, h3⟩ := Ip.bind_inv (show Ip.bind (Ip.unpStep (Ip.dynP most) most ([], [])) (Ip.next (Ip.loop (Ip.unpStep (Ip.dynP most) most) f)) (lob l) 0 = .ok s q from h)
  obtain ⟨ns, r1, h4, h5⟩ := Ip.bind_inv h2
  have e := Ip.nums_three h4
  have m1 := Ip.mono_bind (Ip.mono_blockP (Ip.mono_dynP most) most ([], []) (ns.getD 1 0)) (fun s' => Ip.mono_pure (if ns.getD 0 0 = 1 then Sum.inr s' else Sum.inl s')) _ _ _ _ h5
  have m2 : r ≤ q := by
    cases x with
    | inl s2 => exact Ip.mono_loop (fun s => Ip.mono_bind (Ip.mono_numbers _) fun ns => Ip.mono_bind (Ip.mono_blockP (Ip.mono_dynP most) most s _) fun s' => Ip.mono_pure _) f s2 _ _ _ _ h3
    | inr s2 =>
      obtain ⟨_, rfl⟩ := Ip.pure_inv (u := lob l) h3
      exact Nat.le_refl _
  omega
theorem infR_ext (h : infR most l = .ok s q) (l' : List UInt8) : infR most (l.take ((q + 7) / 8) ++ l') = .ok s q := by
  have hq := infR_le h
  have hn : (q + 7) / 8 ≤ l.length := by omega
  refine (Ip.locU most).ext (lob l) _ 0 s q h (Nat.zero_le _) (Ip.lob_div l) (Ip.lob_div _) ?_ ?_
  · rw [lob_append, Ip.lob_take l _ hn, List.take_append_of_le_length (by rw [List.length_take, lob_length]; omega), List.take_take, Nat.min_eq_left (by omega)]
  · rw [lob_length, List.length_append, List.length_take]; omega
theorem infR_cut (h : infR most l = .ok s q) : infR most (l.take ((q + 7) / 8 - 1)) = .err 8 := by
  have hq := infR_le h
  have hn : (q + 7) / 8 - 1 ≤ l.length := by omega
  have hl : (lob (l.take ((q + 7) / 8 - 1))).length = 8 * ((q + 7) / 8 - 1) := by rw [lob_length, List.length_take]; omega
  refine (Ip.locU most).cut (lob l) _ 0 s q h (Nat.zero_le _) (Ip.lob_div l) (Ip.lob_div _) ?_ (Nat.zero_le _) (by rw [hl]; omega)
  rw [hl]; exact Ip.lob_take l _ hn
theorem infR_down (h : infR most l = .ok s q) : infR s.1.length l = .ok s q := Ip.down_unpP h
theorem infR_val (h : infR most l = .ok s q) : Tk.upto most s.2 s.2.length = (0, s.1) := Ip.val_unp h
theorem infR_toks (h : infR most l = .ok s q) : ∀ i, i < s.2.length → Tk.isTok (s.2.getD i (0, 0)) = true := fun i hi => by
  have hv := infR_val h
  by_cases hz : Tk.isTok (s.2.getD i (0, 0)) = true
  · exact hz
  · exfalso
    have hk : ∀ n, n ≤ s.2.length → (Tk.upto most s.2 n).1 = 0 := fun n hn => by
      by_cases h0 : (Tk.upto most s.2 n).1 = 0
      · exact h0
      · have := Tk.upto_stuck h0 s.2.length hn
        rw [hv] at this
        rw [← this] at h0
        exact absurd rfl h0
    have h1 := hk i (by omega)
    have h2 := hk (i + 1) (by omega)
    rw [Tk.upto, if_pos h1, Tk.stp, if_neg hz] at h2
    exact absurd h2 (by decide)
theorem infR_exp (h : infR most l = .ok s q) (hm : most ≤ 4194304) : Tk.exp (most : Int) s.2 = (0, s.1) := by
  unfold Tk.exp
  rw [if_pos (by omega)]
  exact infR_val h
end Go.Proofs.YtbohhdakbgnaeaaDoor
end

section
namespace Go.Proofs.YtbohhdakbgnaeaaDoor
open Go.ChangeShapes Go.WideShapes Go.ChangeAt Go.RowKit

theorem laid_is : (Rows.laid_burnish_inflate_lengthOrder : DataW Unit) = .agg (Ip.order.map fun n => .lit (.int .i64 ((n : Nat) : Int))) := by kernel_rfl
theorem lo_of_laid {W : World} (h : laidMetH Tryd.prog [("burnish/inflate.lengthOrder", Rows.laid_burnish_inflate_lengthOrder)] W) : Lo W ∧ 0 < W.heap.size := by
  rw [MakeChecks.laidMetH_plain _ _ _ (by kernel_rfl)] at h
  obtain ⟨ps, ⟨g, t, cs, fuel, p, q, hg, ht, hv, hd, _, _⟩, _, _⟩ := h
  obtain rfl := Option.some.inj ((show Tryd.prog.globalNamed "burnish/inflate.lengthOrder" = some 0 by kernel_rfl).symm.trans hg)
  obtain rfl := Option.some.inj ((show (Tryd.prog.globals[0]?).map (·.type) = some 160 by kernel_rfl).symm.trans ht)
  obtain ⟨xs, m, _, ex, _, hl, hel⟩ := DataW.trod_array Tryd.underlying160 hd
  have c5 : Tryd.prog.cellsOf 3 = 1 := by kernel_rfl
  have hcell : Lo W := fun r hr => by
    have hE := hel r hr
    rw [c5, Nat.mul_one, List.getElem?_eq_getElem (by omega)] at hE
    obtain ⟨z, e1, e2, _⟩ := DataW.trod_int Tryd.underlying3 hE
    have hlen : Ip.order.length = 19 := by rfl
    have e3 : (xs.map (·.1)) = Ip.order.map fun n => .lit (.int .i64 ((n : Nat) : Int)) := by
      have := (Prod.mk.inj ex).1
      rw [laid_is] at this
      exact (DataW.agg.inj this).symm
    have e4 : (xs.map (·.1))[r]? = (Ip.order.map fun n => (DataW.lit (.int .i64 ((n : Nat) : Int)) : DataW Unit))[r]? := by rw [e3]
    rw [List.getElem?_map, List.getElem?_map, List.getElem?_eq_getElem (by omega : r < xs.length), List.getElem?_eq_getElem (by omega : r < Ip.order.length), e2] at e4
    have hz : z = ((Ip.order.getD r 0 : Nat) : Int) := by
      simp only [Option.map_some, Option.some.injEq, DataW.lit.injEq, Lit.int.injEq, true_and] at e4
      rw [e4, List.getD, List.getElem?_eq_getElem (by omega : r < Ip.order.length)]; rfl
    rw [World.var?_cell hg hv r, ← hz]
    have : cs.toList[r]? = some (.int .i64 z) := by
      have h0 : ((cs.toList.drop r).take 1)[0]? = some (.int .i64 z) := by rw [e1]; rfl
      simpa using h0
    simpa using this
  refine ⟨hcell, ?_⟩
  have h0 := hcell 0 (by omega)
  rcases Nat.eq_zero_or_pos W.heap.size with hz | hz
  · exfalso
    have hn : W.heap[0]? = none := Array.getElem?_eq_none (by omega)
    simp [World.cell?, hn] at h0
  · exact hz
end Go.Proofs.YtbohhdakbgnaeaaDoor
end

section
namespace Go.Proofs.YtbohhdakbgnaeaaDoor
open Go.RowKit

def dyn0 : Unp → Ip.Pr Unp := fun _ => Ip.fail 99
theorem mono_dyn0 (s : Unp) : Ip.Mono (dyn0 s) := Ip.mono_fail 99
set_option maxRecDepth 100000 in
theorem alive_val : Ip.unpP dyn0 9 (lob [0x4b, 0x04, 0x00]) 0 = .ok ([97], [(0, 97)]) 18 := by kernel_rfl
end Go.Proofs.YtbohhdakbgnaeaaDoor
end

section
namespace Go.Proofs.YtbohhdakbgnaeaaDoor
open Go.RowKit

theorem num_nil (w : World) : Calls Tryd.prog 17 #[.nilIface] w fun e w' => e = .returned (.int .i64 0) ∧ w = w' := by
  go_enter Tryd.func17, Tryd.ntmps17
  go_wp2
  go_ret
  exact ⟨rfl, rfl⟩
theorem num_err (n : Int) (h0 : (n == 0) = false) (w : World) : Calls Tryd.prog 17 #[.iface 35 (.int .i64 n)] w fun e w' => e = .returned (.int .i64 n) ∧ w = w' := by
  have hta : ∀ (x : Int) (w : World), (Instr.typeAssert (.iface 35 (.int .i64 x)) 25 35 true).run Tryd.prog w = .ok (.tuple #[.int .i64 x, .bool true]) w := fun _ _ => by kernel_rfl
  go_enter Tryd.func17, Tryd.ntmps17
  go_wp2
  go_ret
  exact ⟨rfl, rfl⟩
end Go.Proofs.YtbohhdakbgnaeaaDoor
end

section
namespace Go.Proofs.YtbohhdakbgnaeaaDoor
open Go.RowKit

theorem same_any (a b : Option Addr) (len cap len' cap' : Nat) (l m : List UInt8) (w : World) (h : Bs w a len cap l) (h' : Bs w b len' cap' m) :
    Calls Tryd.prog 11 #[.slice a len cap, .slice b len' cap'] w fun e w' => e = .returned (.bool (l == m)) ∧ w = w' := by
  have c1 := conv_bs (P := Tryd.prog) h 22 9 5 Tryd.underlying22 Tryd.underlying5 Tryd.underlying9
  have c2 := conv_bs (P := Tryd.prog) h' 22 9 5 Tryd.underlying22 Tryd.underlying5 Tryd.underlying9
  clear h h'
  have HE : Hid (((str l).toList == (str m).toList) = (l == m)) := Lib.hid (by rw [str_list, str_list])
  go_enter Tryd.func11, Tryd.ntmps11
  go_wp2
  go_ret
  exact ⟨by show Ending.returned (.bool ((str l).toList == (str m).toList)) = _; rw [HE.out], rfl⟩

end Go.Proofs.YtbohhdakbgnaeaaDoor
end

section
namespace Go.Proofs.YtbohhdakbgnaeaaDoor
open Go.RowKit
attribute [local go_sem] Oper.semAt_some

theorem below_of_ch {w w' : World} (c : Ch w w' (fun _ => False)) : Below w.heap.size w w' := ⟨c.os, c.tape, c.output, c.size, fun k hk => c.block k hk (fun h => h)⟩
theorem bs_alloc (w : World) (l : List UInt8) (hl : l.length ≤ 1000000) (h0 : l ≠ []) : Bs (w.alloc (.cells (bvs l).toArray 5)) (some ⟨w.heap.size, 0, none⟩) l.length l.length l := by
  refine ⟨rfl, Nat.le_refl _, by omega, by omega, fun h => (by cases h), fun i hi => ⟨w.heap.size, 0, rfl, by simp, ?_⟩⟩
  rw [cell_of_row _ _ _ _ _ (0, 0) (heap_alloc_last w _), Nat.zero_add, List.getElem?_toArray]
  unfold bvs
  rw [List.getElem?_map, List.getElem?_eq_getElem hi]
  simp [gb, List.getD, List.getElem?_eq_getElem hi]
set_option maxRecDepth 100000 in
theorem alive_any (w : World) : Calls Tryd.prog 7 #[] w fun e w' => e = .returned (.bool true) ∧ Below w.heap.size w w' := by
  have hb := below_alloc w (.cells #[.int .u8 75, .int .u8 4, .int .u8 0] 5)
  have hbs := bs_alloc w [0x4b, 0x04, 0x00] (by decide) (by simp)
  have HU := Lib.hid (inflate_any _ _ 3 3 (unpack_any (ls := false) (most := 9) dyn0 mono_dyn0 _ 3 3 hbs (by decide) (by omega) (.inl ⟨fun _ _ _ => rfl, by rw [alive_val]; intro h; cases h⟩)))
  rw [alive_val] at HU
  have HB := Lib.hid hb
  clear hb hbs
  go_enter Tryd.func7, Tryd.ntmps7
  go_wp2_with fail
  refine HU.out.mono ?_
  rintro e w1 ⟨v, rfl, hown, hch⟩
  obtain ⟨av, cv, rfl, hb1⟩ := own_bs hown (by decide)
  have hb2 : Bs w1 av 1 cv [97] := hb1
  have c1 := conv_bs (P := Tryd.prog) hb2 22 9 5 Tryd.underlying22 Tryd.underlying5 Tryd.underlying9
  have e1 : (str [97]).toList = [97] := by decide +kernel
  have HF := Lib.hid (below_then HB.out (below_of_ch hch))
  clear hown hch hb1 hb2 HU HB
  go_wp2
  go_ret
  exact ⟨rfl, HF.out⟩
end Go.Proofs.YtbohhdakbgnaeaaDoor
end

section
namespace Go.Proofs.YtbohhdakbgnaeaaDoor
open Go.RowKit

theorem is_yes (n : Int) (h0 : (n == 0) = false) (w : World) : Calls Tryd.prog 12 #[.iface 35 (.int .i64 n), .int .i64 n] w fun e w' => e = .returned (.bool true) ∧ w = w' := by
  have H0 := Lib.hid h0
  clear h0
  go_enter Tryd.func12, Tryd.ntmps12
  go_wp2_with fail
  refine (num_err n H0.out _).mono ?_
  rintro e w' ⟨rfl, rfl⟩
  go_wp2
  go_ret
  exact ⟨by simp, rfl⟩
end Go.Proofs.YtbohhdakbgnaeaaDoor
end

section
namespace Go.Proofs.YtbohhdakbgnaeaaDoor
open Go.RowKit

theorem Bs.take {w : World} {a : Option Addr} {len cap : Nat} {l : List UInt8} (h : Bs w a len cap l) (k : Nat) (hk : k ≤ len) : Bs w a k cap (l.take k) := by
  have h1 := h.hlen
  have h2 := h.hle
  have h3 := h.hcap
  refine ⟨by simp; omega, by omega, by omega, h.hmax, h.hnil, fun i hi => ?_⟩
  obtain ⟨b, off, e, hb, hc⟩ := h.at' i (by omega)
  refine ⟨b, off, e, hb, ?_⟩
  rw [hc]
  simp [gb, List.getD, List.getElem?_take, hi]
end Go.Proofs.YtbohhdakbgnaeaaDoor
end

section
namespace Go.Proofs.YtbohhdakbgnaeaaDoor
open Go.RowKit

/-- What Expand answers. -/
def ExpPost (w : World) (r : Int × List UInt8) (e : Ending) (w' : World) : Prop :=
  Below w.heap.size w w' ∧ ((r.1 ≠ 0 ∧ e = .returned (.tuple #[.slice none 0 0, .iface 35 (.int .i64 r.1)])) ∨
    (r.1 = 0 ∧ ∃ v, e = .returned (.tuple #[v, .nilIface]) ∧ w'.ownsRow w.heap.size 5 1 v r.2.length (bvs r.2)))
/-- A new output. -/
theorem ou_new (w : World) (m : Nat) (ls : Bool) : Ou (w.alloc (.cells #[.slice none 0 0, .int .i64 (m : Nat), .bool ls, .slice none 0 0] 59)) w.heap.size w.heap.size 0 59 #[.slice none 0 0, .int .i64 (m : Nat), .bool ls, .slice none 0 0] (.slice none 0 0) [] m ls (.slice none 0 0) [] :=
  ⟨heap_alloc_last w _, rfl, rfl, rfl, rfl, World.ownsRow_nil _ _ _ _, World.ownsRow_nil _ _ _ _, fun k hk => by simp [Value.ownBlock] at hk, fun k hk => by simp [Value.ownBlock] at hk, fun k hk => by simp [Value.ownBlock] at hk⟩
set_option maxRecDepth 100000 in
set_option maxHeartbeats 4000000 in
theorem expand_any (a : Option Addr) (len cap : Nat) (ts : List Tok) (m : Int) (w : World) (h : Ts2 w a len cap ts) (hl : len ≤ 100000000) :
    Calls Tryd.prog 10 #[.slice a len cap, .int .i64 m] w (ExpPost w (Tk.exp m ts)) := by
  have HL := Lib.hid h.hlen
  have H := Lib.hid h
  clear h
  by_cases hm : 0 ≤ m ∧ m ≤ 4194304
  rotate_left
  · have E := Lib.hid (show decide (0 ≤ m ∧ m ≤ 4194304) = false from decide_eq_false hm)
    have HE : Hid (Tk.exp m ts = (7, [])) := Lib.hid (by unfold Tk.exp; rw [if_neg hm])
    clear hm
    go_enter Tryd.func10, Tryd.ntmps10
    go_wp2_with fail
    refine (isMost_any m w).mono ?_
    rintro e w' ⟨rfl, rfl⟩
    rw [E.out]
    go_wp2
    go_ret2
    exact ⟨Below.refl _ _, .inl (by rw [HE.out]; exact ⟨by decide, rfl⟩)⟩
  have E := Lib.hid (show decide (0 ≤ m ∧ m ≤ 4194304) = true from decide_eq_true hm)
  obtain ⟨n, rfl⟩ := Int.eq_ofNat_of_zero_le hm.1
  have hn : n ≤ 4194304 := by omega
  have HE : Hid (Tk.exp (n : Int) ts = Tk.upto n ts len) := Lib.hid (by unfold Tk.exp; rw [if_pos hm, Int.toNat_natCast, HL.out])
  clear hm
  have HO := Lib.hid (ou_new w n false)
  have HB := Lib.hid (below_alloc w (.cells #[.slice none 0 0, .int .i64 (n : Nat), .bool false, .slice none 0 0] 59))
  have HZ : (w.alloc (.cells #[.slice none 0 0, .int .i64 (n : Nat), .bool false, .slice none 0 0] 59)).heap.size = w.heap.size + 1 := by simp
  go_enter Tryd.func10, Tryd.ntmps10
  go_wp2_with fail
  refine (isMost_any (n : Int) w).mono ?_
  rintro e w' ⟨rfl, rfl⟩
  rw [E.out]
  go_wp2
  revert HO HB HZ
  generalize World.alloc _ _ = w1
  intro HO HB HZ
  generalize hcs : (#[.slice none 0 0, .int .i64 (n : Nat), .bool false, .slice none 0 0] : Array Value) = cs at *
  clear hcs
  have HS := Lib.hid (And.intro (show Tk.upto n ts 0 = (0, []) from rfl) (Og.refl HO.out))
  clear HO
  go_loopw [18] (fun i wr => ∃ k : Nat, k ≤ len ∧ i = .int .i64 k ∧ ∃ l, Hid (Tk.upto n ts k = (0, l) ∧ Og w1 wr w.heap.size w.heap.size 0 59 cs (.slice none 0 0) (.slice none 0 0) l n false [])) (fun i _ => len - (intOf i).toNat)
  case atStart => exact ⟨0, by omega, rfl, [], HS⟩
  case round =>
    obtain ⟨k, hk, rfl, l, HK⟩ := hrel
    have HBR : Hid (Below w.heap.size w wr) := Lib.hid (by
      obtain ⟨_, _, _, _, _, _, _, _, h6⟩ := HK.out.2
      refine HB.out.trans (h6.below (by omega) (fun j hj => ?_))
      rcases hj with rfl | hj | hj
      · omega
      · simp [Value.ownBlock] at hj
      · simp [Value.ownBlock] at hj)
    have hzr := HBR.out.size
    by_cases hlt : k < len
    · obtain ⟨b, off, ea, _, c0, c1⟩ := (H.out.mono HBR.out).at' k hlt
      subst ea
      have hwf := H.out.wf k hlt
      have HUP := Lib.hid (Tk.upto_next HK.out.1)
      have HER := Lib.hid (fun (x : Int) (y : List UInt8) (h2 : Tk.stp n l (ts.getD k (0, 0)) = (x, y)) (hx : x ≠ 0) => Tk.upto_err HK.out.1 h2 hx (by rw [HL.out]; exact hlt))
      have hlen := Tk.upto_le n ts k l HK.out.1
      generalize ts.getD k (0, 0) = t at *
      obtain ⟨x, y⟩ := t
      dsimp only at c0 c1 hwf
      have HGA := Lib.hid (HK.out.2.below (below_alloc wr (.cells #[.int .i64 x, .int .i64 y] 68)))
      have hrow : (wr.alloc (.cells #[.int .i64 x, .int .i64 y] 68)).heap[wr.heap.size]? = some (.cells #[.int .i64 x, .int .i64 y] 68 (0, 0)) := heap_alloc_last wr _
      have HR := Lib.hid hrow
      have HBA := Lib.hid (below_then HBR.out (below_alloc wr (.cells #[.int .i64 x, .int .i64 y] 68)))
      clear HK hrow
      go_wp2_with fail
      refine (isToken_any (x, y) _ hwf).mono ?_
      rintro e w2 ⟨rfl, hb2⟩
      have HG2 := Lib.hid (HGA.out.below hb2)
      have hrow2 := (hb2.block wr.heap.size (by simp)).trans HR.out
      have HB2 := Lib.hid (below_then HBA.out hb2)
      have g0 : w2.cell? ⟨wr.heap.size, 0, none⟩ = some (.int .i64 x) := by rw [cell_of_row _ _ _ _ _ (0, 0) hrow2]; rfl
      have g1 : w2.cell? ⟨wr.heap.size, 1, none⟩ = some (.int .i64 y) := by rw [cell_of_row _ _ _ _ _ (0, 0) hrow2]; rfl
      clear hb2 hrow2 HGA HR HBA
      cases ht : Tk.isTok (x, y)
      · have HX : Hid (Tk.upto n ts len = (6, [])) := Lib.hid (by
          rw [← HL.out]
          refine HER.out 6 [] ?_ (by decide)
          unfold Tk.stp; rw [ht]; rfl)
        clear ht
        go_wp2
        go_ret2
        exact ⟨HB2.out, .inl (by rw [HE.out, HX.out]; exact ⟨by decide, rfl⟩)⟩
      · obtain ⟨cs', v', vl', h1, h2, h3, h4, h5, h6⟩ := HG2.out
        have HT := Lib.hid ht
        have HADD := Lib.hid (add_any (x, y) h1 ht hn hlen (by simp) (by have := HB2.out.size; omega))
        have H2 := Lib.hid h2
        have H3 := Lib.hid h3
        have H4 := Lib.hid h4
        have H5 := Lib.hid h5
        have H6 := Lib.hid h6
        clear ht h1 h2 h3 h4 h5 h6
        go_wp2_with fail
        refine HADD.out.mono ?_
        rintro e w3 (⟨q, hq, hq0, rfl, hb3⟩ | ⟨hq, rfl, hg3⟩)
        · have HX : Hid (Tk.upto n ts len = (q, [])) := Lib.hid (by
            rw [← HL.out]
            refine HER.out q [] ?_ (by simpa using hq0)
            unfold Tk.stp; rw [HT.out]; exact hq)
          have HB3 := Lib.hid (below_then HB2.out hb3)
          have hqn : q ≠ 0 := by simpa using hq0
          clear hq hb3 HADD
          go_wp2
          go_ret2
          exact ⟨HB3.out, .inl (by rw [HE.out, HX.out]; exact ⟨hqn, rfl⟩)⟩
        · have HX : Hid (Tk.upto n ts (k + 1) = (0, Tk.put l (x, y)) ∧ Og w1 w3 w.heap.size w.heap.size 0 59 cs (.slice none 0 0) (.slice none 0 0) (Tk.put l (x, y)) n false []) := Lib.hid ⟨by
            rw [HUP.out]; unfold Tk.stp; rw [HT.out]; exact hq, Og.trans H2.out H3.out H4.out H5.out H6.out hg3⟩
          clear hq hg3 HADD
          go_wp2
          go_roundw
          case rel => exact ⟨k + 1, by omega, by go_num, _, HX⟩
          case measure => simp [intOf]; omega
    · obtain rfl : len = k := by omega
      obtain ⟨hu, cs', v', vl', h1, h2, h3, h4, h5, h6⟩ := HK.out
      obtain ⟨d0, _, _, _⟩ := h1.cells
      have HP : Hid (ExpPost w (Tk.exp (n : Int) ts) (.returned (.tuple #[v', .nilIface])) wr) := Lib.hid ⟨HBR.out, .inr (by rw [HE.out, hu]; exact ⟨rfl, v', rfl, h1.own⟩)⟩
      clear hu h1 h2 h3 h4 h5 h6 HK
      go_wp2
      go_ret2
      exact HP.out
end Go.Proofs.YtbohhdakbgnaeaaDoor
end
