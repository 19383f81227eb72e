/- slices.Chunk over bytes: the iterator's contract. Adler's sum, in numbers. A function that ranges over functions more than once leaves with as many marks. sums.Adler: its contract. zlib.Wrap: its contract. -/
import Derived.Test.YtfgpmccmalddjaaDoorZ3
import Derived.RangeFuncNested
import Derived.RangeFuncBound
import Derived.RangeFuncCalls
import Derived.RangeFuncLeaves
import Derived.RangeFuncFrom
import Derived.Shelf.Abstract
import Derived.Shelf.RegionOpen
import Derived.OwnWalkIn
import Derived.TacticsInMore
import Derived.LoopNIn
import Derived.LoopIn
import Derived.RegionIn
import Derived.Test.YtfgpmccmalddjaaDoorProg
set_option linter.unusedSimpArgs false
set_option linter.unusedVariables false
section
namespace Go.Proofs.YtfgpmccmalddjaaDoor
open Go.RowKit Go.Shelf
attribute [local go_sem] Oper.semAt_some

/-- A piece that is handed to the body: known in world w0, of at most m bytes. -/
structure Ck (w0 : World) (m : Nat) where
  s : Sl
  at' : Bs w0 s.a s.len s.cap s.l
  le : s.len ≤ m
def ckText {w0 : World} {m : Nat} (ys : List (Ck w0 m)) : List UInt8 := (ys.map fun y => y.s.l).flatten
/-- Piece i of a slice at ⟨b, off⟩. -/
def ckOf (m b off len : Nat) (l : List UInt8) (i : Nat) : Sl := ⟨some ⟨b, off + i * m, none⟩, min m (len - i * m), min m (len - i * m), (l.drop (i * m)).take m⟩
theorem ckOf_ok {w0 : World} {b off len cap : Nat} {l : List UInt8} (h : Bs w0 (some ⟨b, off, none⟩) len cap l) (m i : Nat) :
    Bs w0 (ckOf m b off len l i).a (ckOf m b off len l i).len (ckOf m b off len l i).cap (ckOf m b off len l i).l := by
  have h1 := h.hlen
  have h2 := h.hcap
  refine ⟨by simp [ckOf]; omega, Nat.le_refl _, by simp [ckOf]; omega, by simp [ckOf]; omega, fun e => by simp [ckOf] at e, fun j hj => ?_⟩
  simp only [ckOf] at hj ⊢
  obtain ⟨b', off', e', hb', hc⟩ := h.at' (i * m + j) (by omega)
  simp only [Option.some.injEq, Addr.mk.injEq, and_true] at e'
  obtain ⟨rfl, rfl⟩ := e'
  refine ⟨b, off + i * m, rfl, hb', ?_⟩
  rw [Nat.add_assoc, hc]
  have : j < m := by omega
  simp [gb, List.getD, List.getElem?_drop, List.getElem?_take, this]
def ck {w0 : World} {b off len cap : Nat} {l : List UInt8} (h : Bs w0 (some ⟨b, off, none⟩) len cap l) (m i : Nat) : Ck w0 m := ⟨ckOf m b off len l i, ckOf_ok h m i, by simp [ckOf]; omega⟩
def ckUp {w0 : World} {b off len cap : Nat} {l : List UInt8} (h : Bs w0 (some ⟨b, off, none⟩) len cap l) (m k : Nat) : List (Ck w0 m) := (List.range k).map (ck h m)
theorem ckUp_succ {w0 : World} {b off len cap : Nat} {l : List UInt8} (h : Bs w0 (some ⟨b, off, none⟩) len cap l) (m k : Nat) : ckUp h m (k + 1) = ckUp h m k ++ [ck h m k] := by simp [ckUp, List.range_succ]
theorem ckUp_length {w0 : World} {b off len cap : Nat} {l : List UInt8} (h : Bs w0 (some ⟨b, off, none⟩) len cap l) (m k : Nat) : (ckUp h m k).length = k := by simp [ckUp]
theorem ckText_append {w0 : World} {m : Nat} (xs ys : List (Ck w0 m)) : ckText (xs ++ ys) = ckText xs ++ ckText ys := by simp [ckText]
theorem ckUp_text {w0 : World} {b off len cap : Nat} {l : List UInt8} (h : Bs w0 (some ⟨b, off, none⟩) len cap l) (m k : Nat) : ckText (ckUp h m k) = l.take (k * m) := by
  induction k with
  | zero => simp [ckUp, ckText]
  | succ k ih =>
    rw [ckUp_succ, ckText_append, ih]
    simp only [ckText, List.map_cons, List.map_nil, List.flatten_cons, List.flatten_nil, List.append_nil, ck, ckOf]
    rw [Nat.add_mul, Nat.one_mul, List.take_add]

/-- What a round keeps: the two boxes that the iterator reads. -/
def Kc (b n : Nat) (W W' : World) : Prop := W'.cell? ⟨b, 0, none⟩ = W.cell? ⟨b, 0, none⟩ ∧ W'.cell? ⟨n, 0, none⟩ = W.cell? ⟨n, 0, none⟩

set_option maxRecDepth 100000 in
set_option maxHeartbeats 2000000 in
theorem chunk1_in (F : Fence) (n m : Nat) (hm : 1 ≤ m) (hm2 : m ≤ 1099511627776) (h7 : F.fn 73) (hro : F.round = none) (hn : 1 ≤ n) (y Bs' Bn : Nat) (w0 : World) (b off len cap : Nat) (l : List UInt8) (hbs : Bs w0 (some ⟨b, off, none⟩) len cap l)
    (J Jx : List (Ck w0 m) → World → Prop)
    (hY : ∀ pre x W, J pre W → pre.length < len → YieldAt F (n - 1) Tryd.prog y #[.slice x.s.a x.s.len x.s.cap] W fun e W' =>
      (e = .returned (.bool true) ∧ J (pre ++ [x]) W' ∧ Kc Bs' Bn W W') ∨ (e = .returned (.bool false) ∧ Jx (pre ++ [x]) W'))
    (W : World) (hcs : W.cell? ⟨Bs', 0, none⟩ = some (.slice (some ⟨b, off, none⟩) len cap)) (hcn : W.cell? ⟨Bn, 0, none⟩ = some (.int .i64 m)) (h0 : J [] W)
    (hJd : ∀ xs W, J xs W → J xs W.drew) :
    CallsIn F n Tryd.prog 73 #[.func (.yield y) #[] #[], .pointer (some ⟨Bs', 0, none⟩), .pointer (some ⟨Bn, 0, none⟩)] W fun e W' => (∃ v, e = .returned v) ∧
      ((∃ ys, ckText ys = l ∧ J ys W') ∨ (∃ pre, Jx pre W')) := by
  have hle := hbs.hle
  have hcp := hbs.hcap
  have hmx := hbs.hmax
  refine callsIn_of_wp Tryd.func73 rfl h7 ?_ hro
  simp only [Tryd.ntmps73, List.size_toArray, List.length_cons, List.length_nil, Nat.reduceAdd, Nat.reduceSub, Array.replicate_succ, Array.replicate_zero, List.push_toArray, List.append_toArray, List.nil_append, List.cons_append]
  gi_wp2
  gi_loopw [4] (fun i wr => ∃ k : Nat, k * m < len + m ∧ i = .int .i64 (k * m : Nat) ∧ J (ckUp hbs m k) wr ∧ Hid (wr.cell? ⟨Bs', 0, none⟩ = some (.slice (some ⟨b, off, none⟩) len cap)) ∧ Hid (wr.cell? ⟨Bn, 0, none⟩ = some (.int .i64 m)))
    (fun i _ => len + m - (intOf i).toNat)
  case atStart => exact ⟨0, by omega, by simp, h0, hcs, hcn⟩
  case round =>
    obtain ⟨k, hk, rfl, hJs, H1, H2⟩ := hrel
    have hc1 := H1.out
    have hc2 := H2.out
    by_cases hlt : k * m < len
    · have hq : (k + 1) * m = k * m + m := by rw [Nat.add_mul, Nat.one_mul]
      have HQ := Lib.hid hq
      clear hq
      have hv : Value.slice (ck hbs m k).s.a (ck hbs m k).s.len (ck hbs m k).s.cap = .slice (some ⟨b, off + k * m, none⟩) (min m (len - k * m)) (min m (len - k * m)) := rfl
      have HV := Lib.hid hv
      clear hv
      have HK : Hid (ckUp hbs m (k + 1) = ckUp hbs m k ++ [ck hbs m k]) := Lib.hid (ckUp_succ hbs m k)
      have HT := Lib.hid (ckUp_text hbs m k)
      have hkq : k ≤ k * m := Nat.le_mul_of_pos_right k (by omega)
      generalize k * m = q at *
      obtain ⟨fn, tmps, assign, body, hy, hR⟩ := hY (ckUp hbs m k) (ck hbs m k) wr.drew (hJd _ _ hJs) (by rw [ckUp_length]; omega)
      rw [HV.out] at hy
      by_cases hsm : len - q < m
      · have e1 : min m (len - q) = len - q := by omega
        rw [e1] at hy
        clear e1
        gi_wp2
        gi_region
        all_goals gi_wp2
        all_goals
          refine hR.mono ?_
          rintro e W3 (⟨rfl, hJ3, hk3⟩ | ⟨rfl, hJx3⟩)
          · have hc3 : W3.cell? ⟨Bn, 0, none⟩ = some (.int .i64 m) := hk3.2.trans hc2
            have HJ3 := Lib.hid hJ3
            have HK3 := Lib.hid (hk3.1.trans hc1)
            have HN3 := Lib.hid hc3
            clear hJ3 hk3 hR hy hc1 hc2 hJs hcs hcn h0
            gi_wp2
            go_roundw
            case rel => exact ⟨k + 1, by rw [HQ.out]; omega, by rw [HQ.out]; go_num, by rw [HK.out]; exact HJ3.out, HK3, HN3⟩
            case measure => simp [intOf]; omega
          · gi_wp2
            refine bodyPost_ret (results_none rfl _ _ _) rfl ?_
            exact ⟨⟨_, rfl⟩, .inr ⟨_, hJx3⟩⟩
      · have e1 : min m (len - q) = m := by omega
        rw [e1] at hy
        clear e1
        gi_wp2
        gi_region
        all_goals gi_wp2
        all_goals
          refine hR.mono ?_
          rintro e W3 (⟨rfl, hJ3, hk3⟩ | ⟨rfl, hJx3⟩)
          · have hc3 : W3.cell? ⟨Bn, 0, none⟩ = some (.int .i64 m) := hk3.2.trans hc2
            have HJ3 := Lib.hid hJ3
            have HK3 := Lib.hid (hk3.1.trans hc1)
            have HN3 := Lib.hid hc3
            clear hJ3 hk3 hR hy hc1 hc2 hJs hcs hcn h0
            gi_wp2
            go_roundw
            case rel => exact ⟨k + 1, by rw [HQ.out]; omega, by rw [HQ.out]; go_num, by rw [HK.out]; exact HJ3.out, HK3, HN3⟩
            case measure => simp [intOf]; omega
          · gi_wp2
            refine bodyPost_ret (results_none rfl _ _ _) rfl ?_
            exact ⟨⟨_, rfl⟩, .inr ⟨_, hJx3⟩⟩
    · gi_wp2
      go_end0
      exact ⟨⟨_, rfl⟩, .inl ⟨_, by rw [ckUp_text]; exact List.take_of_length_le (by rw [hbs.hlen]; omega), hJs⟩⟩

set_option maxRecDepth 100000 in
set_option maxHeartbeats 1000000 in
theorem chunk1_nil_in (F : Fence) (n m : Nat) (h7 : F.fn 73) (hro : F.round = none) (y Bs' Bn : Nat) (a : Option Addr) (cap : Nat) (J : Prop) (W : World)
    (hcs : W.cell? ⟨Bs', 0, none⟩ = some (.slice a 0 cap)) (h0 : J) :
    CallsIn F n Tryd.prog 73 #[.func (.yield y) #[] #[], .pointer (some ⟨Bs', 0, none⟩), .pointer (some ⟨Bn, 0, none⟩)] W fun e W' => (∃ v, e = .returned v) ∧ J ∧ W = W' := by
  have H0 := Lib.hid h0
  clear h0
  refine callsIn_of_wp Tryd.func73 rfl h7 ?_ hro
  simp only [Tryd.ntmps73, List.size_toArray, List.length_cons, List.length_nil, Nat.reduceAdd, Nat.reduceSub, Array.replicate_succ, Array.replicate_zero, List.push_toArray, List.append_toArray, List.nil_append, List.cons_append]
  gi_wp2
  gi_loop [4] (fun i => i = .int .i64 0) (fun _ => 0)
  case atStart => rfl
  case round =>
    obtain rfl := hrel
    gi_wp2
    go_end0
    exact ⟨⟨_, rfl⟩, H0, rfl⟩

theorem chunk_stops (F : Fence) (n m : Nat) (hm : 1 ≤ m) (hm2 : m ≤ 1099511627776) (h7 : F.fn 73) (hro : F.round = none) (hn : 1 ≤ n) (Bs' Bn : Nat) (w0 : World) (a : Option Addr) (len cap : Nat) (l : List UInt8) (hbs : Bs w0 a len cap l)
    (w : World) (hb1 : Bs' < w.heap.size) (hb2 : Bn < w.heap.size) (hcs : w.cell? ⟨Bs', 0, none⟩ = some (.slice a len cap)) (hcn : w.cell? ⟨Bn, 0, none⟩ = some (.int .i64 m)) :
    SeqStopsK F n Tryd.prog 73 #[.pointer (some ⟨Bs', 0, none⟩), .pointer (some ⟨Bn, 0, none⟩)] (fun x : Ck w0 m => #[.slice x.s.a x.s.len x.s.cap]) (Kc Bs' Bn) (fun ys => ckText ys = l) (fun _ => True) len w := fun y J Jx W hW hJ hJx hY h0 => by
  have hcs' := (hW.cell (p := ⟨Bs', 0, none⟩) hb1).trans hcs
  have hcn' := (hW.cell (p := ⟨Bn, 0, none⟩) hb2).trans hcn
  by_cases hl : len = 0
  · subst hl
    have hl0 : l = [] := List.eq_nil_of_length_eq_zero hbs.hlen
    subst hl0
    refine (chunk1_nil_in F n m h7 hro y Bs' Bn a cap (J [] W) W hcs' h0).mono ?_
    rintro e W' ⟨he, hj, rfl⟩
    exact ⟨he, .inl ⟨[], rfl, hj⟩⟩
  · obtain ⟨b, off, rfl, _, _⟩ := hbs.at' 0 (by omega)
    refine (chunk1_in F n m hm hm2 h7 hro hn y Bs' Bn w0 b off len cap l hbs J Jx hY W hcs' hcn' h0 ?_).mono ?_
    · exact fun xs W hx => hJ xs W W.drew none hx ⟨rfl, rfl, rfl, Nat.le_refl _, fun _ _ _ => rfl⟩ (fun r e => by cases e)
    · rintro e W' ⟨he, ⟨ys, hy, hj⟩ | ⟨pre, hj⟩⟩
      · exact ⟨he, .inl ⟨ys, hy, hj⟩⟩
      · exact ⟨he, .inr ⟨pre, trivial, hj⟩⟩

theorem chunk_in (F : Fence) (n : Nat) (h5 : F.fn 62) (hro : F.round = none) (a : Option Addr) (len cap m : Nat) (hm : 1 ≤ m) (w : World) :
    CallsIn F n Tryd.prog 62 #[.slice a len cap, .int .i64 m] w fun e w' => e = .returned (.func (.func 73) #[] #[.pointer (some ⟨w.heap.size, 0, none⟩), .pointer (some ⟨w.heap.size + 1, 0, none⟩)]) ∧
      w' = (w.alloc (.cells #[.slice a len cap] 22)).alloc (.cells #[.int .i64 m] 3) := by
  refine callsIn_of_wp Tryd.func62 rfl h5 ?_ hro
  simp only [Tryd.ntmps62, List.size_toArray, List.length_cons, List.length_nil, Nat.reduceAdd, Nat.reduceSub, Array.replicate_succ, Array.replicate_zero, List.push_toArray, List.append_toArray, List.nil_append, List.cons_append]
  gi_wp2
  go_ret
  exact ⟨rfl, rfl⟩
end Go.Proofs.YtfgpmccmalddjaaDoor
end

section
namespace Go.Proofs.YtfgpmccmalddjaaDoor.Ad

/-- The sum of the bytes. -/
def s (l : List UInt8) : Nat := (l.map UInt8.toNat).sum
/-- The sum of the sums of all beginnings but the empty one. -/
def t : List UInt8 → Nat
  | [] => 0
  | x :: l => (l.length + 1) * x.toNat + t l
theorem s_append (l m : List UInt8) : s (l ++ m) = s l + s m := by simp [s]
theorem t_append (l m : List UInt8) : t (l ++ m) = t l + m.length * s l + t m := by
  induction l with
  | nil => simp [t, s]
  | cons x l ih =>
    have e : s (x :: l) = x.toNat + s l := by simp [s]
    simp only [List.cons_append, t, ih, e, List.length_append, Nat.mul_add, Nat.add_mul]
    omega
theorem s_snoc (l : List UInt8) (k : Nat) (h : k < l.length) : s (l.take (k + 1)) = s (l.take k) + gb l k := by
  rw [take_succ_getD l k h, s_append]; simp [s, gb]
theorem t_snoc (l : List UInt8) (k : Nat) (h : k < l.length) : t (l.take (k + 1)) = t (l.take k) + s (l.take k) + gb l k := by
  rw [take_succ_getD l k h, t_append]; simp [t, gb]
def A (l : List UInt8) (k : Nat) : Nat := (1 + s (l.take k)) % 65521
def B (l : List UInt8) (k : Nat) : Nat := (k + t (l.take k)) % 65521
def adler (l : List UInt8) : Nat := 65536 * ((l.length + t l) % 65521) + (1 + s l) % 65521
theorem A_zero (l : List UInt8) : A l 0 = 1 := by simp [A, s]
theorem B_zero (l : List UInt8) : B l 0 = 0 := by simp [B, t]
theorem A_lt (l : List UInt8) (k : Nat) : A l k < 65521 := Nat.mod_lt _ (by omega)
theorem B_lt (l : List UInt8) (k : Nat) : B l k < 65521 := Nat.mod_lt _ (by omega)
theorem A_succ (l : List UInt8) (k : Nat) (h : k < l.length) : A l (k + 1) = (A l k + gb l k) % 65521 := by
  unfold A; rw [s_snoc l k h]; omega
theorem B_succ (l : List UInt8) (k : Nat) (h : k < l.length) : B l (k + 1) = (B l k + A l (k + 1)) % 65521 := by
  unfold A B; rw [t_snoc l k h, s_snoc l k h]; omega
theorem adler_of (l : List UInt8) (k : Nat) (h : k = l.length) : 65536 * B l k + A l k = adler l := by
  subst h; unfold A B adler; rw [List.take_length]
theorem adler_hi (l : List UInt8) : adler l / 65536 = (l.length + t l) % 65521 := by unfold adler; omega
theorem adler_lo (l : List UInt8) : adler l % 65536 = (1 + s l) % 65521 := by unfold adler; omega
theorem adler_lt (l : List UInt8) : adler l < 4294967296 := by unfold adler; omega

theorem s_le (l : List UInt8) : s l ≤ 255 * l.length := by
  induction l with
  | nil => simp [s]
  | cons x l ih =>
    have e : s (x :: l) = x.toNat + s l := by simp [s]
    have := x.toNat_lt
    rw [e, List.length_cons]; omega
theorem t_le (l : List UInt8) (n : Nat) (h : l.length ≤ n) : t l ≤ 255 * n * l.length := by
  induction l with
  | nil => simp [t]
  | cons x l ih =>
    have h1 := x.toNat_lt
    have h2 : (l.length + 1) * x.toNat ≤ n * 255 := Nat.mul_le_mul h (by omega)
    have h3 := ih (by simp at h; omega)
    simp only [t, List.length_cons, Nat.mul_add, Nat.mul_one]
    omega
/-- Behind one piece more. -/
theorem s_next (T x : List UInt8) : ((1 + s T) % 65521 + s x) % 65521 = (1 + s (T ++ x)) % 65521 := by rw [s_append]; omega
theorem t_next (T x : List UInt8) : ((T.length + t T) % 65521 + x.length * ((1 + s T) % 65521) + t x) % 65521 = ((T ++ x).length + t (T ++ x)) % 65521 := by
  rw [t_append, List.length_append]
  have h : (x.length * ((1 + s T) % 65521)) % 65521 = (x.length * (1 + s T)) % 65521 := by rw [Nat.mul_mod, Nat.mod_mod, ← Nat.mul_mod]
  have e : x.length * (1 + s T) = x.length + x.length * s T := by rw [Nat.mul_add, Nat.mul_one]
  rw [e] at h
  generalize x.length * ((1 + s T) % 65521) = X at *
  generalize x.length * s T = Y at *
  omega
/-- What Join comes to. -/
def lowOf (a b : Int) : Int := (a % 65536 - 1 + b % 65536) % 65521
def highOf (a b n : Int) : Int := (a / 65536 + b / 65536 + n % 65521 * (a % 65536 - 1)) % 65521
def join (a b n : Int) : Int := highOf a b n * 65536 + lowOf a b
theorem join_adler (l m : List UInt8) : join (adler l) (adler m) m.length = adler (l ++ m) := by
  have e1 : ((adler l : Int)) % 65536 = (1 + (s l : Int)) % 65521 := by have := adler_lo l; omega
  have e2 : ((adler m : Int)) % 65536 = (1 + (s m : Int)) % 65521 := by have := adler_lo m; omega
  have e3 : ((adler l : Int)) / 65536 = ((l.length : Int) + t l) % 65521 := by have := adler_hi l; omega
  have e4 : ((adler m : Int)) / 65536 = ((m.length : Int) + t m) % 65521 := by have := adler_hi m; omega
  have hlow : lowOf (adler l) (adler m) = ((1 + s (l ++ m)) % 65521 : Nat) := by
    unfold lowOf; rw [e1, e2, s_append]; omega
  have hp : ((m.length : Int) % 65521 * ((1 + (s l : Int)) % 65521 - 1)) % 65521 = ((m.length : Int) * (s l : Int)) % 65521 := by
    rw [Int.mul_emod, Int.mul_emod (m.length : Int) (s l : Int)]
    have h1 : ((1 + (s l : Int)) % 65521 - 1) % 65521 = (s l : Int) % 65521 := by omega
    rw [h1, Int.emod_emod_of_dvd _ (Int.dvd_refl _)]
  have hhigh : highOf (adler l) (adler m) m.length = (((l ++ m).length + t (l ++ m)) % 65521 : Nat) := by
    unfold highOf; rw [e1, e3, e4, t_append, List.length_append]
    have ec : ((l.length + m.length + (t l + m.length * s l + t m) : Nat) : Int) = (l.length : Int) + m.length + (t l + (m.length : Int) * (s l : Int) + t m) := by
      simp only [Int.natCast_add, Int.natCast_mul]
    rw [Int.natCast_emod, ec]
    generalize (m.length : Int) * (s l : Int) = X at *
    generalize (m.length : Int) % 65521 * ((1 + (s l : Int)) % 65521 - 1) = Y at *
    omega
  unfold join; rw [hlow, hhigh]; unfold adler; omega
end Go.Proofs.YtfgpmccmalddjaaDoor.Ad
end

section
namespace Go.Proofs.YtfgpmccmalddjaaDoor
open Go.RowKit

def mkD (D : Nat) : Deferred := { target := .collected D, args := #[] }
/-- The marks' blocks. -/
def Marks (B : Nat) (Ds : List Nat) (W : World) : Prop := Ds.Nodup ∧ ∀ D ∈ Ds, B ≤ D ∧ W.heap[D]? = some (.deferred (some []))
theorem Marks.lt {B : Nat} {Ds : List Nat} {W : World} (h : Marks B Ds W) : ∀ D ∈ Ds, D < W.heap.size := fun D hD => (Array.getElem?_eq_some_iff.1 (h.2 D hD).2).1
theorem Marks.cons {B D : Nat} {Ds : List Nat} {W W' : World} (h : Marks B Ds W) (hb : ∀ k ∈ Ds, W'.heap[k]? = W.heap[k]?) (hD : W.heap.size ≤ D) (hB : B ≤ D) (hd : W'.heap[D]? = some (.deferred (some []))) : Marks B (D :: Ds) W' := by
  refine ⟨List.nodup_cons.2 ⟨fun hm => by have := h.lt D hm; omega, h.1⟩, fun k hk => ?_⟩
  rcases List.mem_cons.1 hk with rfl | hk
  · exact ⟨hB, hd⟩
  · exact ⟨(h.2 k hk).1, (hb k hk).trans (h.2 k hk).2⟩
theorem leaves_marks {F : Fence} {n : Nat} {P : Program} {fn : Func} {tmps : Array Value} {R : Ending → World → Prop} {B : Nat} (Q : World → Prop)
    (hQ : ∀ W D, Q W → B ≤ D → W.heap[D]? = some (.deferred (some [])) → Q (W.putObj D (.deferred none)))
    (hR : ∀ W, Q W → ∃ v, (results fn tmps).run P W = .ok v W ∧ R (.returned v) W) :
    ∀ (Ds : List Nat) (W : World), Marks B Ds W → Q W → LeavesInM F n P fn tmps R (Ds.map mkD) .returning W
  | [], W, _, hq => hR W hq
  | D :: Ds, W, hm, hq => by
    have hD := hm.2 D (by simp)
    refine ⟨by simp, .inl ⟨D, _, rfl, run_takeDeferred hD.2, ?_⟩⟩
    refine leaves_marks Q hQ hR Ds _ ⟨(List.nodup_cons.1 hm.1).2, fun k hk => ⟨(hm.2 k (List.mem_cons_of_mem _ hk)).1, ?_⟩⟩ (hQ W D hq hD.1 hD.2)
    rw [World.putObj_heap_other (fun e => (List.nodup_cons.1 hm.1).1 (by rw [← e]; exact hk))]
    exact (hm.2 k (List.mem_cons_of_mem _ hk)).2
end Go.Proofs.YtfgpmccmalddjaaDoor
end

section
namespace Go.Proofs.YtfgpmccmalddjaaDoor
open Go.RowKit Go.Shelf
attribute [local go_sem] Oper.semAt_some

/-- Both sums of a text, in their two boxes at S. -/
structure AdI (S : Nat) (w : World) (T : List UInt8) (W : World) : Prop where
  ca : W.cell? ⟨S, 0, none⟩ = some (.int .i64 ((1 + Ad.s T) % 65521 : Nat))
  fa : W.frozen? ⟨S, 0, none⟩ = false
  cb : W.cell? ⟨S + 1, 0, none⟩ = some (.int .i64 ((T.length + Ad.t T) % 65521 : Nat))
  fb : W.frozen? ⟨S + 1, 0, none⟩ = false
  bel : Below S w W

/-- Two stores side by side. -/
theorem two_set (W : World) (S B : Nat) (v1 v2 u1 u2 : Value) (h1 : W.cell? ⟨S, 0, none⟩ = some u1) (h2 : W.cell? ⟨S + 1, 0, none⟩ = some u2) (hB : B ≤ S) :
    ((W.setCell ⟨S, 0, none⟩ v1).setCell ⟨S + 1, 0, none⟩ v2).cell? ⟨S, 0, none⟩ = some v1 ∧ ((W.setCell ⟨S, 0, none⟩ v1).setCell ⟨S + 1, 0, none⟩ v2).cell? ⟨S + 1, 0, none⟩ = some v2 ∧
    (∀ a, ((W.setCell ⟨S, 0, none⟩ v1).setCell ⟨S + 1, 0, none⟩ v2).frozen? a = W.frozen? a) ∧ KeepsOthers W ((W.setCell ⟨S, 0, none⟩ v1).setCell ⟨S + 1, 0, none⟩ v2) ∧
    Below B W ((W.setCell ⟨S, 0, none⟩ v1).setCell ⟨S + 1, 0, none⟩ v2) ∧ ((W.setCell ⟨S, 0, none⟩ v1).setCell ⟨S + 1, 0, none⟩ v2).heap.size = W.heap.size ∧
    (∀ r, r ≠ S → r ≠ S + 1 → ((W.setCell ⟨S, 0, none⟩ v1).setCell ⟨S + 1, 0, none⟩ v2).heap[r]? = W.heap[r]?) := by
  refine ⟨?_, ?_, fun a => by rw [World.frozen?_setCell, World.frozen?_setCell], (KeepsOthers.setCell _ _ _).trans (KeepsOthers.setCell _ _ _), ((Below.refl _ _).setCell hB _).setCell (by show B ≤ S + 1; omega) _, by simp, fun r e1 e2 => ?_⟩
  · rw [World.cell?_of_block (w := W.setCell ⟨S, 0, none⟩ v1) (heap_setCell_other _ ⟨S + 1, 0, none⟩ S v2 (by show S ≠ S + 1; omega))]
    exact World.cell?_setCell_same' _ _ _ (by rw [h1]; rfl)
  · refine World.cell?_setCell_same' _ _ _ ?_
    rw [World.cell?_of_block (w := W) (heap_setCell_other _ ⟨S, 0, none⟩ (S + 1) v1 (by show S + 1 ≠ S; omega)), h2]
    rfl
  · rw [heap_setCell_other _ ⟨S + 1, 0, none⟩ r v2 e2, heap_setCell_other _ ⟨S, 0, none⟩ r v1 e1]
theorem or16' {a b : Nat} (h1 : a < 65521) (h3 : b < 65521) : bits .or .i64 ((a : Int) * 65536) (b : Int) = (a : Int) * 65536 + (b : Int) :=
  bits_join .i64 62 (by decide) (fun n h0 h1 => IntWalk.i64_in _ ⟨by omega, by omega⟩) 16 ((a : Int) * 65536) (b : Int) (by omega) (by omega) (by omega) (by omega) (by omega) (by omega)

set_option maxRecDepth 100000 in
set_option maxHeartbeats 4000000 in
theorem adler_any (a : Option Addr) (len cap : Nat) (ps : List Sl) (w : World) (h : Parts w a len cap ps) :
    Calls Tryd.prog 38 #[.slice a len cap] w fun e w' => e = .returned (.int .i64 (Ad.adler (flat ps))) ∧ Below w.heap.size w w' := by
  have hle := h.hle
  have hcp := h.hcap
  have HL := Lib.hid h.hlen
  have H := Lib.hid h
  clear h
  refine (callsIn_wide (n := 3)).1 ?_
  have hro : (Fence.wide).round = none := rfl
  refine callsIn_of_wp_marks Tryd.func38 rfl trivial ?_ hro
  simp only [Tryd.ntmps38, List.size_toArray, List.length_cons, List.length_nil, Nat.reduceAdd, Nat.reduceSub, Array.replicate_succ, Array.replicate_zero, List.push_toArray, List.append_toArray, List.nil_append, List.cons_append]
  gi_wp2
  refine wpIn_loop (fun a' w' => ∃ (k : Nat) (Ds : List Nat) (u6 u13 u14 u15 u16 u17 u37 : Value), k ≤ len ∧ AdI w.heap.size w (flat (ps.take k)) w' ∧ Marks (w.heap.size + 2) Ds w' ∧ w.heap.size + 2 ≤ w'.heap.size ∧
      a' = { tmps := #[.slice a len cap, undef, .int .i64 0, .pointer (some ⟨w.heap.size, 0, none⟩), .pointer (some ⟨w.heap.size + 1, 0, none⟩), undef, u6, undef, undef, undef, .slice a len cap, .int .i64 len, .int .i64 k, u13, u14, u15, u16, u17,
        undef, undef, undef, undef, undef, undef, undef, undef, undef, undef, undef, undef, undef, undef, undef, undef, undef, undef, undef, u37, undef, undef, undef, undef], defers := Ds.map mkD })
    (fun a' _ => len - (intOf (a'.tmps.getD 12 undef)).toNat) ?_ ?_
  · refine ⟨0, [], undef, undef, undef, undef, undef, undef, undef, by omega, ?_, ⟨List.nodup_nil, fun D hD => by simp at hD⟩, by simp, rfl⟩
    refine ⟨?_, ?_, ?_, ?_, below_alloc2 _ _ _⟩
    · rw [cell_of_row _ _ _ _ _ (0, 0) (heap_alloc2_old _ _ _)]; rfl
    · exact frozen_of_row _ _ _ _ _ (heap_alloc2_old _ _ _)
    · rw [cell_of_row _ _ _ _ _ (0, 0) (heap_alloc2_new _ _ _)]; rfl
    · exact frozen_of_row _ _ _ _ _ (heap_alloc2_new _ _ _)
  · rintro a' wo ⟨k, Ds, u6, u13, u14, u15, u16, u17, u37, hk, hI, hM, hz, rfl⟩
    have HI := Lib.hid hI
    have HM := Lib.hid hM
    clear hI hM
    by_cases hlt : k < len
    · obtain ⟨b, off, rfl, hb, hcell0, hs⟩ := H.out.at' k hlt
      have hcell : wo.cell? ⟨b, off + k, none⟩ = _ := (HI.out.bel.cell (p := ⟨b, off + k, none⟩) hb).trans hcell0
      clear hcell0
      have HP : Hid (nth ps k = nth ps k) := Lib.hid rfl
      have HS : Hid (Bs w (nth ps k).a (nth ps k).len (nth ps k).cap (nth ps k).l) := Lib.hid hs
      have HF : Hid (flat (ps.take (k + 1)) = flat (ps.take k) ++ (nth ps k).l) := Lib.hid (flat_snoc ps k (by rw [HL.out]; exact hlt))
      clear hs
      generalize nth ps k = p at *
      obtain ⟨pa, plen, pcap, pl⟩ := p
      simp only at hcell
      have hzw := wo.heap.size
      gi_wp2_with fail
      refine ⟨trivial, (chunk_in Fence.wide 2 trivial rfl pa plen pcap 65536 (by omega) wo).mono ?_⟩
      rintro e w' ⟨rfl, rfl⟩
      gi_wp2
      have hW2 : Below wo.heap.size wo ((wo.alloc (.cells #[.slice pa plen pcap] 22)).alloc (.cells #[.int .i64 ((65536 : Nat) : Int)] 3)) := below_alloc2 _ _ _
      have hs2 : ((wo.alloc (.cells #[.slice pa plen pcap] 22)).alloc (.cells #[.int .i64 ((65536 : Nat) : Int)] 3)).heap.size = wo.heap.size + 2 := by simp
      have hx1 : ((wo.alloc (.cells #[.slice pa plen pcap] 22)).alloc (.cells #[.int .i64 ((65536 : Nat) : Int)] 3)).cell? ⟨wo.heap.size, 0, none⟩ = some (.slice pa plen pcap) := by
        rw [cell_of_row _ _ _ _ _ (0, 0) (heap_alloc2_old _ _ _)]; rfl
      have hx2 : ((wo.alloc (.cells #[.slice pa plen pcap] 22)).alloc (.cells #[.int .i64 ((65536 : Nat) : Int)] 3)).cell? ⟨wo.heap.size + 1, 0, none⟩ = some (.int .i64 ((65536 : Nat) : Int)) := by
        rw [cell_of_row _ _ _ _ _ (0, 0) (heap_alloc2_new _ _ _)]; rfl
      have hI2 : AdI w.heap.size w (flat (ps.take k)) ((wo.alloc (.cells #[.slice pa plen pcap] 22)).alloc (.cells #[.int .i64 ((65536 : Nat) : Int)] 3)) :=
        ⟨(hW2.cell (p := ⟨w.heap.size, 0, none⟩) (by show w.heap.size < _; omega)).trans HI.out.ca, (hW2.frozen (p := ⟨w.heap.size, 0, none⟩) (by show w.heap.size < _; omega)).trans HI.out.fa,
          (hW2.cell (p := ⟨w.heap.size + 1, 0, none⟩) (by show w.heap.size + 1 < _; omega)).trans HI.out.cb, (hW2.frozen (p := ⟨w.heap.size + 1, 0, none⟩) (by show w.heap.size + 1 < _; omega)).trans HI.out.fb,
          HI.out.bel.trans (hW2.mono (by omega))⟩
      have hM2 : Marks (w.heap.size + 2) Ds ((wo.alloc (.cells #[.slice pa plen pcap] 22)).alloc (.cells #[.int .i64 ((65536 : Nat) : Int)] 3)) :=
        ⟨HM.out.1, fun D hD => ⟨(HM.out.2 D hD).1, (hW2.block D (HM.out.lt D hD)).trans (HM.out.2 D hD).2⟩⟩
      revert hW2 hs2 hx1 hx2 hI2 hM2
      generalize (wo.alloc (.cells #[.slice pa plen pcap] 22)).alloc (.cells #[.int .i64 ((65536 : Nat) : Int)] 3) = W2
      intro hW2 hs2 hx1 hx2 hI2 hM2
      have hstp := chunk_stops Fence.wide 2 65536 (by omega) (by omega) trivial rfl (by omega) wo.heap.size (wo.heap.size + 1) w pa plen pcap pl HS.out W2 (by omega) (by omega) hx1 hx2
      refine wpIn_rangeFunc_ownF rfl (by omega) (gf := 73) (lb := #[.pointer (some ⟨wo.heap.size, 0, none⟩), .pointer (some ⟨wo.heap.size + 1, 0, none⟩)]) rfl trivial (enters_of Tryd.func73 (by kernel_rfl) rfl)
        hstp ?hKt ?hKb (Below.refl _ _) (fun _ => rfl)
        (fun pre W => AdI w.heap.size w (flat (ps.take k) ++ ckText pre) W ∧ Marks (w.heap.size + 2) Ds W ∧ W2.heap.size ≤ W.heap.size)
        (fun _ _ _ => False) ?hI (fun _ _ _ _ _ hs _ _ => hs) ?h0
        (fun x => { tmps := #[.slice (some ⟨b, off, none⟩) len cap, undef, .int .i64 0, .pointer (some ⟨w.heap.size, 0, none⟩), .pointer (some ⟨w.heap.size + 1, 0, none⟩), undef, .slice pa plen pcap, .slice x.s.a x.s.len x.s.cap, undef, undef,
          .slice (some ⟨b, off, none⟩) len cap, .int .i64 len, .int .i64 k, .bool true, .pointer (some ⟨b, off + k, none⟩), .slice pa plen pcap, .slice pa plen pcap,
          .func (.func 73) #[] #[.pointer (some ⟨wo.heap.size, 0, none⟩), .pointer (some ⟨wo.heap.size + 1, 0, none⟩)], .slice x.s.a x.s.len x.s.cap,
          undef, undef, undef, undef, undef, undef, undef, undef, undef, undef, undef, undef, undef, undef, undef, undef, undef, undef, u37, undef, undef, undef, undef], defers := [] }) ?assign ?body ?done ?stop
      case hKt => exact fun h1 h2 => ⟨h2.1.trans h1.1, h2.2.trans h1.2⟩
      case hKb =>
        intro W l o o' hl _ _ _
        exact ⟨World.cell?_of_block (World.putObj_heap_other (by show wo.heap.size ≠ l; omega)), World.cell?_of_block (World.putObj_heap_other (by show wo.heap.size + 1 ≠ l; omega))⟩
      case hI =>
        intro s A B row ⟨hs, hm, hz0⟩ hg hr
        refine ⟨⟨cell_kept hs.ca hg (fun r e => (hr r e).2), (frozen_kept hs.ca hg (fun r e => (hr r e).2)).trans hs.fa, cell_kept hs.cb hg (fun r e => (hr r e).2), (frozen_kept hs.cb hg (fun r e => (hr r e).2)).trans hs.fb,
          hs.bel.grown hg hs.bel.size (fun r e => by have := (hr r e).1; omega)⟩, ⟨hm.1, fun D hD => ⟨(hm.2 D hD).1, ?_⟩⟩, Nat.le_trans hz0 hg.size⟩
        rw [hg.block D (hm.lt D hD) (fun e => by have := (hr D e.symm).1; have := HM.out.lt D hD; omega)]
        exact (hm.2 D hD).2
      case h0 => exact ⟨by simpa [ckText] using hI2, hM2, Nat.le_refl _⟩
      case assign =>
        intro l x W K hK
        gi_wp2
        exact hK
      case body =>
        rintro l pre x W ⟨hs, hm, hz0⟩ _
        have hxb := x.at'
        have hxle := x.le
        have hxn := hxb.hlen
        have HXN := Lib.hid hxn
        have HXL := Lib.hid hxle
        clear hxn hxle hI2 hM2 hx1 hx2 hstp hcell
        have HX := Lib.hid hxb
        have hxc := hxb.hcap
        clear hxb
        have HTX : Hid (flat (ps.take k) ++ ckText (pre ++ [x]) = (flat (ps.take k) ++ ckText pre) ++ x.s.l) := Lib.hid (by rw [ckText_append, List.append_assoc]; simp [ckText])
        generalize x.s.a = xa at *
        generalize x.s.len = xn at *
        generalize x.s.cap = xc at *
        generalize x.s.l = xl at *
        generalize flat (ps.take k) ++ ckText pre = T at *
        have hca := hs.ca
        have hcb := hs.cb
        have hfa := hs.fa
        have hfb := hs.fb
        have HB := Lib.hid hs.bel
        have HMK := Lib.hid hm
        clear hs hm
        have HSN := Lib.hid (Ad.s_next T xl)
        have HTN := Lib.hid (Ad.t_next T xl)
        have ha := Nat.mod_lt (1 + Ad.s T) (show 65521 > 0 by omega)
        have hbb := Nat.mod_lt (T.length + Ad.t T) (show 65521 > 0 by omega)
        generalize (1 + Ad.s T) % 65521 = A at *
        generalize (T.length + Ad.t T) % 65521 = B at *
        have HA := Lib.hid ha
        have HBB := Lib.hid hbb
        clear ha hbb
        gi_wp2
        gi_loopw [21] (fun i wr => ∃ j : Nat, j ≤ xn ∧ i = .int .i64 j ∧ Hid (wr.cell? ⟨w.heap.size, 0, none⟩ = some (.int .i64 (A + Ad.s (xl.take j) : Nat))) ∧ Hid (wr.frozen? ⟨w.heap.size, 0, none⟩ = false) ∧
          Hid (wr.cell? ⟨w.heap.size + 1, 0, none⟩ = some (.int .i64 (B + j * A + Ad.t (xl.take j) : Nat))) ∧ Hid (wr.frozen? ⟨w.heap.size + 1, 0, none⟩ = false) ∧ Hid (KeepsOthers W wr ∧ Below w.heap.size W wr ∧ wr.heap.size = W.heap.size ∧ (∀ r, r ≠ w.heap.size → r ≠ w.heap.size + 1 → wr.heap[r]? = W.heap[r]?)))
          (fun i _ => xn - (intOf i).toNat)
        case atStart => exact ⟨0, by omega, rfl, by simpa [Ad.s] using Lib.hid hca, hfa, by simpa [Ad.t] using Lib.hid hcb, hfb, KeepsOthers.refl _, Below.refl _ _, rfl, fun _ _ _ => rfl⟩
        case round =>
          obtain ⟨j, hj, rfl, h1, h2, h3, h4, h5⟩ := hrel
          have hc1 := h1.out
          have hc2 := h3.out
          have hf1 := h2.out
          have hf2 := h4.out
          have hsb := Ad.s_le (xl.take j)
          have htb := Ad.t_le (xl.take j) 65536 (by rw [List.length_take]; have := HXL.out; have := HXN.out; omega)
          have hlt' : (xl.take j).length ≤ 65536 := by rw [List.length_take]; have := HXL.out; have := HXN.out; omega
          have hja : j * A ≤ 65536 * 65521 := Nat.mul_le_mul (by have := HXL.out; omega) (by have := HA.out; omega)
          have hSA : A + Ad.s (xl.take j) ≤ 20000000 := by have := HA.out; omega
          have hSB : B + j * A + Ad.t (xl.take j) ≤ 2000000000000 := by have := HBB.out; omega
          clear hsb htb hlt' hja
          by_cases hlj : j < xn
          · obtain ⟨xb, xoff, rfl, hxbl, hxcell⟩ := HX.out.at' j hlj
            have hxc1 : wr.cell? ⟨xb, xoff + j, none⟩ = some (.int .u8 (gb xl j)) := (h5.out.2.1.cell (p := ⟨xb, xoff + j, none⟩) hxbl).trans ((HB.out.cell (p := ⟨xb, xoff + j, none⟩) hxbl).trans hxcell)
            have hg := gb_lt xl j
            have HNA : Hid (A + Ad.s (xl.take (j + 1)) = A + Ad.s (xl.take j) + gb xl j) := Lib.hid (by rw [Ad.s_snoc _ _ (by rw [HXN.out]; exact hlj)]; omega)
            have HNB : Hid (B + (j + 1) * A + Ad.t (xl.take (j + 1)) = B + j * A + Ad.t (xl.take j) + (A + Ad.s (xl.take j) + gb xl j)) := Lib.hid (by
              rw [Ad.t_snoc _ _ (by rw [HXN.out]; exact hlj), Nat.add_mul, Nat.one_mul]; omega)
            clear hxcell
            generalize A + Ad.s (xl.take j) = SA at *
            generalize B + j * A + Ad.t (xl.take j) = SB at *
            have TS := Lib.hid (two_set wr w.heap.size w.heap.size (.int .i64 ((SA : Int) + (gb xl j : Int))) (.int .i64 ((SB : Int) + ((SA : Int) + (gb xl j : Int)))) _ _ hc1 hc2 (Nat.le_refl _))
            gi_wp2
            obtain ⟨t1, t2, t3, t4, t5, t6, t7⟩ := TS.out
            go_roundw
            case rel =>
              refine ⟨j + 1, by omega, by go_num, Lib.hid ?_, Lib.hid ?_, Lib.hid ?_, Lib.hid ?_, Lib.hid ⟨h5.out.1.trans t4, h5.out.2.1.trans t5, t6.trans h5.out.2.2.1, fun r e1 e2 => (t7 r e1 e2).trans (h5.out.2.2.2 r e1 e2)⟩⟩
              · rw [t1, HNA.out]; congr 2
              · rw [t3]; exact hf1
              · rw [t2, HNB.out]; congr 2
              · rw [t3]; exact hf2
            case measure => simp [intOf]; omega
          · obtain rfl : xn = j := by omega
            have hfull : xl.take xn = xl := List.take_of_length_le (by rw [HXN.out]; exact Nat.le_refl _)
            rw [hfull] at hc1 hc2 hSA hSB h1 h3
            clear hfull
            have HSN' : Hid ((A + Ad.s xl) % 65521 = (1 + Ad.s (T ++ xl)) % 65521) := HSN
            have HTN' : Hid ((B + xn * A + Ad.t xl) % 65521 = ((T ++ xl).length + Ad.t (T ++ xl)) % 65521) := Lib.hid (by have := HTN.out; rwa [HXN.out] at this)
            clear HSN HTN
            generalize A + Ad.s xl = SA at *
            generalize B + xn * A + Ad.t xl = SB at *
            have TS := Lib.hid (two_set wr w.heap.size w.heap.size (.int .i64 ((SA : Int) % 65521)) (.int .i64 ((SB : Int) % 65521)) _ _ hc1 hc2 (Nat.le_refl _))
            gi_wp2
            obtain ⟨t1, t2, t3, t4, t5, t6, t7⟩ := TS.out
            have hsame : ∀ r, r ≠ w.heap.size → r ≠ w.heap.size + 1 → ((wr.setCell ⟨w.heap.size, 0, none⟩ (.int .i64 ((SA : Int) % 65521))).setCell ⟨w.heap.size + 1, 0, none⟩ (.int .i64 ((SB : Int) % 65521))).heap[r]? = W.heap[r]? :=
              fun r e1 e2 => (t7 r e1 e2).trans (h5.out.2.2.2 r e1 e2)
            refine ⟨h5.out.1.trans t4, ⟨World.cell?_of_block (hsame _ (by show wo.heap.size ≠ _; omega) (by show wo.heap.size ≠ _; omega)), World.cell?_of_block (hsame _ (by show wo.heap.size + 1 ≠ _; omega) (by show wo.heap.size + 1 ≠ _; omega))⟩, ?_, ?_, by rw [t6, h5.out.2.2.1]; exact hz0⟩
            · rw [HTX.out]
              exact ⟨by rw [t1, ← HSN'.out]; congr 2, by rw [t3]; exact hf1, by rw [t2, ← HTN'.out]; congr 2, by rw [t3]; exact hf2, (HB.out.trans h5.out.2.1).trans t5⟩
            · exact ⟨HMK.out.1, fun D hD => ⟨(HMK.out.2 D hD).1, by have := (HMK.out.2 D hD).1; rw [hsame D (by omega) (by omega)]; exact (HMK.out.2 D hD).2⟩⟩
      case done =>
        rintro D ys W hD hS ⟨hs, hm, hz0⟩ hK
        rw [hS, ← HF.out] at hs
        have HS2 := Lib.hid hs
        have HM2 : Hid (Marks (w.heap.size + 2) (D :: Ds) W) := Lib.hid ⟨List.nodup_cons.2 ⟨fun h => by have := HM.out.lt D h; omega, hm.1⟩, fun k hk => by
          rcases List.mem_cons.1 hk with rfl | hk
          · exact ⟨by omega, hK⟩
          · exact hm.2 k hk⟩
        clear hs hm hK hI2 hM2 hx1 hx2 hstp
        gi_wp2
        exact ⟨⟨k + 1, D :: Ds, _, _, _, _, _, _, _, by omega, HS2.out, HM2.out, by omega, rfl⟩, by simp [intOf]; omega⟩
      case stop =>
        rintro D c pre W _ _ h _
        exact h.elim
    · have hfull : ps.take k = ps := List.take_of_length_le (by rw [HL.out]; omega)
      rw [hfull] at HI
      have hca := HI.out.ca
      have hcb := HI.out.cb
      clear hfull
      have ha := Nat.mod_lt (1 + Ad.s (flat ps)) (show 65521 > 0 by omega)
      have hbb := Nat.mod_lt ((flat ps).length + Ad.t (flat ps)) (show 65521 > 0 by omega)
      have HA : Hid (65536 * (((flat ps).length + Ad.t (flat ps)) % 65521) + (1 + Ad.s (flat ps)) % 65521 = Ad.adler (flat ps)) := Lib.hid rfl
      generalize (1 + Ad.s (flat ps)) % 65521 = A at *
      generalize ((flat ps).length + Ad.t (flat ps)) % 65521 = B at *
      have HV : Hid (bits .or .i64 ((B : Int) * 65536) (A : Int) = (65536 * B + A : Nat)) := Lib.hid (by rw [or16' hbb ha]; omega)
      gi_wp2
      refine leaves_marks (fun W => Below w.heap.size w W) ?_ ?_ Ds wo HM.out HI.out.bel
      · intro W D hq hD hd
        exact hq.grown (grownBy_putObj' W D (.deferred none)) hq.size (fun k e => by cases e; omega)
      · intro W hq
        exact ⟨_, results_tmp rfl _ _ _, by show Ending.returned (.int .i64 (bits .or .i64 ((B : Int) * 65536) (A : Int))) = _; rw [HV.out, HA.out], hq⟩
theorem adler_of (v : Int) (a : Option Addr) (len cap : Nat) (ps : List Sl) (w : World) (h : Parts w a len cap ps) (hv : (Ad.adler (flat ps) : Int) = v) :
    Calls Tryd.prog 38 #[.slice a len cap] w fun e w' => e = .returned (.int .i64 v) ∧ Below w.heap.size w w' := by
  subst hv
  exact adler_any a len cap ps w h
end Go.Proofs.YtfgpmccmalddjaaDoor
end

section
namespace Go.Proofs.YtfgpmccmalddjaaDoor
open Go.RowKit
attribute [local go_sem] Oper.semAt_some

namespace Zl
/-- The head's two bytes for the window 2^(8+p). -/
def hd (p : Nat) : List UInt8 := [UInt8.ofNat (16 * p + 8), UInt8.ofNat ((31 - 256 * (16 * p + 8) % 31) % 31)]
theorem adler_lt (l : List UInt8) : Ad.adler l < 4294967296 := by
  unfold Ad.adler
  omega
/-- What wrapped bytes are. -/
def wrapped (p : Nat) (l t : List UInt8) : List UInt8 := hd p ++ l ++ Pt.dig 4 (Ad.adler t)
/-- No window. -/
def NoWin (v : Int) : Prop := v ≠ 256 ∧ v ≠ 512 ∧ v ≠ 1024 ∧ v ≠ 2048 ∧ v ≠ 4096 ∧ v ≠ 8192 ∧ v ≠ 16384 ∧ v ≠ 32768
theorem win_or (v : Int) : (∃ p, p ≤ 7 ∧ v = ((256 * 2 ^ p : Nat) : Int)) ∨ NoWin v := by
  by_cases h0 : v = 256
  · exact .inl ⟨0, by omega, h0⟩
  by_cases h1 : v = 512
  · exact .inl ⟨1, by omega, h1⟩
  by_cases h2 : v = 1024
  · exact .inl ⟨2, by omega, h2⟩
  by_cases h3 : v = 2048
  · exact .inl ⟨3, by omega, h3⟩
  by_cases h4 : v = 4096
  · exact .inl ⟨4, by omega, h4⟩
  by_cases h5 : v = 8192
  · exact .inl ⟨5, by omega, h5⟩
  by_cases h6 : v = 16384
  · exact .inl ⟨6, by omega, h6⟩
  by_cases h7 : v = 32768
  · exact .inl ⟨7, by omega, h7⟩
  exact .inr ⟨h0, h1, h2, h3, h4, h5, h6, h7⟩
end Zl
theorem firstByte_yes (p : Nat) (hp : p ≤ 7) (w : World) :
    Calls Tryd.prog 36 #[.int .i64 ((256 * 2 ^ p : Nat) : Int)] w fun e w' => e = .returned (.tuple #[.int .i64 ((16 * p + 8 : Nat) : Int), .bool true]) ∧ w = w' := by
  rcases (show p = 0 ∨ p = 1 ∨ p = 2 ∨ p = 3 ∨ p = 4 ∨ p = 5 ∨ p = 6 ∨ p = 7 by omega) with rfl | rfl | rfl | rfl | rfl | rfl | rfl | rfl
  all_goals
    simp only [Nat.reducePow, Nat.reduceMul, Nat.reduceAdd, Int.cast_ofNat_Int]
    go_enter Tryd.func36, Tryd.ntmps36
    go_wp2
    refine wp_loop_rounds 8 ?_
    iterate 8 (try (rw [rounds_succ]; go_wp2))
    go_ret2
    exact ⟨rfl, rfl⟩
theorem firstByte_no (v : Int) (h : Zl.NoWin v) (w : World) :
    Calls Tryd.prog 36 #[.int .i64 v] w fun e w' => e = .returned (.tuple #[.int .i64 0, .bool false]) ∧ w = w' := by
  obtain ⟨h0, h1, h2, h3, h4, h5, h6, h7⟩ := h
  have d0 : (v == 256) = false := by simpa using h0
  have d1 : (v == 512) = false := by simpa using h1
  have d2 : (v == 1024) = false := by simpa using h2
  have d3 : (v == 2048) = false := by simpa using h3
  have d4 : (v == 4096) = false := by simpa using h4
  have d5 : (v == 8192) = false := by simpa using h5
  have d6 : (v == 16384) = false := by simpa using h6
  have d7 : (v == 32768) = false := by simpa using h7
  clear h0 h1 h2 h3 h4 h5 h6 h7
  go_enter Tryd.func36, Tryd.ntmps36
  go_wp2
  refine wp_loop_rounds 9 ?_
  iterate 9 (try (rw [rounds_succ]; go_wp2))
  go_ret2
  exact ⟨rfl, rfl⟩
theorem wrap_no (a : Option Addr) (len cap : Nat) (a' : Option Addr) (len' cap' : Nat) (v : Int) (h : Zl.NoWin v) (w : World) :
    Calls Tryd.prog 12 #[.slice a len cap, .slice a' len' cap', .int .i64 v] w fun e w' => e = .returned (.tuple #[.slice none 0 0, .iface 39 (.int .i64 6)]) ∧ w = w' := by
  have HF := Lib.hid (firstByte_no v h w)
  clear h
  go_enter Tryd.func12, Tryd.ntmps12
  go_wp2_with fail
  refine HF.out.mono ?_
  rintro e w' ⟨rfl, rfl⟩
  go_wp2
  go_ret2
  exact ⟨rfl, rfl⟩
/-- What Wrap answers. -/
def WrapPost (w : World) (x : List UInt8) (e : Ending) (w' : World) : Prop :=
  ∃ g, e = .returned (.tuple #[.slice (some ⟨g, 0, none⟩) x.length x.length, .nilIface]) ∧ w'.ownsRow w.heap.size 5 1 (.slice (some ⟨g, 0, none⟩) x.length x.length) x.length (bvs x) ∧ Below w.heap.size w w'
theorem hd_cells (p : Nat) (x y : Int) (hx : x = ((16 * p + 8 : Nat) : Int)) (hp : p ≤ 7) (hy : y = (((31 - 256 * (16 * p + 8) % 31) % 31 : Nat) : Int)) : (bvs (Zl.hd p)).toArray = #[.int .u8 x, .int .u8 y] := by
  subst hx hy
  have u : ∀ m : Nat, m < 256 → (UInt8.ofNat m).toNat = m := fun m hm => by rw [UInt8.toNat_ofNat']; omega
  simp only [bvs, Zl.hd, List.map_cons, List.map_nil, u _ (show 16 * p + 8 < 256 by omega), u _ (show (31 - 256 * (16 * p + 8) % 31) % 31 < 256 by omega)]
set_option maxHeartbeats 1000000 in
theorem wrap_yes (p : Nat) (hp : p ≤ 7) (a : Option Addr) (len cap : Nat) (l : List UInt8) (a' : Option Addr) (len' cap' : Nat) (t : List UInt8) (w : World) (h : Bs w a len cap l) (h' : Bs w a' len' cap' t) (hl : len ≤ 1000000000) :
    Calls Tryd.prog 12 #[.slice a len cap, .slice a' len' cap', .int .i64 ((256 * 2 ^ p : Nat) : Int)] w (WrapPost w (Zl.wrapped p l t)) := by
  have HF := Lib.hid (firstByte_yes p hp w)
  have H := Lib.hid h
  have H' := Lib.hid h'
  have HL := Lib.hid h.hlen
  clear h h'
  go_enter Tryd.func12, Tryd.ntmps12
  go_wp2_with fail
  refine HF.out.mono ?_
  rintro e w' ⟨rfl, rfl⟩
  have own0 := own_new w w.heap.size 5 #[.int .u8 (16 * (p : Int) + 8), .int .u8 (-(256 * (16 * (p : Int) + 8) % 31) % 31)] (Zl.hd p) (Nat.le_refl _) (by simp [Zl.hd]) 2 rfl (hd_cells p _ _ (by omega) hp (by omega))
  have src0 := (H.out.mono (below_alloc w (.cells #[.int .u8 (16 * (p : Int) + 8), .int .u8 (-(256 * (16 * (p : Int) + 8) % 31) % 31)] 5))).src
  go_wp2_with (at_builtin; refine wpl_append tyB rfl _ _ rfl own0 src0 rfl rfl (by omega) (by omega) (by simp) ?_)
  intro v1 w1 own1 g1 _
  have b1 : Below w.heap.size w w1 := (below_alloc w _).grown g1 (by simp) (fun k hk => (own0.lt k hk).1)
  rw [← bvs_append] at own1
  obtain ⟨a1, c1, rfl, hbs1⟩ := own_bs own1 (by omega)
  have H1 := Lib.hid (And.intro hbs1 b1)
  clear own0 src0 own1 g1 hbs1 b1 HF
  go_wp2_with fail
  refine (adler_of (Ad.adler t) _ _ _ [⟨a', len', cap', t⟩] _ (parts_new _ _ rfl _ 22 1 rfl (by omega) _ rfl ?_) (by rw [flat_one])).mono ?_
  · intro s hs
    simp only [List.mem_singleton] at hs
    subst hs
    exact H'.out.mono H1.out.2
  rintro e w2 ⟨rfl, hb2⟩
  have H2 := Lib.hid (And.intro (H1.out.1.mono (below_then (below_alloc _ _) hb2)) (below_then H1.out.2 (below_then (below_alloc _ _) hb2)))
  clear hb2 H1
  have hal := Zl.adler_lt t
  go_wp2_with fail
  refine (put_ok _ _ _ (Zl.hd p ++ l) 4 (Ad.adler t) _ H2.out.1 (by omega) (by omega) (by omega)).mono ?_
  rintro e w3 ⟨g, rfl, own3, hb3⟩
  have hlen : (Zl.wrapped p l t).length = 2 + len + 4 := by
    have := HL.out
    simp [Zl.wrapped, Zl.hd, Pt.dig]; omega
  have HP : Hid (WrapPost w (Zl.wrapped p l t) (.returned (.tuple #[.slice (some ⟨g, 0, none⟩) (2 + len + 4) (2 + len + 4), .nilIface])) w3) := Lib.hid (by
    refine ⟨g, by rw [hlen], ?_, below_then H2.out.2 hb3⟩
    rw [hlen]
    exact own_base own3 (fun g' hg' => Nat.le_trans H2.out.2.size (own3.lt g' hg').1))
  clear own3 hb3 H2 hlen
  go_wp2
  go_ret2
  exact HP.out
end Go.Proofs.YtfgpmccmalddjaaDoor
end
