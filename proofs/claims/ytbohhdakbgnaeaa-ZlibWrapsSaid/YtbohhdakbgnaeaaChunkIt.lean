/- slices.Chunk over bytes: the iterator's contract. -/
import Derived.RangeFuncNested
import Derived.RangeFuncBound
import Derived.RangeFuncCalls
import Derived.RangeFuncLeaves
import Derived.RangeFuncFrom
import Derived.Shelf.Abstract
import Derived.Shelf.RegionOpen
import Derived.OwnWalkIn
import Derived.TacticsInMore
import Derived.LoopNIn
import Derived.LoopIn
import Derived.RegionIn
import Derived.Test.YtbohhdakbgnaeaaProg
import Derived.Test.YtbohhdakbgnaeaaBase
namespace Go.Proofs.Ytbohhdakbgnaeaa
open Go.RowKit Go.Shelf
attribute [local go_sem] Oper.semAt_some

/-- A piece that is handed to the body: known in world w0, of at most m bytes. -/
structure Ck (w0 : World) (m : Nat) where
  s : Sl
  at' : Bs w0 s.a s.len s.cap s.l
  le : s.len ≤ m
def ckText {w0 : World} {m : Nat} (ys : List (Ck w0 m)) : List UInt8 := (ys.map fun y => y.s.l).flatten
/-- Piece i of a slice at ⟨b, off⟩. -/
def ckOf (m b off len : Nat) (l : List UInt8) (i : Nat) : Sl := ⟨some ⟨b, off + i * m, none⟩, min m (len - i * m), min m (len - i * m), (l.drop (i * m)).take m⟩
theorem ckOf_ok {w0 : World} {b off len cap : Nat} {l : List UInt8} (h : Bs w0 (some ⟨b, off, none⟩) len cap l) (m i : Nat) :
    Bs w0 (ckOf m b off len l i).a (ckOf m b off len l i).len (ckOf m b off len l i).cap (ckOf m b off len l i).l := by
  have h1 := h.hlen
  have h2 := h.hcap
  refine ⟨by simp [ckOf]; omega, Nat.le_refl _, by simp [ckOf]; omega, by simp [ckOf]; omega, fun e => by simp [ckOf] at e, fun j hj => ?_⟩
  simp only [ckOf] at hj ⊢
  obtain ⟨b', off', e', hb', hc⟩ := h.at' (i * m + j) (by omega)
  simp only [Option.some.injEq, Addr.mk.injEq, and_true] at e'
  obtain ⟨rfl, rfl⟩ := e'
  refine ⟨b, off + i * m, rfl, hb', ?_⟩
  rw [Nat.add_assoc, hc]
  have : j < m := by omega
  simp [gb, List.getD, List.getElem?_drop, List.getElem?_take, this]
def ck {w0 : World} {b off len cap : Nat} {l : List UInt8} (h : Bs w0 (some ⟨b, off, none⟩) len cap l) (m i : Nat) : Ck w0 m := ⟨ckOf m b off len l i, ckOf_ok h m i, by simp [ckOf]; omega⟩
def ckUp {w0 : World} {b off len cap : Nat} {l : List UInt8} (h : Bs w0 (some ⟨b, off, none⟩) len cap l) (m k : Nat) : List (Ck w0 m) := (List.range k).map (ck h m)
theorem ckUp_succ {w0 : World} {b off len cap : Nat} {l : List UInt8} (h : Bs w0 (some ⟨b, off, none⟩) len cap l) (m k : Nat) : ckUp h m (k + 1) = ckUp h m k ++ [ck h m k] := by simp [ckUp, List.range_succ]
theorem ckUp_length {w0 : World} {b off len cap : Nat} {l : List UInt8} (h : Bs w0 (some ⟨b, off, none⟩) len cap l) (m k : Nat) : (ckUp h m k).length = k := by simp [ckUp]
theorem ckText_append {w0 : World} {m : Nat} (xs ys : List (Ck w0 m)) : ckText (xs ++ ys) = ckText xs ++ ckText ys := by simp [ckText]
theorem ckUp_text {w0 : World} {b off len cap : Nat} {l : List UInt8} (h : Bs w0 (some ⟨b, off, none⟩) len cap l) (m k : Nat) : ckText (ckUp h m k) = l.take (k * m) := by
  induction k with
  | zero => simp [ckUp, ckText]
  | succ k ih =>
    rw [ckUp_succ, ckText_append, ih]
    simp only [ckText, List.map_cons, List.map_nil, List.flatten_cons, List.flatten_nil, List.append_nil, ck, ckOf]
    rw [Nat.add_mul, Nat.one_mul, List.take_add]

/-- What a round keeps: the two boxes that the iterator reads. -/
def Kc (b n : Nat) (W W' : World) : Prop := W'.cell? ⟨b, 0, none⟩ = W.cell? ⟨b, 0, none⟩ ∧ W'.cell? ⟨n, 0, none⟩ = W.cell? ⟨n, 0, none⟩

set_option maxRecDepth 100000 in
set_option maxHeartbeats 2000000 in
theorem chunk1_in (F : Fence) (n m : Nat) (hm : 1 ≤ m) (hm2 : m ≤ 1099511627776) (h7 : F.fn 26) (hro : F.round = none) (hn : 1 ≤ n) (y Bs' Bn : Nat) (w0 : World) (b off len cap : Nat) (l : List UInt8) (hbs : Bs w0 (some ⟨b, off, none⟩) len cap l)
    (J Jx : List (Ck w0 m) → World → Prop)
    (hY : ∀ pre x W, J pre W → pre.length < len → YieldAt F (n - 1) Try.prog y #[.slice x.s.a x.s.len x.s.cap] W fun e W' =>
      (e = .returned (.bool true) ∧ J (pre ++ [x]) W' ∧ Kc Bs' Bn W W') ∨ (e = .returned (.bool false) ∧ Jx (pre ++ [x]) W'))
    (W : World) (hcs : W.cell? ⟨Bs', 0, none⟩ = some (.slice (some ⟨b, off, none⟩) len cap)) (hcn : W.cell? ⟨Bn, 0, none⟩ = some (.int .i64 m)) (h0 : J [] W)
    (hJd : ∀ xs W, J xs W → J xs W.drew) :
    CallsIn F n Try.prog 26 #[.func (.yield y) #[] #[], .pointer (some ⟨Bs', 0, none⟩), .pointer (some ⟨Bn, 0, none⟩)] W fun e W' => (∃ v, e = .returned v) ∧
      ((∃ ys, ckText ys = l ∧ J ys W') ∨ (∃ pre, Jx pre W')) := by
  have hle := hbs.hle
  have hcp := hbs.hcap
  have hmx := hbs.hmax
  refine callsIn_of_wp Try.func26 rfl h7 ?_ hro
  simp only [Try.ntmps26, List.size_toArray, List.length_cons, List.length_nil, Nat.reduceAdd, Nat.reduceSub, Array.replicate_succ, Array.replicate_zero, List.push_toArray, List.append_toArray, List.nil_append, List.cons_append]
  gi_wp2
  gi_loopw [4] (fun i wr => ∃ k : Nat, k * m < len + m ∧ i = .int .i64 (k * m : Nat) ∧ J (ckUp hbs m k) wr ∧ Hid (wr.cell? ⟨Bs', 0, none⟩ = some (.slice (some ⟨b, off, none⟩) len cap)) ∧ Hid (wr.cell? ⟨Bn, 0, none⟩ = some (.int .i64 m)))
    (fun i _ => len + m - (intOf i).toNat)
  case atStart => exact ⟨0, by omega, by simp, h0, hcs, hcn⟩
  case round =>
    obtain ⟨k, hk, rfl, hJs, H1, H2⟩ := hrel
    have hc1 := H1.out
    have hc2 := H2.out
    by_cases hlt : k * m < len
    · have hq : (k + 1) * m = k * m + m := by rw [Nat.add_mul, Nat.one_mul]
      have HQ := Lib.hid hq
      clear hq
      have hv : Value.slice (ck hbs m k).s.a (ck hbs m k).s.len (ck hbs m k).s.cap = .slice (some ⟨b, off + k * m, none⟩) (min m (len - k * m)) (min m (len - k * m)) := rfl
      have HV := Lib.hid hv
      clear hv
      have HK : Hid (ckUp hbs m (k + 1) = ckUp hbs m k ++ [ck hbs m k]) := Lib.hid (ckUp_succ hbs m k)
      have HT := Lib.hid (ckUp_text hbs m k)
      have hkq : k ≤ k * m := Nat.le_mul_of_pos_right k (by omega)
      generalize k * m = q at *
      obtain ⟨fn, tmps, assign, body, hy, hR⟩ := hY (ckUp hbs m k) (ck hbs m k) wr.drew (hJd _ _ hJs) (by rw [ckUp_length]; omega)
      rw [HV.out] at hy
      by_cases hsm : len - q < m
      · have e1 : min m (len - q) = len - q := by omega
        rw [e1] at hy
        clear e1
        gi_wp2
        gi_region
        all_goals gi_wp2
        all_goals
          refine hR.mono ?_
          rintro e W3 (⟨rfl, hJ3, hk3⟩ | ⟨rfl, hJx3⟩)
          · have hc3 : W3.cell? ⟨Bn, 0, none⟩ = some (.int .i64 m) := hk3.2.trans hc2
            have HJ3 := Lib.hid hJ3
            have HK3 := Lib.hid (hk3.1.trans hc1)
            have HN3 := Lib.hid hc3
            clear hJ3 hk3 hR hy hc1 hc2 hJs hcs hcn h0
            gi_wp2
            go_roundw
            case rel => exact ⟨k + 1, by rw [HQ.out]; omega, by rw [HQ.out]; go_num, by rw [HK.out]; exact HJ3.out, HK3, HN3⟩
            case measure => simp [intOf]; omega
          · gi_wp2
            refine bodyPost_ret (results_none rfl _ _ _) rfl ?_
            exact ⟨⟨_, rfl⟩, .inr ⟨_, hJx3⟩⟩
      · have e1 : min m (len - q) = m := by omega
        rw [e1] at hy
        clear e1
        gi_wp2
        gi_region
        all_goals gi_wp2
        all_goals
          refine hR.mono ?_
          rintro e W3 (⟨rfl, hJ3, hk3⟩ | ⟨rfl, hJx3⟩)
          · have hc3 : W3.cell? ⟨Bn, 0, none⟩ = some (.int .i64 m) := hk3.2.trans hc2
            have HJ3 := Lib.hid hJ3
            have HK3 := Lib.hid (hk3.1.trans hc1)
            have HN3 := Lib.hid hc3
            clear hJ3 hk3 hR hy hc1 hc2 hJs hcs hcn h0
            gi_wp2
            go_roundw
            case rel => exact ⟨k + 1, by rw [HQ.out]; omega, by rw [HQ.out]; go_num, by rw [HK.out]; exact HJ3.out, HK3, HN3⟩
            case measure => simp [intOf]; omega
          · gi_wp2
            refine bodyPost_ret (results_none rfl _ _ _) rfl ?_
            exact ⟨⟨_, rfl⟩, .inr ⟨_, hJx3⟩⟩
    · gi_wp2
      go_end0
      exact ⟨⟨_, rfl⟩, .inl ⟨_, by rw [ckUp_text]; exact List.take_of_length_le (by rw [hbs.hlen]; omega), hJs⟩⟩

set_option maxRecDepth 100000 in
set_option maxHeartbeats 1000000 in
theorem chunk1_nil_in (F : Fence) (n m : Nat) (h7 : F.fn 26) (hro : F.round = none) (y Bs' Bn : Nat) (a : Option Addr) (cap : Nat) (J : Prop) (W : World)
    (hcs : W.cell? ⟨Bs', 0, none⟩ = some (.slice a 0 cap)) (h0 : J) :
    CallsIn F n Try.prog 26 #[.func (.yield y) #[] #[], .pointer (some ⟨Bs', 0, none⟩), .pointer (some ⟨Bn, 0, none⟩)] W fun e W' => (∃ v, e = .returned v) ∧ J ∧ W = W' := by
  have H0 := Lib.hid h0
  clear h0
  refine callsIn_of_wp Try.func26 rfl h7 ?_ hro
  simp only [Try.ntmps26, List.size_toArray, List.length_cons, List.length_nil, Nat.reduceAdd, Nat.reduceSub, Array.replicate_succ, Array.replicate_zero, List.push_toArray, List.append_toArray, List.nil_append, List.cons_append]
  gi_wp2
  gi_loop [4] (fun i => i = .int .i64 0) (fun _ => 0)
  case atStart => rfl
  case round =>
    obtain rfl := hrel
    gi_wp2
    go_end0
    exact ⟨⟨_, rfl⟩, H0, rfl⟩

theorem chunk_stops (F : Fence) (n m : Nat) (hm : 1 ≤ m) (hm2 : m ≤ 1099511627776) (h7 : F.fn 26) (hro : F.round = none) (hn : 1 ≤ n) (Bs' Bn : Nat) (w0 : World) (a : Option Addr) (len cap : Nat) (l : List UInt8) (hbs : Bs w0 a len cap l)
    (w : World) (hb1 : Bs' < w.heap.size) (hb2 : Bn < w.heap.size) (hcs : w.cell? ⟨Bs', 0, none⟩ = some (.slice a len cap)) (hcn : w.cell? ⟨Bn, 0, none⟩ = some (.int .i64 m)) :
    SeqStopsK F n Try.prog 26 #[.pointer (some ⟨Bs', 0, none⟩), .pointer (some ⟨Bn, 0, none⟩)] (fun x : Ck w0 m => #[.slice x.s.a x.s.len x.s.cap]) (Kc Bs' Bn) (fun ys => ckText ys = l) (fun _ => True) len w := fun y J Jx W hW hJ hJx hY h0 => by
  have hcs' := (hW.cell (p := ⟨Bs', 0, none⟩) hb1).trans hcs
  have hcn' := (hW.cell (p := ⟨Bn, 0, none⟩) hb2).trans hcn
  by_cases hl : len = 0
  · subst hl
    have hl0 : l = [] := List.eq_nil_of_length_eq_zero hbs.hlen
    subst hl0
    refine (chunk1_nil_in F n m h7 hro y Bs' Bn a cap (J [] W) W hcs' h0).mono ?_
    rintro e W' ⟨he, hj, rfl⟩
    exact ⟨he, .inl ⟨[], rfl, hj⟩⟩
  · obtain ⟨b, off, rfl, _, _⟩ := hbs.at' 0 (by omega)
    refine (chunk1_in F n m hm hm2 h7 hro hn y Bs' Bn w0 b off len cap l hbs J Jx hY W hcs' hcn' h0 ?_).mono ?_
    · exact fun xs W hx => hJ xs W W.drew none hx ⟨rfl, rfl, rfl, Nat.le_refl _, fun _ _ _ => rfl⟩ (fun r e => by cases e)
    · rintro e W' ⟨he, ⟨ys, hy, hj⟩ | ⟨pre, hj⟩⟩
      · exact ⟨he, .inl ⟨ys, hy, hj⟩⟩
      · exact ⟨he, .inr ⟨pre, trivial, hj⟩⟩

theorem chunk_in (F : Fence) (n : Nat) (h5 : F.fn 23) (hro : F.round = none) (a : Option Addr) (len cap m : Nat) (hm : 1 ≤ m) (w : World) :
    CallsIn F n Try.prog 23 #[.slice a len cap, .int .i64 m] w fun e w' => e = .returned (.func (.func 26) #[] #[.pointer (some ⟨w.heap.size, 0, none⟩), .pointer (some ⟨w.heap.size + 1, 0, none⟩)]) ∧
      w' = (w.alloc (.cells #[.slice a len cap] 22)).alloc (.cells #[.int .i64 m] 3) := by
  refine callsIn_of_wp Try.func23 rfl h5 ?_ hro
  simp only [Try.ntmps23, List.size_toArray, List.length_cons, List.length_nil, Nat.reduceAdd, Nat.reduceSub, Array.replicate_succ, Array.replicate_zero, List.push_toArray, List.append_toArray, List.nil_append, List.cons_append]
  gi_wp2
  go_ret
  exact ⟨rfl, rfl⟩
end Go.Proofs.Ytbohhdakbgnaeaa
