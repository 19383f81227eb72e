/- The runs of lengths. What a call may change: 'only blocks of T'. Laws of the walk within a fence: append, make. What make lays. Tokens, what they come to, and slices of pairs of numbers in memory. Runs in memory. slices.Repeat of one run, any number of times: its contract. Numbers as a literal. -/
import Derived.Test.YtpoilaappcjbeaaGreatDoorZ2
import Derived.OwnWalkIn
import Derived.Test.YtpoilaappcjbeaaGreatDoorProg
import Derived.Laws.CopyOwn
import Derived.Deep.QuietTactic
import Derived.Deep.RegionLaw
import Derived.BigQuiet
set_option linter.unusedSimpArgs false
set_option linter.unusedVariables false
section
namespace Go.Proofs.YtpoilaappcjbeaaGreatDoor
open Go.RowKit

namespace Bl
/-- How many are the same, from the first one on. -/
def al (l : List Int) : Nat := (l.takeWhile fun x => x == l.getD 0 0).length
theorem tw_length : ∀ (l : List Int) (y : Int) (c : Nat), c ≤ l.length → (∀ i, i < c → l.getD i 0 = y) → (c < l.length → l.getD c 0 ≠ y) → (l.takeWhile fun x => x == y).length = c
  | [], y, c, hc, _, _ => by simp at hc; subst hc; rfl
  | x :: r, y, 0, _, _, h => by
    have := h (by simp)
    simp at this
    simp [List.takeWhile_cons, this]
  | x :: r, y, c + 1, hc, h, h2 => by
    have hx : x = y := by simpa using h 0 (by omega)
    subst hx
    have ih := tw_length r x c (by simpa using hc) (fun i hi => by simpa using h (i + 1) (by omega)) (fun hl => by simpa using h2 (by simpa using hl))
    simp [List.takeWhile_cons, ih]
theorem al_eq {l : List Int} {c : Nat} (hc : c ≤ l.length) (h : ∀ i, i < c → l.getD i 0 = l.getD 0 0) (h2 : c < l.length → l.getD c 0 ≠ l.getD 0 0) : al l = c := tw_length l _ c hc h h2
theorem al_le (l : List Int) : al l ≤ l.length := by
  unfold al
  exact (List.takeWhile_sublist _).length_le
theorem al_pos {l : List Int} (h : 0 < l.length) : 0 < al l := by
  cases l with
  | nil => simp at h
  | cons x r => simp [al, List.takeWhile_cons]
theorem al_same (l : List Int) : l.take (al l) = List.replicate (al l) (l.getD 0 0) := by
  have e : l.take (al l) = l.takeWhile fun x => x == l.getD 0 0 := by
    unfold al
    exact (List.prefix_iff_eq_take.1 (List.takeWhile_prefix _)).symm
  rw [e, List.eq_replicate_iff]
  refine ⟨rfl, fun x hx => ?_⟩
  have := List.all_takeWhile (p := fun x => x == l.getD 0 0) (l := l)
  rw [List.all_eq_true] at this
  simpa using this x hx
/-- The runs of lengths, with enough of f; none: not lengths. -/
def rn : Nat → List Int → Option (List (Int × Int))
  | 0, l => if l.length = 0 then some [] else none
  | f + 1, l => if l.length = 0 then some [] else if 0 ≤ l.getD 0 0 ∧ l.getD 0 0 < 16 then (rn f (l.drop (al l))).map fun rs => stF (l.getD 0 0) (al l) ++ rs else none
theorem rn_fuel : ∀ (f g : Nat) (l : List Int), l.length ≤ f → l.length ≤ g → rn f l = rn g l
  | 0, 0, l, _, _ => rfl
  | 0, g + 1, l, hf, _ => by rw [rn, rn, if_pos (by omega), if_pos (by omega)]
  | f + 1, 0, l, _, hg => by rw [rn, rn, if_pos (by omega), if_pos (by omega)]
  | f + 1, g + 1, l, hf, hg => by
    rw [rn, rn]
    by_cases h : l.length = 0
    · rw [if_pos h, if_pos h]
    · rw [if_neg h, if_neg h]
      have := al_pos (l := l) (by omega)
      rw [rn_fuel f g (l.drop (al l)) (by simp; omega) (by simp; omega)]
/-- The runs, behind those that there are. -/
def ru (rs : List (Int × Int)) (l : List Int) : Option (List (Int × Int)) := (rn l.length l).map fun ss => rs ++ ss
theorem ru_end (rs : List (Int × Int)) : ru rs [] = some rs := by simp [ru, rn]
theorem ru_bad (rs : List (Int × Int)) {l : List Int} (h : 0 < l.length) (h2 : ¬ (0 ≤ l.getD 0 0 ∧ l.getD 0 0 < 16)) : ru rs l = none := by
  unfold ru
  obtain ⟨n, hn⟩ : ∃ n, l.length = n + 1 := ⟨l.length - 1, by omega⟩
  rw [hn, rn, if_neg (by omega), if_neg h2]
  rfl
theorem ru_step (rs : List (Int × Int)) {l : List Int} (h : 0 < l.length) (h2 : 0 ≤ l.getD 0 0 ∧ l.getD 0 0 < 16) : ru rs l = ru (rs ++ stF (l.getD 0 0) (al l)) (l.drop (al l)) := by
  unfold ru
  obtain ⟨n, hn⟩ : ∃ n, l.length = n + 1 := ⟨l.length - 1, by omega⟩
  have hp := al_pos h
  rw [hn, rn, if_neg (by omega), if_pos h2, rn_fuel n (l.drop (al l)).length (l.drop (al l)) (by simp; omega) (Nat.le_refl _)]
  cases rn (l.drop (al l)).length (l.drop (al l)) with
  | none => rfl
  | some ss => simp
end Bl
end Go.Proofs.YtpoilaappcjbeaaGreatDoor
end

section
namespace Go.Proofs.YtpoilaappcjbeaaGreatDoor
open Go.RowKit

/-- Only blocks of T may have changed; new ones may have come. -/
structure Ch (w w' : World) (T : Nat → Prop) : Prop where
  os : w'.os = w.os
  tape : w'.tape = w.tape
  output : w'.output = w.output
  size : w.heap.size ≤ w'.heap.size
  block : ∀ k, k < w.heap.size → ¬ T k → w'.heap[k]? = w.heap[k]?
theorem Ch.refl (w : World) (T : Nat → Prop) : Ch w w T := ⟨rfl, rfl, rfl, Nat.le_refl _, fun _ _ _ => rfl⟩
theorem Ch.of_below {w w' : World} {T : Nat → Prop} (h : Below w.heap.size w w') : Ch w w' T := ⟨h.os, h.tape, h.output, h.size, fun k hk _ => h.block k hk⟩
theorem Ch.trans {a b c : World} {T U : Nat → Prop} (h : Ch a b T) (k : Ch b c U) (hu : ∀ n, U n → T n ∨ a.heap.size ≤ n) : Ch a c T :=
  ⟨k.os.trans h.os, k.tape.trans h.tape, k.output.trans h.output, Nat.le_trans h.size k.size, fun i hi ht => (k.block i (Nat.lt_of_lt_of_le hi h.size) (fun hui => (hu i hui).elim ht (fun h' => by omega))).trans (h.block i hi ht)⟩
theorem Ch.drew {a w : World} {T : Nat → Prop} (h : Ch a w T) : Ch a w.drew T := ⟨h.os, h.tape, h.output, h.size, h.block⟩
theorem Ch.alloc {a w : World} {T : Nat → Prop} (h : Ch a w T) (o : Obj) : Ch a (w.alloc o) T :=
  h.trans (Ch.of_below (T := fun _ => False) (below_alloc w o)) (fun _ h => h.elim)
theorem Ch.set {a w : World} {T : Nat → Prop} (h : Ch a w T) {p : Addr} (hp : T p.block ∨ a.heap.size ≤ p.block) (u : Value) : Ch a (w.setCell p u) T :=
  h.trans (U := fun k => k = p.block) ⟨rfl, rfl, rfl, by simp, fun k _ ht => Below.heap_setCell w p u k ht⟩ (fun n hn => by subst hn; exact hp)
theorem Ch.below {w w' : World} {T : Nat → Prop} (h : Ch w w' T) {B : Nat} (hB : B ≤ w.heap.size) (ht : ∀ k, T k → B ≤ k) : Below B w w' :=
  ⟨h.os, h.tape, h.output, h.size, fun k hk => h.block k (by omega) (fun h' => by have := ht k h'; omega)⟩
theorem Ch.own {w w' : World} {T : Nat → Prop} (h : Ch w w' T) {base : Nat} {e : TypeId} {size : Nat} {v : Value} {n : Nat} {xs : List Value} (hv : w.ownsRow base e size v n xs) (hn : ∀ g, v.ownBlock = some g → ¬ T g) : w'.ownsRow base e size v n xs := by
  obtain ⟨h1, h2⟩ := hv
  refine ⟨h1, ?_⟩
  rcases h2 with h2 | ⟨g, cap, cur, rfl, hb, hg, r⟩
  · exact .inl h2
  · refine .inr ⟨g, cap, cur, rfl, hb, ?_, r⟩
    rw [h.block g (Array.getElem?_eq_some_iff.1 hg).1 (hn g rfl)]; exact hg
theorem Ch.step {w w' : World} {v v' : Value} (h : Step w w' v v') : Ch w w' (fun k => v.ownBlock = some k) := by
  rcases h with ⟨g, k, cap, k', rfl, _, hg⟩ | ⟨_, hg⟩
  · exact ⟨hg.os, hg.tape, hg.output, hg.size, fun i hi ht => hg.block i hi (fun e => ht (by simpa [Value.ownBlock] using e.symm))⟩
  · exact ⟨hg.os, hg.tape, hg.output, hg.size, fun i hi _ => hg.block i hi (by simp)⟩
theorem Ch.wide {w w' : World} {T U : Nat → Prop} (h : Ch w w' T) (hu : ∀ k, T k → U k ∨ w.heap.size ≤ k) : Ch w w' U :=
  ⟨h.os, h.tape, h.output, h.size, fun k hk ht => h.block k hk (fun h' => (hu k h').elim ht (fun h'' => by omega))⟩

end Go.Proofs.YtpoilaappcjbeaaGreatDoor
end

section
namespace Go.Proofs.YtpoilaappcjbeaaGreatDoor
open Go.RowKit

section
variable {F : Fence} {k : Nat} {P : Program} {w : World} {ops : Array Oper} {rest : List Oper} {o : Oper} {a : Act} {Q : Exit → Act → World → Prop}
variable {t e : TypeId} {z : Value} {size by' : Nat}
theorem run_app (R : RowTy P t e z size by') (ot : TypeId) {base n : Nat} {v : Value} {xs : List Value} (hown : w.ownsRow base e size v n xs) {ad : Addr} {m c : Nat} {news : List Value} (hsrc : SrcRow w (some ad) m c news size)
    (hm : 0 < m) (h63 : n + m ≤ 9223372036854775807) (hbytes : (n + m) * by' ≤ 140737488355328) (hbase : base ≤ w.heap.size) :
    ∃ v' w', (Builtin.append_ #[t, t] ot #[v, .slice (some ad) m c]).run P w = .ok v' w' ∧ w'.ownsRow base e size v' (n + m) (xs ++ news) ∧ Step w w' v v' := by
  obtain ⟨i0, hi, hz0, hz1, hz2⟩ := info_parts R.info
  have hnc := hsrc.hc ad rfl
  have hml : n + m ≤ maxLen := by unfold maxLen; omega
  have new : ∀ {v' : Value} {w' : World} {ys : List Value} {b : Nat}, w'.ownsRow b e size v' (n + m) ys → w.heap.size ≤ b → ∃ g, v'.ownBlock = some g ∧ w.heap.size ≤ g := by
    intro v' w' ys b r hb
    rcases own_nil_or r with ⟨_, h⟩ | ⟨g, cap, rfl, _, h, _⟩
    · omega
    · exact ⟨g, rfl, Nat.le_trans hb h⟩
  rcases own_nil_or hown with ⟨rfl, rfl⟩ | ⟨g, cap, rfl, hle, hbg, hgl, hcap⟩
  · have hx0 : xs = [] := List.eq_nil_of_length_eq_zero (by have := hown.1; simpa using this)
    subst hx0
    obtain ⟨v', w', hrun, r1, r2, _⟩ := run_append_own (P := P) w w.heap.size t ot e i0 z size by' R.ht hi hz0 hz1 hz2 R.hzs R.hsz _ 0 [] (World.ownsRow_nil w w.heap.size e size) ad m c news hsrc.hl hnc hsrc.h1 hml hbytes (Nat.le_refl _)
    exact ⟨v', w', hrun, own_base r1 (fun g hg => Nat.le_trans hbase ((r1.lt g hg).1)), .inr ⟨new r1 (Nat.le_refl _), r2⟩⟩
  · by_cases hroom : n + m ≤ cap
    · obtain ⟨w', hrun, r1, r2⟩ := run_append_fits (P := P) w base t ot e i0 size R.ht hi hz1 g n cap xs hown ad m c news hsrc.hl hnc hsrc.h1 hroom
      exact ⟨_, w', hrun, r1, .inl ⟨g, n, cap, n + m, rfl, rfl, r2⟩⟩
    · obtain ⟨v', w', hrun, r1, r2⟩ := run_append_arg_grows (P := P) w t ot e i0 z size by' R.ht hi hz0 hz1 hz2 R.hzs R.hsz ⟨g, 0, none⟩ n cap xs hown.1 (hown.cells rfl) ad m c news hsrc.hl hnc (by omega) hml hbytes
      exact ⟨v', w', hrun, own_base r1 (fun g hg => Nat.le_trans hbase ((r1.lt g hg).1)), .inr ⟨new r1 (Nat.le_refl _), r2⟩⟩
theorem wplIn_app (R : RowTy P t e z size by') (hg : o.guard = none) (s x : Operand) (hop : o.op = Op.call { callee := Callee.builtin Builtin.append, args := #[s, x], argTypes := #[t, t] })
    {base n : Nat} {v : Value} {xs : List Value} (hown : w.ownsRow base e size v n xs) {ad : Addr} {m c : Nat} {news : List Value} (hsrc : SrcRow w (some ad) m c news size)
    (hs : a.eval s = v) (hx : a.eval x = .slice (some ad) m c) (hm : 0 < m) (h63 : n + m ≤ 9223372036854775807) (hbytes : (n + m) * by' ≤ 140737488355328) (hbase : base ≤ w.heap.size)
    (hK : ∀ v' w', w'.ownsRow base e size v' (n + m) (xs ++ news) → Ch w w' (fun k => v.ownBlock = some k) → (∀ k, v'.ownBlock = some k → v.ownBlock = some k ∨ w.heap.size ≤ k) → wpListIn F k P ops Q rest (a.put o.dst v') w') :
    wpListIn F k P ops Q (o :: rest) a w := by
  refine wpListIn_plain hg fun K hK' => ?_
  obtain ⟨v', w', hrun, r1, r2⟩ := run_app R o.type hown hsrc hm h63 hbytes hbase
  unfold Oper.wpIn
  refine ⟨?_, ?_⟩
  · simp [Oper.about, hop, resolve, Target.leads, Sem.run_pure]
  · rw [Oper.semAt_plain F _ _ (by rw [hop]; intro c hc'; cases hc')]
    simp [execOp, hop, resolve, invoke, builtin, hs, hx, hrun, Result.andThen]
    exact hK' _ _ (hK v' w' r1 (Ch.step r2) r2.block)
theorem wplIn_make_full (R : RowTy P t e z size by') (hg : o.guard = none) (l c : Operand) (hop : o.op = Op.makeSlice t l c) (base : Nat)
    (kl kc : IntKind) (L C : Int) (n : Nat) (hl : a.eval l = .int kl L) (hc : a.eval c = .int kc C) (hL : L = (n : Int)) (hC : C = (n : Int)) (b2 : by' * n ≤ 281474976710656) (b3 : n ≤ 9223372036854775807) (b4 : base ≤ w.heap.size)
    (hK : ∀ w', w'.ownsRow base e size (.slice (some ⟨w.heap.size, 0, none⟩) n n) n (madeCells z.cells (n * size)).toList → w.grownBy w' none → wpListIn F k P ops Q rest (a.put o.dst (.slice (some ⟨w.heap.size, 0, none⟩) n n)) w') :
    wpListIn F k P ops Q (o :: rest) a w := by
  obtain ⟨i0, hi, hz0, hz1, hz2⟩ := info_parts R.info
  subst hz2
  refine wpListIn_plain hg fun K hK' => ?_
  obtain ⟨w', hrun, r1, r2⟩ := run_make_full (P := P) w base t e i0 z size R.ht hi hz0 hz1 kl kc n b2 (by unfold maxLen; omega) b4
  subst hL
  subst hC
  unfold Oper.wpIn
  refine ⟨?_, ?_⟩
  · simp [Oper.about, hop]
  · rw [Oper.semAt_plain F _ _ (by rw [hop]; intro c hc'; cases hc')]
    simp [execOp, hop, hl, hc, hrun, Result.andThen]
    exact hK' _ _ (hK w' r1 r2)
end
theorem made_all (zs : Array Value) (n : Nat) (u : Value) (hz : 0 < zs.size) (h : ∀ i, i < zs.size → zs[i]! = u) : (madeCells zs n).toList = List.replicate n u := by
  rw [List.eq_replicate_iff]
  refine ⟨by rw [Array.length_toList, size_madeCells], fun b hb => ?_⟩
  simp only [madeCells, Array.toList_map, List.mem_map] at hb
  obtain ⟨i, _, rfl⟩ := hb
  exact h _ (Nat.mod_lt _ hz)
end Go.Proofs.YtpoilaappcjbeaaGreatDoor
end

section
namespace Go.Proofs.YtpoilaappcjbeaaGreatDoor
open Go.RowKit

theorem made_ints1 (n : Nat) : (madeCells #[.int .i64 0] (n * 1)).toList = ivs (List.replicate n 0) := by
  rw [made_all _ _ (.int .i64 0) (by simp) (fun i hi => by
    match i, hi with
    | 0, _ => rfl), Nat.mul_one]
  simp [ivs]
theorem wpl_make_full {P : Program} {w : World} {ops : Array Oper} {rest : List Oper} {o : Oper} {a : Act} {Q : Exit → Act → World → Prop} {t e : TypeId} {z : Value} {size by' : Nat} (R : RowTy P t e z size by') (hg : o.guard = none) (l c : Operand) (hop : o.op = Op.makeSlice t l c) (base : Nat)
    (kl kc : IntKind) (L C : Int) (n : Nat) (hl : a.eval l = .int kl L) (hc : a.eval c = .int kc C) (hL : L = (n : Int)) (hC : C = (n : Int)) (b2 : by' * n ≤ 281474976710656) (b3 : n ≤ 9223372036854775807) (b4 : base ≤ w.heap.size)
    (hK : ∀ w', w'.ownsRow base e size (.slice (some ⟨w.heap.size, 0, none⟩) n n) n (madeCells z.cells (n * size)).toList → w.grownBy w' none → wpList P ops Q rest (a.put o.dst (.slice (some ⟨w.heap.size, 0, none⟩) n n)) w') :
    wpList P ops Q (o :: rest) a w := by
  obtain ⟨i0, hi, hz0, hz1, hz2⟩ := info_parts R.info
  subst hz2
  exact wpList_make_full w hg l c t hop base e i0 z size R.ht hi hz0 hz1 kl kc L C n hl hc hL hC b2 (by unfold maxLen; omega) b4 hK
end Go.Proofs.YtpoilaappcjbeaaGreatDoor
end

section
namespace Go.Proofs.YtpoilaappcjbeaaGreatDoor
open Go.RowKit

/-- A token: its length and its distance. -/
abbrev Tok := Int × Int
namespace Tk
def isTok (t : Tok) : Bool := if t.1 = 0 then decide (0 ≤ t.2 ∧ t.2 ≤ 255) else decide (3 ≤ t.1 ∧ t.1 ≤ 258 ∧ 1 ≤ t.2 ∧ t.2 ≤ 32768)
/-- The last byte but so many. -/
def bk (d : Nat) (l : List UInt8) : UInt8 := l.getD (l.length - d) 0
/-- So many bytes more, each as the one that is so far behind. -/
def cp (d : Nat) (l : List UInt8) : Nat → List UInt8
  | 0 => l
  | n + 1 => cp d l n ++ [bk d (cp d l n)]
theorem cp_length (d : Nat) (l : List UInt8) : ∀ n, (cp d l n).length = l.length + n
  | 0 => rfl
  | n + 1 => by rw [cp, List.length_append, cp_length d l n]; simp; omega
def size (t : Tok) : Nat := if t.1 = 0 then 1 else t.1.toNat
def put (l : List UInt8) (t : Tok) : List UInt8 := if t.1 = 0 then l ++ [UInt8.ofNat t.2.toNat] else cp t.2.toNat l t.1.toNat
/-- A token that is one is added: an error's number (0: none), and what there is then. -/
def add (most : Nat) (l : List UInt8) (t : Tok) : Int × List UInt8 :=
  if t.1 ≠ 0 ∧ (l.length : Int) < t.2 then (2, []) else if most < l.length + size t then (4, []) else (0, put l t)
def stp (most : Nat) (l : List UInt8) (t : Tok) : Int × List UInt8 := if isTok t then add most l t else (6, [])
/-- What the first k come to. -/
def upto (most : Nat) (ts : List Tok) : Nat → Int × List UInt8
  | 0 => (0, [])
  | k + 1 => if (upto most ts k).1 = 0 then stp most (upto most ts k).2 (ts.getD k (0, 0)) else upto most ts k
theorem upto_next {most : Nat} {ts : List Tok} {k : Nat} {l : List UInt8} (h : upto most ts k = (0, l)) : upto most ts (k + 1) = stp most l (ts.getD k (0, 0)) := by rw [upto, h]; rfl
theorem upto_stuck {most : Nat} {ts : List Tok} {k : Nat} (h : (upto most ts k).1 ≠ 0) : ∀ n, k ≤ n → upto most ts n = upto most ts k
  | 0, hn => by obtain rfl : k = 0 := by omega
                rfl
  | n + 1, hn => by
    by_cases e : k = n + 1
    · rw [e]
    · have ih := upto_stuck h n (by omega)
      rw [upto, ih, if_neg h]
theorem upto_err {most : Nat} {ts : List Tok} {k : Nat} {l m : List UInt8} {n : Int} (h : upto most ts k = (0, l)) (h2 : stp most l (ts.getD k (0, 0)) = (n, m)) (hn : n ≠ 0) (hk : k < ts.length) : upto most ts ts.length = (n, m) := by
  have e := upto_next h
  rw [h2] at e
  rw [upto_stuck (k := k + 1) (by rw [e]; exact hn) _ (by omega), e]
/-- What tokens come to. -/
def exp (most : Int) (ts : List Tok) : Int × List UInt8 := if 0 ≤ most ∧ most ≤ 4194304 then upto most.toNat ts ts.length else (7, [])
theorem put_length (l : List UInt8) (t : Tok) : (put l t).length = l.length + size t := by
  unfold put size
  split
  · simp
  · rw [cp_length]
theorem add_le {most : Nat} {l m : List UInt8} {t : Tok} (h : add most l t = (0, m)) : m.length ≤ most := by
  unfold add at h
  split at h
  · simp at h
  split at h
  · simp at h
  · simp only [Prod.mk.injEq, true_and] at h
    rw [← h, put_length]; omega
theorem upto_le (most : Nat) (ts : List Tok) : ∀ k l, upto most ts k = (0, l) → l.length ≤ most
  | 0, l, h => by simp only [upto, Prod.mk.injEq, true_and] at h; subst h; simp
  | k + 1, l, h => by
    rw [upto] at h
    split at h
    · unfold stp at h
      split at h
      · exact add_le h
      · simp at h
    · rename_i hne; rw [h] at hne; exact absurd rfl hne
theorem tok_range {t : Tok} (h : isTok t = true) : 0 ≤ t.1 ∧ t.1 ≤ 258 ∧ 0 ≤ t.2 ∧ t.2 ≤ 32768 ∧ (t.1 = 0 → t.2 ≤ 255) ∧ (t.1 ≠ 0 → 3 ≤ t.1 ∧ 1 ≤ t.2) := by
  unfold isTok at h
  split at h
  · have := of_decide_eq_true h; omega
  · have := of_decide_eq_true h; omega
end Tk
/-- Tokens as cells. -/
def tks (l : List Tok) : List Value := l.flatMap fun o => [.int .i64 o.1, .int .i64 o.2]
theorem tks_length (l : List Tok) : (tks l).length = l.length * 2 := by
  induction l with
  | nil => rfl
  | cons o l ih => simp only [tks, List.flatMap_cons, List.length_append, List.length_cons, List.length_nil] at *; omega
theorem tks_append (l m : List Tok) : tks (l ++ m) = tks l ++ tks m := by simp [tks]
theorem tks_get (l : List Tok) : ∀ i, i < l.length → (tks l)[i * 2]? = some (.int .i64 (l.getD i (0, 0)).1) ∧ (tks l)[i * 2 + 1]? = some (.int .i64 (l.getD i (0, 0)).2) := by
  induction l with
  | nil => intro i hi; simp at hi
  | cons c cs ih =>
    intro i hi
    have e : tks (c :: cs) = .int .i64 c.1 :: .int .i64 c.2 :: tks cs := rfl
    rw [e]
    cases i with
    | zero => exact ⟨rfl, rfl⟩
    | succ i =>
      have := ih i (by simp at hi; omega)
      have e3 : (i + 1) * 2 = i * 2 + 2 := by omega
      rw [e3]
      exact this
theorem tks_one (l : List Tok) : ∀ u ∈ tks l, u.oneCell' = true := by
  intro u hu
  simp only [tks, List.mem_flatMap] at hu
  obtain ⟨o, _, ho⟩ := hu
  simp at ho
  rcases ho with rfl | rfl <;> rfl
/-- A slice of tokens that reads as l. -/
structure Ts2 (w : World) (a : Option Addr) (len cap : Nat) (l : List Tok) : Prop where
  hlen : l.length = len
  hle : len ≤ cap
  hnil : a = none → cap = 0
  at' : ∀ i, i < len → ∃ b off, a = some ⟨b, off, none⟩ ∧ b < w.heap.size ∧ w.cell? ⟨b, off + i * 2, none⟩ = some (.int .i64 (l.getD i (0, 0)).1) ∧ w.cell? ⟨b, off + i * 2 + 1, none⟩ = some (.int .i64 (l.getD i (0, 0)).2)
  wf : ∀ i, i < len → (Lit.int .i64 (l.getD i (0, 0)).1).wf = true ∧ (Lit.int .i64 (l.getD i (0, 0)).2).wf = true
theorem Ts2.mono {w w' : World} {a : Option Addr} {len cap : Nat} {l : List Tok} (h : Ts2 w a len cap l) (hb : Below w.heap.size w w') : Ts2 w' a len cap l :=
  ⟨h.hlen, h.hle, h.hnil, fun i hi => by
    obtain ⟨b, off, e, hlt, c0, c1⟩ := h.at' i hi
    exact ⟨b, off, e, Nat.lt_of_lt_of_le hlt hb.size, by rw [hb.cell (p := ⟨b, off + i * 2, none⟩) hlt]; exact c0, by rw [hb.cell (p := ⟨b, off + i * 2 + 1, none⟩) hlt]; exact c1⟩, h.wf⟩
theorem Ts2.src {w : World} {a : Option Addr} {len cap : Nat} {l : List Tok} (h : Ts2 w a len cap l) : SrcRow w a len cap (tks l) 2 := by
  refine ⟨by rw [tks_length, h.hlen], fun e => ?_, fun ad e j u hu => ?_, tks_one l⟩
  · have := h.hnil e; have := h.hle; omega
  · have hj : j < (tks l).length := (List.getElem?_eq_some_iff.1 hu).1
    rw [tks_length, h.hlen] at hj
    obtain ⟨b, off, e2, _, c0, c1⟩ := h.at' (j / 2) (by omega)
    rw [e] at e2
    obtain rfl := Option.some.inj e2
    obtain ⟨t0, t1⟩ := tks_get l (j / 2) (by rw [h.hlen]; omega)
    rw [Addr.add_mid]
    rcases Nat.mod_two_eq_zero_or_one j with h0 | h0
    · have ej : j = j / 2 * 2 := by omega
      rw [ej] at hu ⊢
      have e4 : j / 2 * 2 / 2 = j / 2 := by omega
      rw [t0] at hu
      rw [c0]; exact hu
    · have ej : j = j / 2 * 2 + 1 := by omega
      rw [ej] at hu ⊢
      rw [t1] at hu
      rw [← Nat.add_assoc, c1]; exact hu
end Go.Proofs.YtpoilaappcjbeaaGreatDoor
end

section
namespace Go.Proofs.YtpoilaappcjbeaaGreatDoor
open Go.RowKit

theorem tyR : RowTy Tryz.prog 127 132 (.agg #[.int .i64 0, .int .i64 0]) 2 16 := ⟨Tryz.underlying127, by kernel_rfl, rfl, by omega⟩
theorem src_run (w : World) (t : Tok) : SrcRow (w.alloc (.cells #[.int .i64 t.1, .int .i64 t.2] 132)) (some ⟨w.heap.size, 0, none⟩) 1 1 (tks [t]) 2 :=
  src_new w #[.int .i64 t.1, .int .i64 t.2] 132 1 1 2 rfl (by intro u hu; simp at hu; rcases hu with rfl | rfl <;> rfl)
/-- A row of runs of the call's own reads as its runs. -/
theorem own_rs2 {w : World} {base n : Nat} {v : Value} {l : List Tok} (h : w.ownsRow base 132 2 v n (tks l)) (hw : ∀ i, i < n → (Lit.int .i64 (l.getD i (0, 0)).1).wf = true ∧ (Lit.int .i64 (l.getD i (0, 0)).2).wf = true) :
    ∃ a cap, v = .slice a n cap ∧ Ts2 w a n cap l := by
  have hn : l.length = n := by have := h.1; rw [tks_length] at this; omega
  rcases own_nil_or h with ⟨rfl, rfl⟩ | ⟨g, cap, rfl, hle, _⟩
  · exact ⟨none, 0, rfl, hn, Nat.le_refl _, fun _ => rfl, fun i hi => absurd hi (by omega), hw⟩
  · refine ⟨_, cap, rfl, hn, hle, fun e => by simp at e, fun i hi => ⟨g, 0, rfl, (h.lt g rfl).2, ?_⟩, hw⟩
    obtain ⟨t0, t1⟩ := tks_get l i (by omega)
    rw [Nat.zero_add, h.cellAt (i * 2) (by omega), h.cellAt (i * 2 + 1) (by omega)]
    exact ⟨t0, t1⟩
/-- What runBase answers. -/
def Bl.rb (y : Int) : Value := if 0 ≤ y ∧ y ≤ 18 then .tuple #[.int .i64 (Bl.base y : Nat), .int .i64 (Bl.bits y : Nat), .bool true] else .tuple #[.int .i64 0, .int .i64 0, .bool false]
theorem runBase_any (y : Int) (w : World) : Calls Tryz.prog 88 #[.int .i64 y] w fun e w' => e = .returned (Bl.rb y) ∧ w = w' := by
  by_cases h1 : 0 ≤ y ∧ y ≤ 18
  · have d1 : decide (y < 0) = false := decide_eq_false (by omega)
    have d2 : decide (19 ≤ y) = false := decide_eq_false (by omega)
    have HR : Hid (Bl.rb y = .tuple #[.int .i64 (Bl.base y : Nat), .int .i64 (Bl.bits y : Nat), .bool true]) := Lib.hid (by unfold Bl.rb; rw [if_pos h1])
    by_cases e6 : y = 16
    · subst e6
      go_enter Tryz.func88, Tryz.ntmps88
      go_wp2
      go_ret3
      exact ⟨by rw [HR.out]; rfl, rfl⟩
    · by_cases e7 : y = 17
      · subst e7
        go_enter Tryz.func88, Tryz.ntmps88
        go_wp2
        go_ret3
        exact ⟨by rw [HR.out]; rfl, rfl⟩
      · by_cases e8 : y = 18
        · subst e8
          go_enter Tryz.func88, Tryz.ntmps88
          go_wp2
          go_ret3
          exact ⟨by rw [HR.out]; rfl, rfl⟩
        · have d6 : (y == 16) = false := by simpa using e6
          have d7 : (y == 17) = false := by simpa using e7
          have d8 : (y == 18) = false := by simpa using e8
          have HB : Hid (Bl.base y = 1 ∧ Bl.bits y = 0) := Lib.hid (by unfold Bl.base Bl.bits; rw [if_neg e6, if_neg e7, if_neg e8, if_neg e6, if_neg e7, if_neg e8]; exact ⟨rfl, rfl⟩)
          clear h1 e6 e7 e8
          go_enter Tryz.func88, Tryz.ntmps88
          go_wp2
          go_ret3
          exact ⟨by rw [HR.out, HB.out.1, HB.out.2]; rfl, rfl⟩
  · have HR : Hid (Bl.rb y = .tuple #[.int .i64 0, .int .i64 0, .bool false]) := Lib.hid (by unfold Bl.rb; rw [if_neg h1])
    by_cases h2 : y < 0
    · have d1 : decide (y < 0) = true := decide_eq_true h2
      clear h1
      go_enter Tryz.func88, Tryz.ntmps88
      go_wp2
      go_ret3
      exact ⟨by rw [HR.out]; rfl, rfl⟩
    · have d1 : decide (y < 0) = false := decide_eq_false h2
      have d2 : decide (19 ≤ y) = true := decide_eq_true (by omega)
      clear h1
      go_enter Tryz.func88, Tryz.ntmps88
      go_wp2
      go_ret3
      exact ⟨by rw [HR.out]; rfl, rfl⟩
end Go.Proofs.YtpoilaappcjbeaaGreatDoor
end

section
namespace Go.Proofs.YtpoilaappcjbeaaGreatDoor
open Go.RowKit
set_option linter.unusedSimpArgs false

theorem u64_and32 (c : Nat) (h : c < 4294967296) : bits .and .u64 (c : Int) 4294967295 = (c : Int) := by
  have h2 := bits_mask .u64 64 (by decide) (fun n h0 h1 => by simp only [IntKind.wrap, IntKind.signed, IntKind.bits]; first | omega | (simp; omega)) 32 (by decide) (c : Int) (by omega) (by omega)
  simp only [Int.reducePow, Int.reduceSub] at h2
  rw [h2]; omega
theorem mul64_one (c : Nat) (hc : c < 4294967296) (w : World) : Calls Tryz.prog 111 #[.int .u64 1, .int .u64 (c : Nat)] w fun e w' => e = .returned (.tuple #[.int .u64 0, .int .u64 (c : Nat)]) ∧ w = w' := by
  have ha := u64_and32 c hc
  have h1 : bits .and .u64 1 4294967295 = 1 := by decide +kernel
  have h0 : bits .and .u64 0 4294967295 = 0 := by decide +kernel
  have hd : (c : Int) / 4294967296 = 0 := by omega
  have hw : IntKind.u64.wrap (c : Int) = (c : Int) := by simp only [IntKind.wrap, IntKind.signed, IntKind.bits]; first | omega | (simp; omega)
  have hw0 : IntKind.u64.wrap 0 = 0 := by decide +kernel
  have h64 : Calls Tryz.prog 118 #[.int .u64 1, .int .u64 (c : Nat)] w fun e w' => e = .returned (.tuple #[.int .u64 0, .int .u64 (c : Nat)]) ∧ w = w' := by
    go_enter Tryz.func118, Tryz.ntmps118
    go_wp2
    go_ret2
    exact ⟨rfl, rfl⟩
  go_enter Tryz.func111, Tryz.ntmps111
  go_wp2_with fail
  refine h64.mono ?_
  rintro e w' ⟨rfl, rfl⟩
  go_wp2
  go_ret2
  exact ⟨rfl, rfl⟩
section
variable {P : Program} {w : World} {ops : Array Oper} {o : Oper} {a : Act} {Q : Exit → Act → World → Prop} {K : Act → World → Prop} {E : Prop}
/-- copy of elements of two cells. -/
theorem run_copy_row2 (w : World) (dT sT ty elem : TypeId) (g o dLen dCap : Nat) (a : Addr) (sLen sCap : Nat) (cur : Array Value) (t : TypeId) (cs : List Value) (m : Nat)
    (hu : P.underlying dT = some (.slice elem)) (hs : (P.info? elem).map (·.size) = some 2)
    (hg : w.heap[g]? = some (.cells cur t (0, 0))) (hm : Nat.min sLen dLen = m) (hn : cs.length = m * 2)
    (hsrc : ∀ j v, cs[j]? = some v → w.cell? (a.add j) = some v) (hfit : o + cs.length ≤ cur.size) (h1 : ∀ v ∈ cs, v.oneCell' = true) :
    (Builtin.copy_ #[dT, sT] ty #[.slice (some ⟨g, o, none⟩) dLen dCap, .slice (some a) sLen sCap]).run P w =
      .ok (goInt m) (w.setRow g (cur.toList.take o ++ cs ++ cur.toList.drop (o + cs.length)).toArray) := by
  have hl := run_loadCells_list (P := P) w a cs hsrc
  have hst := run_storeCells_at P g o t cs 0 cur w hg (by simpa using hfit) h1
  rw [hn] at hl
  cases hq : P.info? elem with
  | none => simp [hq] at hs
  | some i =>
    have hi : i.size = 2 := by simpa [hq] using hs
    simp [Builtin.copy_, run_underlying hu, Builtin.lenOf, Builtin.firstCells, sizeOf, typeInfo, hq, hi, hm, hl, hst]
theorem run_copy_none2 (w : World) (dT sT ty elem : TypeId) (d a : Option Addr) (dLen dCap sLen sCap : Nat) (hu : P.underlying dT = some (.slice elem)) (hs : (P.info? elem).map (·.size) = some 2) (hn : Nat.min sLen dLen = 0) :
    (Builtin.copy_ #[dT, sT] ty #[.slice d dLen dCap, .slice a sLen sCap]).run P w = .ok (goInt 0) w := by
  cases hq : P.info? elem with
  | none => simp [hq] at hs
  | some i =>
    have hl : ∀ (x : Addr), (loadCells x 0).run P w = .ok #[] w := fun x => by simpa using run_loadCells_list (P := P) w x [] (by simp)
    cases d <;> cases a <;> simp [Builtin.copy_, run_underlying hu, Builtin.lenOf, Builtin.firstCells, sizeOf, typeInfo, hq, hn, storeCells, hl]
/-- The same, as one step of a region that draws. -/
theorem step_copy2 (hg : o.guard = none) (d s : Operand) (dT sT : TypeId) (ho : o.op = .call { callee := .builtin .copy, args := #[d, s], argTypes := #[dT, sT] }) (elem : TypeId) (hu : P.underlying dT = some (.slice elem)) (hsz : (P.info? elem).map (·.size) = some 2)
    (g off dLen dCap : Nat) (ad : Addr) (sLen sCap : Nat) (hd : a.eval d = .slice (some ⟨g, off, none⟩) dLen dCap) (hs : a.eval s = .slice (some ad) sLen sCap)
    (cur : Array Value) (t : TypeId) (hrow : w.heap[g]? = some (.cells cur t (0, 0))) (cs : List Value) (m : Nat) (hm : Nat.min sLen dLen = m) (hn : cs.length = m * 2)
    (hsrc : ∀ j v, cs[j]? = some v → w.cell? (ad.add j) = some v) (hfit : off + cs.length ≤ cur.size) (h1 : ∀ v ∈ cs, v.oneCell' = true)
    (hK : K (a.put o.dst (goInt m)) (w.setRow g (cur.toList.take off ++ cs ++ cur.toList.drop (off + cs.length)).toArray)) :
    if Region.wanted o (yielded ops a.tmps) = true then Oper.wp P o a w K Q else E := by
  have hw : Region.wanted o (yielded ops a.tmps) = true := by simp [Region.wanted, hg]
  rw [if_pos hw]
  have hrun := run_copy_row2 (P := P) w dT sT o.type elem g off dLen dCap ad sLen sCap cur t cs m hu hsz hrow hm hn hsrc hfit h1
  unfold Oper.wp
  simp [execOp, ho, resolve, invoke, builtin, hd, hs, hrun, Result.andThen]
  rw [List.append_assoc] at hK
  have hU : ∀ r : Result Next, r = Result.ok (Next.value (goInt m)) (w.setRow g (cur.toList.take off ++ (cs ++ cur.toList.drop (off + cs.length))).toArray) → Oper.upon P o a K Q r := fun r hr => by
    subst hr
    simp only [Oper.upon]
    exact hK
  first | exact hK | (refine hU _ ?_; simp) | simpa using hU _ rfl
end
theorem tks_take (l : List Tok) (k : Nat) : (tks l).take (k * 2) = tks (l.take k) := by
  induction l generalizing k with
  | nil => simp [tks]
  | cons a r ih =>
    cases k with
    | zero => simp [tks]
    | succ k =>
      have e1 : (k + 1) * 2 = k * 2 + 1 + 1 := by omega
      have e2 : tks (a :: r) = .int .i64 a.1 :: .int .i64 a.2 :: tks r := rfl
      have e3 : tks (a :: r.take k) = .int .i64 a.1 :: .int .i64 a.2 :: tks (r.take k) := rfl
      rw [e1, e2, List.take_succ_cons, List.take_succ_cons, ih k, List.take_succ_cons, e3]
theorem tks_drop (l : List Tok) (k : Nat) : (tks l).drop (k * 2) = tks (l.drop k) := by
  induction l generalizing k with
  | nil => simp [tks]
  | cons a r ih =>
    cases k with
    | zero => simp
    | succ k =>
      have e1 : (k + 1) * 2 = k * 2 + 1 + 1 := by omega
      have e2 : tks (a :: r) = .int .i64 a.1 :: .int .i64 a.2 :: tks r := rfl
      rw [e1, e2, List.drop_succ_cons, List.drop_succ_cons, ih k, List.drop_succ_cons]
theorem tks_zeros (n : Nat) : tks (List.replicate n (0, 0)) = List.replicate (n * 2) (.int .i64 0) := by
  rw [List.eq_replicate_iff]
  refine ⟨by rw [tks_length, List.length_replicate], fun b hb => ?_⟩
  simp only [tks, List.mem_flatMap, List.mem_replicate] at hb
  obtain ⟨o, ⟨_, rfl⟩, ho⟩ := hb
  simp at ho
  exact ho
theorem made_toks (n : Nat) : (madeCells #[.int .i64 0, .int .i64 0] (n * 2)).toList = tks (List.replicate n (0, 0)) := by
  rw [made_all _ _ (.int .i64 0) (by simp) (fun i hi => by
    match i, hi with
    | 0, _ => rfl
    | 1, _ => rfl), tks_zeros]
def RrPost (w : World) (c : Tok) (n : Nat) (e : Ending) (w' : World) : Prop := ∃ v, e = .returned v ∧ w'.ownsRow w.heap.size 132 2 v n (tks (List.replicate n c)) ∧ Below w.heap.size w w'
/-- What has been filled of a new row. -/
structure RrX (w wr : World) (c : Tok) (n k : Nat) : Prop where
  row : wr.heap[w.heap.size]? = some (.cells (tks (List.replicate k c ++ List.replicate (n - k) (0, 0))).toArray 132 (0, 0))
  bel : Below w.heap.size w wr
theorem fillr_splice (c : Tok) (n k m : Nat) (hm : k + m ≤ n) : (tks (List.replicate k c ++ List.replicate (n - k) (0, 0))).take (k * 2) ++ (tks (List.replicate m c) ++ (tks (List.replicate k c ++ List.replicate (n - k) (0, 0))).drop (k * 2 + m * 2)) = tks (List.replicate (k + m) c ++ List.replicate (n - (k + m)) (0, 0)) := by
  rw [← Nat.add_mul, tks_take, tks_drop, ← tks_append, ← tks_append]
  congr 1
  rw [List.take_append_of_le_length (by simp), List.take_of_length_le (by simp), List.drop_append, List.drop_of_length_le (by simp)]
  simp only [List.nil_append, List.length_replicate, List.drop_replicate]
  rw [← List.append_assoc, List.replicate_append_replicate]
  congr 2; omega
theorem repr_src {w wr : World} {c : Tok} {n k m : Nat} (h : RrX w wr c n k) (hm2 : k + m ≤ n) (hm : m ≤ k) {j : Nat} {v : Value} (hj : (tks (List.replicate m c))[j]? = some v) : wr.drew.cell? ((⟨w.heap.size, 0, none⟩ : Addr).add j) = some v := by
  have h1 := cell_of_row wr w.heap.size j _ _ _ h.row
  have e : ((⟨w.heap.size, 0, none⟩ : Addr).add j) = ⟨w.heap.size, j, none⟩ := by
    simp [Addr.add]; omega
  have h2 : wr.drew.cell? ⟨w.heap.size, j, none⟩ = wr.cell? ⟨w.heap.size, j, none⟩ := rfl
  rw [e, h2, h1]
  have hl := (List.getElem?_eq_some_iff.1 hj).1
  have h3 : (tks (List.replicate k c ++ List.replicate (n - k) (0, 0)))[j]? = some v := by
    obtain ⟨d, rfl⟩ : ∃ d, k = m + d := ⟨k - m, by omega⟩
    rw [← List.replicate_append_replicate, List.append_assoc, tks_append, List.getElem?_append_left hl]
    exact hj
  simpa using h3
set_option maxRecDepth 100000 in
set_option maxHeartbeats 2000000 in
theorem repRun_any (g : Nat) (c : Tok) (n : Nat) (w : World) (h : w.cell? ⟨g, 0, none⟩ = some (.int .i64 c.1)) (h' : w.cell? ⟨g, 1, none⟩ = some (.int .i64 c.2)) (hgl : g < w.heap.size) (hn : n ≤ 1000000) :
    Calls Tryz.prog 116 #[.slice (some ⟨g, 0, none⟩) 1 1, .int .i64 (n : Nat)] w (RrPost w c n) := by
  have hwn : IntKind.u64.wrap (n : Int) = (n : Int) := by simp only [IntKind.wrap, IntKind.signed, IntKind.bits]; first | omega | (simp; omega)
  have d0 : decide ((n : Int) < 0) = false := by simp
  have d1 : decide ((9223372036854775807 : Int) < (n : Int)) = false := by simp; omega
  have hH := Lib.hid h
  have hH' := Lib.hid h'
  clear h h'
  go_enter Tryz.func116, Tryz.ntmps116
  go_wp2_with fail
  refine (mul64_one n (by omega) w).mono ?_
  rintro e w' ⟨rfl, rfl⟩
  go_wp2_with (at_make; refine wpl_make_full tyR rfl _ _ rfl w.heap.size .i64 .i64 _ _ n rfl rfl rfl rfl (by omega) (by omega) (Nat.le_refl _) ?_)
  intro w1 own1 hg1
  have hb1 : Below w.heap.size w w1 := (Below.refl _ _).grown hg1 (Nat.le_refl _) (by simp)
  have own1 : w1.ownsRow w.heap.size 132 2 (.slice (some ⟨w.heap.size, 0, none⟩) n n) n (tks (List.replicate n (0, 0))) := by rw [← made_toks]; exact own1
  by_cases hn0 : n = 0
  · subst hn0
    have hO := Lib.hid (And.intro own1 hb1)
    have hrun : (Builtin.copy_ #[127, 127] 3 #[.slice (some ⟨w.heap.size, 0, none⟩) 0 0, .slice (some ⟨g, 0, none⟩) 1 1]).run Tryz.prog w1 = .ok (.int .i64 0) w1 :=
      run_copy_none2 (P := Tryz.prog) w1 127 127 3 132 _ _ 0 0 1 1 Tryz.underlying127 (by kernel_rfl) rfl
    clear own1 hg1 hb1
    go_wp2
    go_loop [8] (fun i => i = .int .i64 0) (fun _ => 0)
    case atStart => rfl
    case round =>
      obtain rfl := hrel
      go_wp2
      go_ret
      exact ⟨_, rfl, hO.out.1, hO.out.2⟩
  have hrow1 : w1.heap[w.heap.size]? = some (.cells (tks (List.replicate n (0, 0))).toArray 132 (0, 0)) := by
    rcases own1.2 with ⟨h1, _⟩ | ⟨g2, cap2, cur, h1, _, hg, _, _, hsz, hcur⟩
    · simp at h1
    · simp only [Value.slice.injEq, Option.some.injEq, Addr.mk.injEq, and_true, true_and] at h1
      obtain ⟨rfl, rfl⟩ := h1
      have e3 : cur = (tks (List.replicate n (0, 0))).toArray := by
        apply Array.ext'
        rw [List.take_of_length_le (by rw [Array.length_toList, hsz]; exact Nat.le_refl _)] at hcur
        rw [hcur]
      rw [← e3]; exact hg
  have hc1 : w1.cell? ⟨g, 0, none⟩ = some (.int .i64 c.1) := (hb1.cell (p := ⟨g, 0, none⟩) hgl).trans hH.out
  have hc2 : w1.cell? ⟨g, 1, none⟩ = some (.int .i64 c.2) := (hb1.cell (p := ⟨g, 1, none⟩) hgl).trans hH'.out
  have hbl := Lib.hid hb1
  have HR1 := Lib.hid hrow1
  have HC1 := Lib.hid hc1
  have HC2 := Lib.hid hc2
  clear own1 hg1 hb1 hrow1 hc1 hc2 hH hH'
  obtain ⟨w2, hrun, HR⟩ : ∃ w2, (Builtin.copy_ #[127, 127] 3 #[.slice (some ⟨w.heap.size, 0, none⟩) n n, .slice (some ⟨g, 0, none⟩) 1 1]).run Tryz.prog w1 = .ok (.int .i64 1) w2 ∧ Hid (RrX w w2 c n 1) := by
    have h1 := run_copy_row2 (P := Tryz.prog) w1 127 127 3 132 w.heap.size 0 n n ⟨g, 0, none⟩ 1 1 (tks (List.replicate n (0, 0))).toArray 132 (tks [c]) 1 Tryz.underlying127 (by kernel_rfl) HR1.out (by show min 1 n = 1; omega) rfl (fun j v hj => by
      match j, hj with
      | 0, hj => cases hj; exact HC1.out
      | 1, hj => cases hj; exact HC2.out) (by simp [tks_length]; omega) (tks_one [c])
    refine ⟨_, h1, Lib.hid ⟨?_, below_setRow (B := w.heap.size) (w0 := w) (g := w.heap.size) hbl.out (Nat.le_refl _) _⟩⟩
    have e : (((tks (List.replicate n (0, 0))).toArray).toList.take 0 ++ tks [c] ++ ((tks (List.replicate n (0, 0))).toArray).toList.drop (0 + (tks [c]).length)) = tks (List.replicate 1 c ++ List.replicate (n - 1) (0, 0)) := by
      have := fillr_splice c n 0 1 (by omega)
      simpa [tks_length] using this
    rw [← e]
    exact setRow_heap _ _ _ _ _ _ HR1.out
  go_wp2
  go_loopw [8] (fun i wr => ∃ k : Nat, 1 ≤ k ∧ k ≤ n ∧ i = .int .i64 k ∧ Hid (RrX w wr c n k)) (fun i _ => n - (intOf i).toNat)
  case atStart => exact ⟨1, by omega, by omega, rfl, HR⟩
  case round =>
    obtain ⟨k, hk1, hk, rfl, HK⟩ := hrel
    by_cases hlt : k < n
    · have hnk : (n = k) = False := by simp; omega
      obtain ⟨m, hmE, hm1, hm2⟩ : ∃ m, m = min k (n - k) ∧ 0 < m ∧ k + m ≤ n := ⟨min k (n - k), rfl, by omega, by omega⟩
      have hmk : m ≤ k := by omega
      have hmH := Lib.hid hmE
      clear hmE
      have hwr : IntKind.i64.wrap ((k : Int) + (m : Int)) = ((k + m : Nat) : Int) := by simp only [IntKind.wrap, IntKind.signed, IntKind.bits]; first | omega | (simp; omega)
      have hHX : RrX w (wr.drew.setRow w.heap.size (List.take (k * 2) (tks (List.replicate k c ++ List.replicate (n - k) (0, 0))) ++ (tks (List.replicate m c) ++ List.drop (k * 2 + m * 2) (tks (List.replicate k c ++ List.replicate (n - k) (0, 0))))).toArray) c n (k + m) := by
        refine ⟨?_, below_setRow (B := w.heap.size) (w0 := w) (g := w.heap.size) HK.out.bel.drew (Nat.le_refl _) _⟩
        rw [fillr_splice c n k m hm2]
        exact setRow_heap wr.drew _ _ _ _ _ HK.out.row
      have hH2 := Lib.hid hHX
      clear hHX
      go_wp2_with fail
      go_region_law (refine step_copy2 rfl (.tmp 41) (.tmp 44) 127 127 rfl 132 Tryz.underlying127 (by kernel_rfl) w.heap.size (k * 2) (n - k) (n - k) ⟨w.heap.size, 0, none⟩ k n (by simp [Act.eval, Act.put, hnk]) (by simp [Act.eval, Act.put]) _ 132 HK.out.row (tks (List.replicate m c)) m (by have := hmH.out; show min k (n - k) = m; omega) (by rw [tks_length, List.length_replicate]) (fun j v hj => repr_src HK.out hm2 hmk hj) (by simp [tks_length]; omega) (tks_one _) ?_)
      simp only [List.getElem_toArray, List.getElem_cons_zero, List.getElem_cons_succ, Act.put, List.setIfInBounds_toArray, List.set_cons_zero, List.set_cons_succ]
      rw [tks_length, List.length_replicate]
      go_roundw
      case rel => exact ⟨_, _, _, _, _, _, _, _, _, _, _, _, _, _, ⟨k + m, by omega, hm2, by go_num, hH2⟩, rfl⟩
      case measure => simp [intOf]; omega
    · obtain rfl : k = n := by omega
      go_wp2
      go_ret
      refine ⟨_, rfl, ⟨by simp [tks_length], .inr ⟨w.heap.size, k, _, rfl, Nat.le_refl _, HK.out.row, by omega, by unfold maxLen; omega, ?_, ?_⟩⟩, HK.out.bel⟩
      · simp [tks_length]
      · simp [List.take_of_length_le, tks_length]
end Go.Proofs.YtpoilaappcjbeaaGreatDoor
end

section
namespace Go.Proofs.YtpoilaappcjbeaaGreatDoor
open Go.RowKit

theorem is_lit (w : World) (l : List Int) (n : Nat) (t : TypeId) (cs : Array Value) (hcs : (ivs l).toArray = cs) (hn : l.length = n) (hw : Wf l) : Is .i64 (w.alloc (.cells cs t)) (some ⟨w.heap.size, 0, none⟩) n n l := by
  subst hcs
  refine ⟨hn, Nat.le_refl _, fun h => by simp at h, fun i hi => ⟨w.heap.size, 0, rfl, by simp, ?_⟩, hw⟩
  rw [cell_of_row _ _ _ _ t (0, 0) (heap_alloc_last w _), Nat.zero_add, List.getElem?_toArray]
  exact ivs_get l i (by omega)
/-- The same, at an address that is spelled otherwise (w.heap.size + 1 behind one alloc: Array.size_push). -/
theorem is_lit_at (w : World) (g : Nat) (hg : w.heap.size = g) (l : List Int) (n : Nat) (t : TypeId) (cs : Array Value) (hcs : (ivs l).toArray = cs) (hn : l.length = n) (hw : Wf l) : Is .i64 (w.alloc (.cells cs t)) (some ⟨g, 0, none⟩) n n l := by
  subst hg; exact is_lit w l n t cs hcs hn hw
end Go.Proofs.YtpoilaappcjbeaaGreatDoor
end
