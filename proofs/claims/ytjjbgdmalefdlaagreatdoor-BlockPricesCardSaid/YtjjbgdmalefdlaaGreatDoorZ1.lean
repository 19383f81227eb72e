/- Small words for slices of bytes. Merging by packages: rounds, what is taken of them, and that nothing costs less. -/
import Derived.WalkKit
import Derived.WalkSpells
import Derived.WalkLawsBesides
import Derived.Lib.Hide
import Derived.IntWalk
import Derived.Laws.BitsAllLaws
import Derived.Laws.Rows
import Derived.Lib.SlBytesConst
import Derived.Laws.BytesArg
import Derived.Deep.MidRow
import Derived.Deep.WholeRow
set_option linter.unusedSimpArgs false
set_option linter.unusedVariables false
section
namespace Go.Proofs.YtjjbgdmalefdlaaGreatDoor
open Go.RowKit

/-- The k-th byte, as a number. -/
def gb (l : List UInt8) (k : Nat) : Nat := (l.getD k 0).toNat
theorem gb_lt (l : List UInt8) (k : Nat) : gb l k < 256 := (l.getD k 0).toNat_lt
/-- A slice of bytes that reads as l. -/
structure Bs (w : World) (a : Option Addr) (len cap : Nat) (l : List UInt8) : Prop where
  hlen : l.length = len
  hle : len ≤ cap
  hcap : len ≤ 281474976710656
  hmax : cap ≤ 9223372036854775807
  hnil : a = none → cap = 0
  at' : ∀ i, i < len → ∃ b off, a = some ⟨b, off, none⟩ ∧ b < w.heap.size ∧ w.cell? ⟨b, off + i, none⟩ = some (.int .u8 (gb l i))

theorem u8_lt (x : UInt8) : x.toNat < 256 := x.toNat_lt
theorem int_eq {k : IntKind} {a b : Int} (h : a = b) : Value.int k a = .int k b := by rw [h]
theorem ret_int {k : IntKind} {a b : Int} (h : a = b) : Ending.returned (.int k a) = .returned (.int k b) := by rw [h]
theorem take_succ_getD (l : List UInt8) (k : Nat) (h : k < l.length) : l.take (k + 1) = l.take k ++ [l.getD k 0] := by
  rw [List.take_succ_eq_append_getElem h]; simp [List.getD, List.getElem?_eq_getElem h]

/-- A slice of bytes, with what it reads as. -/
structure Sl where
  a : Option Addr
  len : Nat
  cap : Nat
  l : List UInt8
def Sl.val (s : Sl) : Value := .slice s.a s.len s.cap
def Sl.at (s : Sl) (w : World) : Prop := Bs w s.a s.len s.cap s.l
instance : Inhabited Sl := ⟨⟨none, 0, 0, []⟩⟩
def nth (ps : List Sl) (i : Nat) : Sl := ps.getD i default
theorem nth_get (ps : List Sl) (i : Nat) (h : i < ps.length) : nth ps i = ps[i] := by simp [nth, List.getD, List.getElem?_eq_getElem h]
theorem nth_mem (ps : List Sl) (i : Nat) (h : i < ps.length) : nth ps i ∈ ps := by rw [nth_get ps i h]; exact List.getElem_mem h
/-- A slice of slices of bytes. -/
structure Parts (w : World) (a : Option Addr) (len cap : Nat) (ps : List Sl) : Prop where
  hlen : ps.length = len
  hle : len ≤ cap
  hcap : cap ≤ 281474976710656
  at' : ∀ i, i < len → ∃ b off, a = some ⟨b, off, none⟩ ∧ b < w.heap.size ∧ w.cell? ⟨b, off + i, none⟩ = some (.slice (nth ps i).a (nth ps i).len (nth ps i).cap) ∧ (nth ps i).at w
def flat (ps : List Sl) : List UInt8 := (ps.map Sl.l).flatten
theorem take_succ_getD' (l : List Sl) (k : Nat) (h : k < l.length) : l.take (k + 1) = l.take k ++ [nth l k] := by
  rw [List.take_succ_eq_append_getElem h]; simp [nth, List.getD, List.getElem?_eq_getElem h]
theorem flat_snoc (ps : List Sl) (k : Nat) (h : k < ps.length) : flat (ps.take (k + 1)) = flat (ps.take k) ++ (nth ps k).l := by
  rw [take_succ_getD' ps k h]; simp [flat]
theorem Bs.mono {w w' : World} {a : Option Addr} {len cap : Nat} {l : List UInt8} (h : Bs w a len cap l) (hb : Below w.heap.size w w') : Bs w' a len cap l :=
  ⟨h.hlen, h.hle, h.hcap, h.hmax, h.hnil, fun i hi => by
    obtain ⟨b, off, e, hlt, hc⟩ := h.at' i hi
    exact ⟨b, off, e, Nat.lt_of_lt_of_le hlt hb.size, by rw [hb.cell (p := ⟨b, off + i, none⟩) hlt]; exact hc⟩⟩
theorem Parts.mono {w w' : World} {a : Option Addr} {len cap : Nat} {ps : List Sl} (h : Parts w a len cap ps) (hb : Below w.heap.size w w') : Parts w' a len cap ps :=
  ⟨h.hlen, h.hle, h.hcap, fun i hi => by
    obtain ⟨b, off, e, hlt, hc, hs⟩ := h.at' i hi
    exact ⟨b, off, e, Nat.lt_of_lt_of_le hlt hb.size, by rw [hb.cell (p := ⟨b, off + i, none⟩) hlt]; exact hc, Bs.mono hs hb⟩⟩

/-- Bytes as cells. -/
def bvs (l : List UInt8) : List Value := l.map fun x => .int .u8 (x.toNat : Int)
theorem bvs_length (l : List UInt8) : (bvs l).length = l.length := by simp [bvs]
theorem bvs_append (l m : List UInt8) : bvs (l ++ m) = bvs l ++ bvs m := by simp [bvs]
theorem bvs_one (l : List UInt8) : ∀ u ∈ bvs l, u.oneCell' = true := by
  intro u hu
  simp only [bvs, List.mem_map] at hu
  obtain ⟨x, _, rfl⟩ := hu
  rfl
theorem bvs_get (l : List UInt8) (i : Nat) (h : i < l.length) : (bvs l)[i]? = some (.int .u8 (gb l i)) := by
  simp [bvs, gb, List.getD, List.getElem?_eq_getElem h]
/-- What an append finds behind a slice's address. -/
theorem Bs.news {w : World} {a : Option Addr} {len cap : Nat} {l : List UInt8} (h : Bs w a len cap l) :
    ∀ ad, a = some ad → ∀ j u, (bvs l)[j]? = some u → w.cell? (ad.add j) = some u := by
  intro ad e j u hu
  have hj : j < l.length := by have := (List.getElem?_eq_some_iff.1 hu).1; simpa [bvs] using this
  obtain ⟨b, off, e2, _, hc⟩ := h.at' j (by rw [← h.hlen]; exact hj)
  rw [e] at e2
  obtain rfl := Option.some.inj e2
  rw [Addr.add_mid, hc, ← bvs_get l j hj]
  exact hu
theorem Bs.nil0 {w : World} {a : Option Addr} {len cap : Nat} {l : List UInt8} (h : Bs w a len cap l) : a = none → len = 0 ∧ cap = 0 := fun e => by
  have := h.hnil e
  have := h.hle
  omega
/-- What lies behind s bytes; the address is a slice expression's own. -/
theorem Bs.drop {w : World} {b off len cap : Nat} {l : List UInt8} (h : Bs w (some ⟨b, off, none⟩) len cap l) (s : Nat) (hs : s ≤ len) (ao : Option Addr) (hao : ¬ cap = s → ao = some ⟨b, off + s, none⟩) :
    Bs w ao (len - s) (cap - s) (l.drop s) := by
  have h1 := h.hlen
  have h2 := h.hle
  have h3 := h.hcap
  have h4 := h.hmax
  refine ⟨by simp; omega, by omega, by omega, by omega, fun e => ?_, fun i hi => ?_⟩
  · by_cases hc : cap = s
    · omega
    · rw [hao hc] at e; simp at e
  · obtain ⟨b', off', e', hb', hc⟩ := h.at' (s + i) (by omega)
    simp only [Option.some.injEq, Addr.mk.injEq, and_true] at e'
    obtain ⟨rfl, rfl⟩ := e'
    refine ⟨b, off + s, hao (by omega), hb', ?_⟩
    rw [Nat.add_assoc, hc]
    simp [gb, List.getD, List.getElem?_drop]
/-- A row that the call owns reads as its bytes. -/
theorem bs_of_own {w : World} {base : Nat} {e : TypeId} {g n cap : Nat} {l : List UInt8} (h : w.ownsRow base e 1 (.slice (some ⟨g, 0, none⟩) n cap) n (bvs l))
    (hc : n ≤ 281474976710656) (k : Nat) (hk : k ≤ n) : Bs w (some ⟨g, 0, none⟩) k cap (l.take k) := by
  have hn : l.length = n := by have := h.1; rw [bvs_length] at this; omega
  have hcap : n ≤ cap ∧ cap ≤ 9223372036854775807 := by
    rcases h.2 with ⟨h, _⟩ | ⟨g', cap', cur, h, _, _, hnc, hm, _⟩
    · simp at h
    · simp only [Value.slice.injEq] at h; unfold maxLen at hm; omega
  have hlt : g < w.heap.size := (h.lt g rfl).2
  refine ⟨by simp; omega, by omega, by omega, hcap.2, fun h => by simp at h, fun i hi => ⟨g, 0, rfl, hlt, ?_⟩⟩
  rw [Nat.zero_add, h.cellAt i (by omega), bvs_get l i (by omega)]
  simp [gb, List.getD, List.getElem?_take, hi]

/-- What is known of a slice's type, its element's size and zero value. -/
structure RowTy (P : Program) (t e : TypeId) (z : Value) (size by' : Nat) : Prop where
  ht : P.underlying t = some (.slice e)
  info : (P.info? e).map (fun i => (i.zero, i.size, i.bytes)) = some (some z, size, by')
  hzs : z.cells.size = size
  hsz : 0 < size
/-- The cells of a slice that is appended, or copied from. -/
structure SrcRow (w : World) (ao : Option Addr) (m c : Nat) (news : List Value) (size : Nat) : Prop where
  hl : news.length = m * size
  hnone : ao = none → m = 0 ∧ c = 0
  hc : ∀ ad, ao = some ad → ∀ j u, news[j]? = some u → w.cell? (ad.add j) = some u
  h1 : ∀ u ∈ news, u.oneCell' = true
theorem Bs.src {w : World} {a : Option Addr} {len cap : Nat} {l : List UInt8} (h : Bs w a len cap l) : SrcRow w a len cap (bvs l) 1 :=
  ⟨by rw [bvs_length, h.hlen, Nat.mul_one], h.nil0, h.news, bvs_one l⟩
theorem SrcRow.mono {w w' : World} {ao : Option Addr} {m c : Nat} {news : List Value} {size : Nat} (h : SrcRow w ao m c news size) (hb : Below w.heap.size w w') : SrcRow w' ao m c news size :=
  ⟨h.hl, h.hnone, fun ad e j u hu => by
    have hc := h.hc ad e j u hu
    rw [hb.cell (block_lt_of_cell hc)]; exact hc, h.h1⟩

/-- The cells of a new block. -/
theorem src_new (w : World) (cs : Array Value) (t : TypeId) (m c size : Nat) (hl : cs.size = m * size) (h1 : ∀ u ∈ cs.toList, u.oneCell' = true) :
    SrcRow (w.alloc (.cells cs t)) (some ⟨w.heap.size, 0, none⟩) m c cs.toList size :=
  ⟨by simpa using hl, fun h => by simp at h, fun ad e j u hu => by
    obtain rfl := Option.some.inj e
    rw [Addr.add_mid, Nat.zero_add, cell_of_row _ _ j cs t (0, 0) (heap_alloc_last w _)]
    simpa using hu, h1⟩

section laws
variable {P : Program} {w : World} {ops : Array Oper} {rest : List Oper} {o : Oper} {a : Act} {Q : Exit → Act → World → Prop}
variable {t e : TypeId} {z : Value} {size by' : Nat}
theorem wpl_make (R : RowTy P t e z size by') (hg : o.guard = none) (l c : Operand) (hop : o.op = Op.makeSlice t l c) (base : Nat)
    (kl kc : IntKind) (C : Int) (n : Nat) (hl : a.eval l = .int kl 0) (hc : a.eval c = .int kc C) (hC : C = (n : Int)) (b2 : by' * n ≤ 281474976710656) (b3 : n ≤ 9223372036854775807) (b4 : base ≤ w.heap.size)
    (hK : ∀ w', w'.ownsRow base e size (.slice (some ⟨w.heap.size, 0, none⟩) 0 n) 0 [] → w.grownBy w' none → wpList P ops Q rest (a.put o.dst (.slice (some ⟨w.heap.size, 0, none⟩) 0 n)) w') :
    wpList P ops Q (o :: rest) a w := by
  obtain ⟨i0, hi, hz0, hz1, hz2⟩ := info_parts R.info
  subst hz2
  exact wpList_make_own w hg l c t hop base e i0 z size R.ht hi hz0 hz1 kl kc C n hl hc hC b2 (by unfold maxLen; omega) b4 hK
theorem wpl_fits (R : RowTy P t e z size by') (hg : o.guard = none) (s x : Operand) (hop : o.op = Op.call { callee := Callee.builtin Builtin.append, args := #[s, x], argTypes := #[t, t] })
    {base g k cap : Nat} {xs : List Value} (hown : w.ownsRow base e size (.slice (some ⟨g, 0, none⟩) k cap) k xs) {ao : Option Addr} {m c : Nat} {news : List Value} (hsrc : SrcRow w ao m c news size)
    (hs : a.eval s = .slice (some ⟨g, 0, none⟩) k cap) (hx : a.eval x = .slice ao m c) (b1 : k + m ≤ cap)
    (hK : ∀ w', w'.ownsRow base e size (.slice (some ⟨g, 0, none⟩) (k + m) cap) (k + m) (xs ++ news) → w.grownBy w' (some g) → wpList P ops Q rest (a.put o.dst (.slice (some ⟨g, 0, none⟩) (k + m) cap)) w') :
    wpList P ops Q (o :: rest) a w := by
  obtain ⟨i0, hi, hz0, hz1, hz2⟩ := info_parts R.info
  exact wpList_append_fits_any w hg s x t hop base e i0 size R.ht hi hz1 g k cap xs hs hown ao m c news hx hsrc.hl hsrc.hnone hsrc.hc hsrc.h1 b1 hK
theorem wpl_append (R : RowTy P t e z size by') (hg : o.guard = none) (s x : Operand) (hop : o.op = Op.call { callee := Callee.builtin Builtin.append, args := #[s, x], argTypes := #[t, t] })
    {base n : Nat} {v : Value} {xs : List Value} (hown : w.ownsRow base e size v n xs) {ao : Option Addr} {m c : Nat} {news : List Value} (hsrc : SrcRow w ao m c news size)
    (hs : a.eval s = v) (hx : a.eval x = .slice ao m c) (h63 : n + m ≤ 9223372036854775807) (hbytes : (n + m) * by' ≤ 140737488355328) (hbase : base ≤ w.heap.size)
    (hK : ∀ v' w', w'.ownsRow base e size v' (n + m) (xs ++ news) → w.grownBy w' v.ownBlock → (v' = .slice none 0 0 ↔ v = .slice none 0 0 ∧ m = 0) → wpList P ops Q rest (a.put o.dst v') w') :
    wpList P ops Q (o :: rest) a w := by
  obtain ⟨i0, hi, hz0, hz1, hz2⟩ := info_parts R.info
  cases ao with
  | some ad => exact wpList_append_own w hg s x t hop base e i0 z size by' R.ht hi hz0 hz1 hz2 R.hzs R.hsz v n xs hs hown ad m c news hx hsrc.hl (hsrc.hc ad rfl) hsrc.h1 (by unfold maxLen; omega) hbytes hbase hK
  | none =>
    obtain ⟨rfl, rfl⟩ := hsrc.hnone rfl
    have hnews : news = [] := List.eq_nil_of_length_eq_zero (by simpa using hsrc.hl)
    subst hnews
    refine wpList_plain hg fun K hK' => ?_
    have hrun := run_append_owned_none (P := P) w base t o.type e i0 size R.ht hi v n xs hown
    unfold Oper.wp
    simp [execOp, hop, resolve, invoke, builtin, hs, hx, hrun, Result.andThen]
    exact hK' _ _ (hK v w (by simpa using hown) (World.grownBy.refl _ _) (by simp))
end laws

/-- Bytes as a text. -/
def str (l : List UInt8) : ByteArray := ⟨l.toArray⟩
theorem str_data (l : List UInt8) : (str l).data.toList = l := rfl
theorem str_list (l : List UInt8) : (str l).toList = l := ByteArray.toList_eq (str l)
theorem str_size (l : List UInt8) : (str l).size = l.length := by simp [str, ByteArray.size]
theorem str_inj {l m : List UInt8} (h : str l = str m) : l = m := by
  have := congrArg (fun b : ByteArray => b.data.toList) h
  simpa [str] using this
theorem conv_bs {P : Program} {w : World} {a : Option Addr} {len cap : Nat} {l : List UInt8} (h : Bs w a len cap l) (src dst e : TypeId) (hs : P.underlying src = some (.slice e)) (he : P.underlying e = some (.int .u8)) (hd : P.underlying dst = some .string) :
    (convert src dst (.slice a len cap)).run P w = .ok (.string (str l)) w := by
  cases a with
  | none =>
    have h0 := (h.nil0 rfl).1
    have : l = [] := List.eq_nil_of_length_eq_zero (by rw [h.hlen]; exact h0)
    subst this
    exact run_convert_bytes_nil w src e hs he len cap dst hd
  | some ad =>
    have hl : (loadCells ad len).run P w = .ok ((l.map fun x => (x.toNat : Int)).map (Value.int .u8)).toArray w := by
      have := run_loadCells_list (P := P) w ad (bvs l) (fun j v hj => h.news ad rfl j v hj)
      rw [bvs_length, h.hlen] at this
      rw [show (l.map fun x => (x.toNat : Int)).map (Value.int .u8) = bvs l by simp only [bvs, List.map_map]; rfl]
      exact this
    rw [run_convert_bytes_string w src dst e _ len cap hs he hd, run_bytesToString w ad len cap _ hl, foldl_push_bytes]
    have e2 : (l.map fun x => (x.toNat : Int)).map (fun n => UInt8.ofNat n.toNat) = l := by
      rw [List.map_map]
      exact (List.map_congr_left (fun x _ => by simp)).trans (List.map_id l)
    rw [e2]
    simp [str, ByteArray.empty, ByteArray.emptyWithCapacity]
    rfl

/-- A new block of slices. -/
theorem parts_new (W : World) (b : Nat) (hbk : b = W.heap.size) (ps : List Sl) (t : TypeId) (n : Nat) (hn : ps.length = n) (hb : n ≤ 281474976710656) (cs : Array Value) (hcs : (ps.map Sl.val).toArray = cs) (h : ∀ s ∈ ps, s.at W) :
    Parts (W.alloc (.cells cs t)) (some ⟨b, 0, none⟩) n n ps := by
  subst hcs
  subst hbk
  refine ⟨hn, Nat.le_refl _, hb, fun i hi => ⟨W.heap.size, 0, rfl, by simp, ?_, ?_⟩⟩
  · rw [cell_of_row _ _ _ _ t (0, 0) (heap_alloc_last W _)]
    rw [nth_get ps i (by omega)]
    simp [Sl.val, List.getElem?_eq_getElem (show i < ps.length by omega)]
  · exact Bs.mono (h _ (nth_mem ps i (by omega))) ((Below.refl _ _).alloc (Nat.le_refl _) _)
theorem flat_one (s : Sl) : flat [s] = s.l := by simp [flat]
/-- A new block of bytes, whatever its mark. -/
theorem bs_new (W : World) (b : Nat) (hbk : b = W.heap.size) (l : List UInt8) (t : TypeId) (fr : Nat × Nat) (n : Nat) (hn : l.length = n) (hb : n ≤ 281474976710656) (cs : Array Value) (hcs : (bvs l).toArray = cs) :
    Bs (W.alloc (.cells cs t fr)) (some ⟨b, 0, none⟩) n n l := by
  subst hcs
  subst hbk
  refine ⟨hn, Nat.le_refl _, hb, by omega, fun h => by simp at h, fun i hi => ⟨W.heap.size, 0, rfl, by simp, ?_⟩⟩
  rw [cell_of_row _ _ _ _ t fr (heap_alloc_last W _), Nat.zero_add]
  rw [← bvs_get l i (by omega)]
  simp

theorem bs_nil (w : World) : Bs w none 0 0 [] := ⟨rfl, Nat.le_refl _, by omega, by omega, fun _ => rfl, fun i hi => absurd hi (by omega)⟩
/-- A row that the call owns, whatever its value: a slice that reads as its bytes. -/
theorem own_bs {w : World} {base : Nat} {e : TypeId} {v : Value} {n : Nat} {l : List UInt8} (h : w.ownsRow base e 1 v n (bvs l)) (hc : n ≤ 281474976710656) :
    ∃ a cap, v = .slice a n cap ∧ Bs w a n cap l := by
  have hn : l.length = n := by have := h.1; rw [bvs_length] at this; omega
  rcases h.2 with ⟨rfl, rfl⟩ | ⟨g, cap, cur, rfl, _⟩
  · have : l = [] := List.eq_nil_of_length_eq_zero hn
    subst this
    exact ⟨none, 0, rfl, ⟨rfl, Nat.le_refl _, by omega, by omega, fun _ => rfl, fun i hi => absurd hi (by omega)⟩⟩
  · have := bs_of_own h hc n (Nat.le_refl _)
    rw [List.take_of_length_le (by omega)] at this
    exact ⟨_, cap, rfl, this⟩
/-- A new block of bytes is the call's own. -/
theorem own_new (w : World) (base : Nat) (e : TypeId) (cs : Array Value) (l : List UInt8) (hb : base ≤ w.heap.size) (hm : l.length ≤ 281474976710656) (n : Nat) (hn : l.length = n) (hcs : (bvs l).toArray = cs) :
    (w.alloc (.cells cs e)).ownsRow base e 1 (.slice (some ⟨w.heap.size, 0, none⟩) n n) n (bvs l) := by
  subst hcs
  subst hn
  refine ⟨by simp [bvs_length], .inr ⟨w.heap.size, l.length, (bvs l).toArray, rfl, hb, heap_alloc_last w _, Nat.le_refl _, by unfold maxLen; omega, by simp [bvs_length], ?_⟩⟩
  rw [List.take_of_length_le (by simp [bvs_length])]
theorem own_below {w w' : World} {base : Nat} {e : TypeId} {size : Nat} {v : Value} {n : Nat} {xs : List Value} (h : w.ownsRow base e size v n xs) (hb : Below w.heap.size w w') : w'.ownsRow base e size v n xs :=
  h.kept (row := none) ⟨hb.os, hb.tape, hb.output, hb.size, fun k hk _ => hb.block k hk⟩ (by cases hv : v.ownBlock <;> simp)
theorem below_alloc (w : World) (o : Obj) : Below w.heap.size w (w.alloc o) := (Below.refl _ _).alloc (Nat.le_refl _) o
theorem below_alloc2 (w : World) (o o' : Obj) : Below w.heap.size w ((w.alloc o).alloc o') := (below_alloc w o).alloc (by simp) o'
/-- One step behind another. -/
theorem below_then {w0 w1 w2 : World} (h : Below w0.heap.size w0 w1) (k : Below w1.heap.size w1 w2) : Below w0.heap.size w0 w2 := h.trans (k.mono h.size)

/-- A block with its cells, as ranges. -/
theorem there_of_heap {w : World} {b o n : Nat} {C : Array Value} {t : TypeId} (hb : w.heap[b]? = some (.cells C t (0, 0))) (h : o + n ≤ C.size) : w.there b o n := fun j hj => by
  refine ⟨?_, frozen_of_row w b _ C t hb⟩
  rw [cell_of_row w b (o + j) C t (0, 0) hb]
  simp; omega
theorem range_of_heap {w : World} {b : Nat} {C : Array Value} {t : TypeId} {fr : Nat × Nat} (hb : w.heap[b]? = some (.cells C t fr)) : w.rangeAt b 0 C.toList := fun j v hv => by
  rw [cell_of_row w b (0 + j) C t fr hb]
  simpa using hv
theorem below_setCells {B : Nat} {w0 : World} {b : Nat} (hb : B ≤ b) : ∀ (vs : List Value) (o : Nat) (w : World), Below B w0 w → Below B w0 (w.setCells b o vs)
  | [], _, _, h => h
  | v :: r, o, w, h => below_setCells hb r (o + 1) _ (h.setCell (p := ⟨b, o, none⟩) hb v)

namespace Crc
/-- One of the eight steps. -/
def st (r : Nat) : Nat := if r % 2 = 1 then r / 2 ^^^ 3988292384 else r / 2
def stN : Nat → Nat → Nat
  | 0, r => r
  | n + 1, r => st (stN n r)
def byte (r x : Nat) : Nat := stN 8 (r ^^^ x)
def run (l : List UInt8) : Nat := l.foldl (fun r x => byte r x.toNat) 4294967295
def crc (l : List UInt8) : Nat := 4294967295 - run l

theorem st_lt {r : Nat} (h : r < 4294967296) : st r < 4294967296 := by
  unfold st
  split
  · exact Nat.xor_lt_two_pow (n := 32) (by omega) (by omega)
  · omega
theorem st_odd {r : Nat} (h : r < 4294967296) (ho : ((r : Int) % 2 == 1) = true) : bits .xor .u32 ((r : Int) / 2) 3988292384 = st r := by
  have e : (r : Int) / 2 = ((r / 2 : Nat) : Int) := by omega
  have ho' : r % 2 = 1 := by have := eq_of_beq ho; omega
  have e2 := u32_xor_nat (r / 2) 3988292384 (by omega) (by omega)
  rw [e]; unfold st; rw [if_pos ho']; exact e2
theorem st_even {r : Nat} (ho : ((r : Int) % 2 == 1) = false) : (r : Int) / 2 = st r := by
  have ho' : ¬ r % 2 = 1 := by have := ne_of_beq_false ho; omega
  unfold st; rw [if_neg ho']; omega
theorem stN_lt {r : Nat} (h : r < 4294967296) : ∀ n, stN n r < 4294967296
  | 0 => h
  | n + 1 => st_lt (stN_lt h n)
theorem byte_lt {r x : Nat} (h : r < 4294967296) (hx : x < 256) : byte r x < 4294967296 :=
  stN_lt (Nat.xor_lt_two_pow (n := 32) (by omega) (by omega)) 8
theorem run_lt (l : List UInt8) : run l < 4294967296 := by
  unfold run
  suffices ∀ (l : List UInt8) r, r < 4294967296 → l.foldl (fun r x => byte r x.toNat) r < 4294967296 from this l _ (by omega)
  intro l
  induction l with
  | nil => intro r h; exact h
  | cons x l ih => intro r h; exact ih _ (byte_lt h (u8_lt x))
theorem run_snoc (l : List UInt8) (k : Nat) (h : k < l.length) : run (l.take (k + 1)) = stN 8 (run (l.take k) ^^^ gb l k) := by
  rw [take_succ_getD l k h]; simp [run, byte, gb]
/-- The table of four steps, up to k. -/
def tab (k : Nat) : Array Value := ((List.range 16).map fun i => Value.int .u32 (if i < k then stN 4 i else 0)).toArray
theorem tab_size (k : Nat) : (tab k).size = 16 := by simp [tab]
theorem tab_get (i k : Nat) (h : i < 16) (hk : i < k) : (tab k)[i]? = some (.int .u32 (stN 4 i)) := by
  simp [tab, List.getElem?_range h, hk]
theorem tab_get' (i k : Nat) (h : i < 16) : ∃ n : Int, (tab k)[i]? = some (.int .u32 n) := by
  simp [tab, List.getElem?_range h]
theorem tab_one (k : Nat) : (tab k).all (·.oneCell') = true := by
  rw [Array.all_eq_true_iff_forall_mem]
  intro v hv
  simp only [tab, List.mem_toArray, List.mem_map] at hv
  obtain ⟨i, _, rfl⟩ := hv
  rfl
theorem tab_set (k : Nat) (h : k < 16) : (tab k).setIfInBounds k (.int .u32 (stN 4 k)) = tab (k + 1) := by
  apply Array.ext_getElem?
  intro i
  rw [Array.getElem?_setIfInBounds]
  by_cases hi : i < 16
  · by_cases e : k = i
    · subst e; rw [tab_get k (k + 1) hi (by omega)]; simp [tab_size, hi]
    · rw [if_neg e]
      have e2 : (if i < k then stN 4 i else 0) = (if i < k + 1 then stN 4 i else 0) := by
        by_cases h2 : i < k
        · rw [if_pos h2, if_pos (by omega)]
        · rw [if_neg h2, if_neg (by omega)]
      simp [tab, List.getElem?_range hi]; omega
  · have h1 : (tab (k + 1))[i]? = none := by simp [tab_size]; omega
    have h2 : (tab k)[i]? = none := by simp [tab_size]; omega
    rw [if_neg (by omega), h1, h2]
theorem run_append (l : List UInt8) (m : List UInt8) (k : Nat) (h : k < m.length) : run (l ++ m.take (k + 1)) = byte (run (l ++ m.take k)) (gb m k) := by
  rw [take_succ_getD m k h]; simp [run, gb]
theorem st_eq (r : Nat) : st r = r / 2 ^^^ (if r % 2 = 1 then 3988292384 else 0) := by unfold st; split <;> simp
theorem xor_lc (a b c : Nat) : a ^^^ (b ^^^ c) = b ^^^ (a ^^^ c) := by rw [← Nat.xor_assoc, Nat.xor_comm a b, Nat.xor_assoc]
theorem xor_self_lc (a b : Nat) : a ^^^ (a ^^^ b) = b := by rw [← Nat.xor_assoc, Nat.xor_self, Nat.zero_xor]
theorem st_xor (a b : Nat) : st (a ^^^ b) = st a ^^^ st b := by
  have h1 : (a ^^^ b) / 2 = a / 2 ^^^ b / 2 := Nat.xor_div_two
  have h2 : (a ^^^ b) % 2 = (a % 2) ^^^ (b % 2) := Nat.xor_mod_two_pow (n := 1)
  have ea : a % 2 = 0 ∨ a % 2 = 1 := by omega
  have eb : b % 2 = 0 ∨ b % 2 = 1 := by omega
  rw [st_eq, st_eq a, st_eq b, h1, h2]
  rcases ea with ea | ea <;> rcases eb with eb | eb <;> rw [ea, eb] <;> simp [Nat.xor_assoc, Nat.xor_comm, xor_lc, xor_self_lc]
theorem stN_xor (a b : Nat) : ∀ n, stN n (a ^^^ b) = stN n a ^^^ stN n b
  | 0 => rfl
  | n + 1 => by simp only [stN]; rw [stN_xor a b n, st_xor]
theorem stN_add (r : Nat) (m : Nat) : ∀ n, stN (m + n) r = stN n (stN m r)
  | 0 => rfl
  | n + 1 => by rw [← Nat.add_assoc]; simp only [stN]; rw [stN_add r m n]
theorem st_even' (k : Nat) : st (2 * k) = k := by unfold st; rw [if_neg (by omega)]; omega
theorem four (r : Nat) : stN 4 r = r / 16 ^^^ stN 4 (r % 16) := by
  have h : r = (2 * (2 * (2 * (2 * (r / 16))))) ^^^ (r % 16) := by
    have hj := nat_join 4 (2 * (2 * (2 * (2 * (r / 16))))) (r % 16) (by omega) (by omega)
    have hx : (2 * (2 * (2 * (2 * (r / 16))))) ^^^ (r % 16) = (2 * (2 * (2 * (2 * (r / 16))))) ||| (r % 16) := by
      apply Nat.eq_of_testBit_eq
      intro i
      rw [Nat.testBit_xor, Nat.testBit_or]
      by_cases hi : i < 4
      · have : (2 * (2 * (2 * (2 * (r / 16))))).testBit i = false := by
          have e : 2 * (2 * (2 * (2 * (r / 16)))) = 2 ^ 4 * (r / 16) := by omega
          rw [e, Nat.testBit_two_pow_mul]; simp; omega
        rw [this]; simp
      · have : (r % 16).testBit i = false := Nat.testBit_lt_two_pow (Nat.lt_of_lt_of_le (show r % 16 < 2 ^ 4 by omega) (Nat.pow_le_pow_right (show 0 < 2 by omega) (show 4 ≤ i by omega)))
        rw [this]; simp
    rw [hx, hj]; omega
  have h4 : stN 4 (2 * (2 * (2 * (2 * (r / 16))))) = r / 16 := by simp only [stN]; rw [st_even', st_even', st_even', st_even']
  calc stN 4 r = stN 4 ((2 * (2 * (2 * (2 * (r / 16))))) ^^^ (r % 16)) := by rw [← h]
    _ = _ := by rw [stN_xor, h4]
theorem four_bits {r : Nat} (h : r < 4294967296) : bits .xor .u32 ((r : Int) / 16) (stN 4 (r % 16)) = stN 4 r := by
  have e : (r : Int) / 16 = ((r / 16 : Nat) : Int) := by omega
  rw [e, u32_xor_nat _ _ (by omega) (stN_lt (by omega) 4), ← four]
theorem and15 {r : Nat} (h : r < 4294967296) : bits .and .u32 (r : Int) 15 = ((r % 16 : Nat) : Int) := by
  have := u32_and_nat r 15 h (by omega)
  rw [nat_mask4] at this
  exact this
theorem not32 (n : Nat) (h : n < 4294967296) : 4294967295 ^^^ n = 4294967295 - n := by
  have := BitVec.toNat_not (x := BitVec.ofNat 32 n)
  rw [BitVec.not_def] at this
  simp [BitVec.toNat_xor, Nat.mod_eq_of_lt h] at this
  exact this
theorem not_bits {n : Nat} (h : n < 4294967296) : wrap64 (bits .xor .u32 IntKind.u32.max (n : Int)) = ((4294967295 - n : Nat) : Int) := by
  have e : IntKind.u32.max = ((4294967295 : Nat) : Int) := by decide
  rw [e, u32_xor_nat _ _ (by omega) h, not32 n h, IntWalk.wrap64_in _ ⟨by omega, by omega⟩]
end Crc
end Go.Proofs.YtjjbgdmalefdlaaGreatDoor
end

section
namespace Go.Proofs.YtjjbgdmalefdlaaGreatDoor

namespace Mg
abbrev Itm := Int × Bool
def go (r : Int) (f : List Int → List Itm) : List Int → List Itm
  | [] => (r, true) :: f []
  | p :: P => if r ≤ p then (r, true) :: f (p :: P) else (p, false) :: go r f P
/-- Symbols and packages, merged; a symbol comes first. -/
def mrg : List Int → List Int → List Itm
  | [] => fun P => P.map fun p => (p, false)
  | r :: R => go r (mrg R)
theorem mrg_nil (P : List Int) : mrg [] P = P.map fun p => (p, false) := rfl
theorem mrg_cons_nil (r : Int) (R : List Int) : mrg (r :: R) [] = (r, true) :: mrg R [] := rfl
theorem mrg_cons (r : Int) (R : List Int) (p : Int) (P : List Int) : mrg (r :: R) (p :: P) = if r ≤ p then (r, true) :: mrg R (p :: P) else (p, false) :: mrg (r :: R) P := rfl
theorem mrg_end (R : List Int) : mrg R [] = R.map fun x => (x, true) := by
  induction R with
  | nil => rfl
  | cons r R ih => rw [mrg_cons_nil, ih]; rfl
def wts (A : List Itm) : List Int := A.map Prod.fst
def pre (l : List Int) (t : Nat) : Int := (l.take t).sum
def syN (A : List Itm) (t : Nat) : Nat := ((A.take t).filter Prod.snd).length
theorem pre_zero (l : List Int) : pre l 0 = 0 := by simp [pre]
theorem pre_nil (t : Nat) : pre [] t = 0 := by simp [pre]
theorem pre_cons (x : Int) (l : List Int) (t : Nat) : pre (x :: l) (t + 1) = x + pre l t := by simp [pre]
theorem pre_succ (l : List Int) (t : Nat) (h : t < l.length) : pre l (t + 1) = pre l t + l[t] := by
  unfold pre; rw [List.take_succ_eq_append_getElem h, List.sum_append]; simp
theorem syN_zero (A : List Itm) : syN A 0 = 0 := by simp [syN]
theorem syN_nil (t : Nat) : syN [] t = 0 := by simp [syN]
theorem syN_sym (x : Int) (A : List Itm) (t : Nat) : syN ((x, true) :: A) (t + 1) = syN A t + 1 := by simp [syN]
theorem syN_pkg (x : Int) (A : List Itm) (t : Nat) : syN ((x, false) :: A) (t + 1) = syN A t := by simp [syN]
theorem wts_cons (x : Itm) (A : List Itm) : wts (x :: A) = x.1 :: wts A := rfl
theorem wts_length (A : List Itm) : (wts A).length = A.length := by simp [wts]
theorem syN_le (A : List Itm) (t : Nat) : syN A t ≤ t := by
  unfold syN
  refine Nat.le_trans (List.length_filter_le _ _) ?_
  rw [List.length_take]; omega
theorem wts_pkgs (P : List Int) : wts (P.map fun p => (p, false)) = P := by simp [wts, Function.comp_def]
theorem syN_pkgs (P : List Int) (t : Nat) : syN (P.map fun p => (p, false)) t = 0 := by simp [syN, ← List.map_take, List.filter_map, Function.comp_def]
theorem wts_syms (P : List Int) : wts (P.map fun p => (p, true)) = P := by simp [wts, Function.comp_def]
theorem syN_syms (P : List Int) (t : Nat) : syN (P.map fun p => (p, true)) t = min t P.length := by
  unfold syN
  have e : List.filter (Prod.snd ∘ fun (p : Int) => (p, true)) (List.take t P) = List.take t P := List.filter_eq_self.2 (fun _ _ => rfl)
  rw [← List.map_take, List.filter_map, List.length_map, e, List.length_take]
theorem mrg_length (R P : List Int) : (mrg R P).length = R.length + P.length := by
  induction R generalizing P with
  | nil => simp [mrg_nil]
  | cons r R ih =>
    induction P with
    | nil => rw [mrg_cons_nil, List.length_cons, ih]; simp
    | cons p P ihp =>
      rw [mrg_cons]
      split
      · rw [List.length_cons, ih]; simp only [List.length_cons]; omega
      · rw [List.length_cons, ihp]; simp only [List.length_cons]; omega
theorem mrg_mem (R P : List Int) (x : Int) : x ∈ wts (mrg R P) ↔ x ∈ R ∨ x ∈ P := by
  induction R generalizing P with
  | nil => rw [mrg_nil, wts_pkgs]; simp
  | cons r R ih =>
    induction P with
    | nil => rw [mrg_cons_nil, wts_cons, List.mem_cons, ih]; simp
    | cons p P ihp =>
      rw [mrg_cons]
      split
      · rw [wts_cons, List.mem_cons, ih]; simp only [List.mem_cons]; exact ⟨fun h => by rcases h with h | h | h | h <;> simp [h], fun h => by rcases h with (h | h) | h | h <;> simp [h]⟩
      · rw [wts_cons, List.mem_cons, ihp]; simp only [List.mem_cons]; exact ⟨fun h => by rcases h with h | (h | h) | h <;> simp [h], fun h => by rcases h with (h | h) | h | h <;> simp [h]⟩
def Up (l : List Int) : Prop := l.Pairwise (· ≤ ·)
theorem mrg_up (R P : List Int) (hR : Up R) (hP : Up P) : Up (wts (mrg R P)) := by
  unfold Up at *
  induction R generalizing P with
  | nil => rw [mrg_nil, wts_pkgs]; exact hP
  | cons r R ih =>
    have hR1 := List.pairwise_cons.1 hR
    induction P with
    | nil =>
      rw [mrg_cons_nil, wts_cons, List.pairwise_cons]
      exact ⟨fun x hx => by rcases (mrg_mem R [] x).1 hx with h | h; exact hR1.1 x h; simp at h, ih _ hR1.2 List.Pairwise.nil⟩
    | cons p P ihp =>
      have hP1 := List.pairwise_cons.1 hP
      rw [mrg_cons]
      split
      · rename_i hle
        rw [wts_cons, List.pairwise_cons]
        refine ⟨fun x hx => ?_, ih _ hR1.2 hP⟩
        rcases (mrg_mem R _ x).1 hx with h | h
        · exact hR1.1 x h
        · rcases List.mem_cons.1 h with rfl | h
          · exact hle
          · exact Int.le_trans hle (hP1.1 x h)
      · rename_i hle
        rw [wts_cons, List.pairwise_cons]
        refine ⟨fun x hx => ?_, ihp hP1.2⟩
        rcases (mrg_mem _ P x).1 hx with h | h
        · rcases List.mem_cons.1 h with rfl | h
          · show p ≤ x; omega
          · have := hR1.1 x h; show p ≤ x; omega
        · exact hP1.1 x h
/-- What stands ahead: so many symbols, so many packages. -/
theorem mrg_split : ∀ (t : Nat) (R P : List Int), t ≤ R.length + P.length → ∃ c d, c + d = t ∧ syN (mrg R P) t = c ∧ c ≤ R.length ∧ d ≤ P.length ∧ pre (wts (mrg R P)) t = pre R c + pre P d
  | 0, R, P, _ => ⟨0, 0, rfl, syN_zero _, Nat.zero_le _, Nat.zero_le _, by simp [pre_zero]⟩
  | t + 1, [], P, h => ⟨0, t + 1, by omega, by rw [mrg_nil, syN_pkgs], Nat.le_refl _, by simpa using h, by rw [mrg_nil, wts_pkgs, pre_nil]; simp⟩
  | t + 1, r :: R, [], h => by
    obtain ⟨c, d, h1, h2, h3, h4, h5⟩ := mrg_split t R [] (by simp at h ⊢; omega)
    exact ⟨c + 1, d, by omega, by rw [mrg_cons_nil, syN_sym, h2], by simp; omega, h4, by rw [mrg_cons_nil, wts_cons, pre_cons, pre_cons, h5, Int.add_assoc]⟩
  | t + 1, r :: R, p :: P, h => by
    rw [mrg_cons]
    split
    · obtain ⟨c, d, h1, h2, h3, h4, h5⟩ := mrg_split t R (p :: P) (by simp at h ⊢; omega)
      exact ⟨c + 1, d, by omega, by rw [syN_sym, h2], by simp; omega, h4, by rw [wts_cons, pre_cons, pre_cons, h5, Int.add_assoc]⟩
    · obtain ⟨c, d, h1, h2, h3, h4, h5⟩ := mrg_split t (r :: R) P (by simp at h ⊢; omega)
      exact ⟨c, d + 1, by omega, by rw [syN_pkg, h2], h3, by simp; omega, by rw [wts_cons, pre_cons, pre_cons, h5]; show p + _ = _; omega⟩
theorem up_head_le {x : Int} {l : List Int} (h : Up (x :: l)) (i : Nat) (hi : i < (x :: l).length) : x ≤ (x :: l)[i] := by
  cases i with
  | zero => exact Int.le_refl _
  | succ i => exact (List.pairwise_cons.1 h).1 _ (List.getElem_mem _)
/-- Nothing of as many weighs less. -/
theorem mrg_min : ∀ (t : Nat) (R P : List Int) (a b : Nat), Up R → Up P → a + b = t → a ≤ R.length → b ≤ P.length → pre (wts (mrg R P)) t ≤ pre R a + pre P b
  | 0, R, P, a, b, _, _, h, _, _ => by
    obtain ⟨rfl, rfl⟩ : a = 0 ∧ b = 0 := by omega
    simp [pre_zero]
  | t + 1, [], P, a, b, _, _, h, ha, hb => by
    obtain rfl : a = 0 := by simpa using ha
    obtain rfl : b = t + 1 := by omega
    rw [mrg_nil, wts_pkgs, pre_nil, Int.zero_add]; exact Int.le_refl _
  | t + 1, r :: R, [], a, b, hR, hP, h, ha, hb => by
    obtain rfl : b = 0 := by simpa using hb
    obtain rfl : a = t + 1 := by omega
    rw [mrg_cons_nil, wts_cons, pre_cons, pre_cons]
    have := mrg_min t R [] t 0 (List.pairwise_cons.1 hR).2 hP rfl (by simpa using ha) (Nat.le_refl _)
    show r + _ ≤ _
    omega
  | t + 1, r :: R, p :: P, a, b, hR, hP, h, ha, hb => by
    rw [mrg_cons]
    split
    · rename_i hle
      rw [wts_cons, pre_cons]
      show r + _ ≤ _
      cases a with
      | succ a =>
        have := mrg_min t R (p :: P) a b (List.pairwise_cons.1 hR).2 hP (by omega) (by simpa using ha) hb
        rw [pre_cons]; omega
      | zero =>
        obtain rfl : b = t + 1 := by omega
        have := mrg_min t R (p :: P) 0 t (List.pairwise_cons.1 hR).2 hP (by omega) (Nat.zero_le _) (by omega)
        have h2 := up_head_le hP t hb
        rw [pre_succ (p :: P) t hb, pre_zero]; rw [pre_zero] at this; omega
    · rename_i hle
      rw [wts_cons, pre_cons]
      show p + _ ≤ _
      cases b with
      | succ b =>
        have := mrg_min t (r :: R) P a b hR (List.pairwise_cons.1 hP).2 (by omega) ha (by simpa using hb)
        rw [pre_cons]; omega
      | zero =>
        obtain rfl : a = t + 1 := by omega
        have := mrg_min t (r :: R) P t 0 hR (List.pairwise_cons.1 hP).2 (by omega) (by omega) (Nat.zero_le _)
        have h2 := up_head_le hR t ha
        rw [pre_succ (r :: R) t ha, pre_zero]; rw [pre_zero] at this; omega
/-- Ahead of a package stand all symbols that weigh no more. -/
theorem mrg_ahead : ∀ (t : Nat) (R P : List Int) (c d : Nat) (w : Int), (∀ x ∈ R.take c, x ≤ w) → c ≤ R.length → P[d]? = some w → d + 1 + syN (mrg R P) t ≤ t → c ≤ syN (mrg R P) t
  | 0, R, P, c, d, w, _, _, _, h => by omega
  | t + 1, [], P, c, d, w, _, hc, _, _ => by simp at hc; omega
  | t + 1, r :: R, [], c, d, w, _, _, hd, _ => by simp at hd
  | t + 1, r :: R, p :: P, c, d, w, hw, hc, hd, h => by
    rw [mrg_cons] at h ⊢
    split at h
    · rename_i hle
      rw [if_pos hle]
      rw [syN_sym] at h ⊢
      cases c with
      | zero => omega
      | succ c =>
        have := mrg_ahead t R (p :: P) c d w (fun x hx => hw x (by rw [List.take_succ_cons]; exact List.mem_cons_of_mem _ hx)) (by simpa using hc) hd (by omega)
        omega
    · rename_i hle
      rw [if_neg hle]
      rw [syN_pkg] at h ⊢
      cases d with
      | zero =>
        cases c with
        | zero => omega
        | succ c =>
          have h1 := hw r (by rw [List.take_succ_cons]; exact List.mem_cons_self)
          simp at hd
          omega
      | succ d =>
        exact mrg_ahead t (r :: R) P c d w hw hc (by simpa using hd) (by omega)
def pairs : List Int → List Int
  | x :: y :: l => (x + y) :: pairs l
  | _ => []
theorem pairs_length : ∀ l : List Int, (pairs l).length = l.length / 2
  | [] => rfl
  | [_] => by simp [pairs]
  | x :: y :: l => by simp only [pairs, List.length_cons]; rw [pairs_length l]; omega
theorem pairs_pre : ∀ (l : List Int) (d : Nat), d ≤ l.length / 2 → pre (pairs l) d = pre l (2 * d)
  | [], d, h => by simp [pairs, pre_nil]
  | [_], d, h => by obtain rfl : d = 0 := by simpa using h
                    simp [pre_zero]
  | x :: y :: l, 0, _ => by simp [pre_zero]
  | x :: y :: l, d + 1, h => by
    have := pairs_pre l d (by simp at h; omega)
    rw [pairs, pre_cons, this, show 2 * (d + 1) = 2 * d + 1 + 1 by omega, pre_cons, pre_cons]; omega
theorem pairs_get : ∀ (l : List Int) (d : Nat) (h : 2 * d + 1 < l.length), (pairs l)[d]? = some (l[2 * d] + l[2 * d + 1])
  | [], d, h => by simp at h
  | [_], d, h => by simp at h
  | x :: y :: l, 0, _ => by simp [pairs]
  | x :: y :: l, d + 1, h => by
    have := pairs_get l d (by simp at h; omega)
    rw [pairs, List.getElem?_cons_succ, this]
    simp [show 2 * (d + 1) = 2 * d + 1 + 1 by omega]
theorem pairs_mem_ge : ∀ (l : List Int) (b : Int), (∀ x ∈ l, b ≤ x) → 0 ≤ b → ∀ z ∈ pairs l, b + b ≤ z
  | [], b, _, _ => by simp [pairs]
  | [_], b, _, _ => by simp [pairs]
  | x :: y :: l, b, h, h0 => by
    intro z hz
    rw [pairs, List.mem_cons] at hz
    rcases hz with rfl | hz
    · have := h x (by simp); have := h y (by simp); omega
    · exact pairs_mem_ge l b (fun x hx => h x (by simp [hx])) h0 z hz
theorem pairs_up : ∀ (l : List Int), Up l → Up (pairs l)
  | [], _ => List.Pairwise.nil
  | [_], _ => List.Pairwise.nil
  | x :: y :: l, h => by
    have h1 := List.pairwise_cons.1 h
    have h2 := List.pairwise_cons.1 h1.2
    rw [pairs]
    refine List.pairwise_cons.2 ⟨fun z hz => ?_, pairs_up l h2.2⟩
    clear h
    have key : ∀ (l : List Int), (∀ u ∈ l, x ≤ u ∧ y ≤ u) → ∀ z ∈ pairs l, x + y ≤ z := by
      intro l
      induction l using pairs.induct with
      | case1 a b l ih =>
        intro hl z hz
        rw [pairs, List.mem_cons] at hz
        rcases hz with rfl | hz
        · have := hl a (by simp); have := hl b (by simp); omega
        · exact ih (fun u hu => hl u (by simp [hu])) z hz
      | case2 l hl => 
        intro _ z hz
        rw [pairs] at hz
        · simp at hz
        · exact hl
    exact key l (fun u hu => ⟨h1.1 u (by simp [hu]), h2.1 u hu⟩) z hz
/-- The rounds. -/
def rnd (R : List Int) : Nat → List Itm
  | 0 => []
  | r + 1 => mrg R (pairs (wts (rnd R r)))
/-- How many symbols are taken of each round, the last one first. -/
def back (R : List Int) : Nat → Nat → List Nat
  | 0, _ => []
  | r + 1, t => syN (rnd R (r + 1)) t :: back R r (2 * (t - syN (rnd R (r + 1)) t))
def T : List Nat → Nat
  | [] => 0
  | k :: ks => k + T ks / 2
def val (R : List Int) (ks : List Nat) : Int := (ks.map (pre R)).sum
def Pos (l : List Int) : Prop := ∀ x ∈ l, 0 ≤ x
theorem pre_mono {l : List Int} (h : Pos l) {s t : Nat} (hst : s ≤ t) : pre l s ≤ pre l t := by
  induction t with
  | zero => obtain rfl : s = 0 := by omega
            exact Int.le_refl _
  | succ t ih =>
    by_cases hs : s ≤ t
    · refine Int.le_trans (ih hs) ?_
      by_cases ht : t < l.length
      · rw [pre_succ l t ht]; have := h _ (List.getElem_mem ht); omega
      · unfold pre; rw [List.take_of_length_le (by omega), List.take_of_length_le (by omega)]; exact Int.le_refl _
    · obtain rfl : s = t + 1 := by omega
      exact Int.le_refl _
theorem rnd_pos {R : List Int} (h : Pos R) (r : Nat) : Pos (wts (rnd R r)) := by
  induction r with
  | zero => intro x hx; simp [rnd, wts] at hx
  | succ r ih =>
    intro x hx
    rcases (mrg_mem _ _ _).1 hx with hx | hx
    · exact h x hx
    · have := pairs_mem_ge _ 0 ih (Int.le_refl _) x hx; omega
theorem rnd_up {R : List Int} (h : Up R) (r : Nat) : Up (wts (rnd R r)) := by
  induction r with
  | zero => exact List.Pairwise.nil
  | succ r ih => exact mrg_up _ _ h (pairs_up _ ih)
theorem rnd_length (R : List Int) (r : Nat) : (rnd R (r + 1)).length = R.length + (rnd R r).length / 2 := by
  rw [rnd, mrg_length, pairs_length, wts_length]
/-- What is taken of a round. -/
theorem rnd_split (R : List Int) (r t : Nat) (ht : t ≤ (rnd R (r + 1)).length) :
    syN (rnd R (r + 1)) t ≤ R.length ∧ 2 * (t - syN (rnd R (r + 1)) t) ≤ (rnd R r).length ∧ pre (wts (rnd R (r + 1))) t = pre R (syN (rnd R (r + 1)) t) + pre (wts (rnd R r)) (2 * (t - syN (rnd R (r + 1)) t)) := by
  have hl : t ≤ R.length + (pairs (wts (rnd R r))).length := by rw [rnd, mrg_length] at ht; exact ht
  obtain ⟨c, d, h1, h2, h3, h4, h5⟩ := mrg_split t R (pairs (wts (rnd R r))) hl
  rw [pairs_length, wts_length] at h4
  rw [rnd, h2]
  refine ⟨h3, by omega, ?_⟩
  rw [h5, pairs_pre _ d (by rw [wts_length]; exact h4), show t - c = d by omega]
theorem back_val (R : List Int) : ∀ (r t : Nat), t ≤ (rnd R r).length → val R (back R r t) = pre (wts (rnd R r)) t
  | 0, t, h => by obtain rfl : t = 0 := by simpa [rnd] using h
                  simp [back, val, pre_zero]
  | r + 1, t, h => by
    obtain ⟨_, h2, h3⟩ := rnd_split R r t h
    have := back_val R r _ h2
    rw [h3, ← this, back]
    simp [val]
theorem back_T (R : List Int) : ∀ (r t : Nat), t ≤ (rnd R r).length → T (back R r t) = t
  | 0, t, h => by obtain rfl : t = 0 := by simpa [rnd] using h
                  rfl
  | r + 1, t, h => by
    obtain ⟨_, h2, _⟩ := rnd_split R r t h
    have := back_T R r _ h2
    have := syN_le (rnd R (r + 1)) t
    rw [back, T]; omega
theorem back_length (R : List Int) : ∀ (r t : Nat), (back R r t).length = r
  | 0, _ => rfl
  | r + 1, t => by rw [back, List.length_cons, back_length]
theorem back_le (R : List Int) : ∀ (r t : Nat), t ≤ (rnd R r).length → ∀ k ∈ back R r t, k ≤ R.length
  | 0, _, _ => by simp [back]
  | r + 1, t, h => by
    obtain ⟨h1, h2, _⟩ := rnd_split R r t h
    intro k hk
    rw [back, List.mem_cons] at hk
    rcases hk with rfl | hk
    · exact h1
    · exact back_le R r _ h2 k hk
/-- The symbols among what is taken of a round stand in the next one ahead of the last package. -/
theorem rnd_nest {R : List Int} (hU : Up R) (hP : Pos R) (r t d : Nat) (hd : 0 < d) (hdl : 2 * d ≤ (rnd R r).length) (h : d + syN (rnd R (r + 1)) t ≤ t) : syN (rnd R r) (2 * d) ≤ syN (rnd R (r + 1)) t := by
  cases r with
  | zero => simp [rnd] at hdl; omega
  | succ r =>
    have hl : 2 * d ≤ R.length + (pairs (wts (rnd R r))).length := by rw [rnd, mrg_length] at hdl; exact hdl
    have hg : 2 * (d - 1) + 1 < (wts (rnd R (r + 1))).length := by rw [wts_length]; omega
    have hp := pairs_get (wts (rnd R (r + 1))) (d - 1) hg
    refine mrg_ahead t R _ _ (d - 1) _ (fun x hx => ?_) (rnd_split R r (2 * d) hdl).1 hp (by show d - 1 + 1 + syN (rnd R (r + 1 + 1)) t ≤ t; omega)
    -- a symbol that is taken weighs no more than the last item
    have hU2 := rnd_up hU (r + 1)
    have hm : ∀ (t : Nat) (R P : List Int), ∀ x ∈ R.take (syN (mrg R P) t), x ∈ (wts (mrg R P)).take t := by
      intro t
      induction t with
      | zero => intro R P x hx; rw [syN_zero] at hx; simp at hx
      | succ t ih =>
        intro R P x hx
        match R, P with
        | [], P => simp at hx
        | r :: R, [] =>
          rw [mrg_cons_nil, syN_sym, List.take_succ_cons, List.mem_cons] at hx
          rw [mrg_cons_nil, wts_cons, List.take_succ_cons, List.mem_cons]
          exact hx.elim (fun h => .inl h) (fun h => .inr (ih R [] x h))
        | r :: R, p :: P =>
          rw [mrg_cons] at hx ⊢
          split at hx
          · rename_i hle
            rw [if_pos hle, wts_cons, List.take_succ_cons, List.mem_cons]
            rw [syN_sym, List.take_succ_cons, List.mem_cons] at hx
            exact hx.elim (fun h => .inl h) (fun h => .inr (ih R (p :: P) x h))
          · rename_i hle
            rw [if_neg hle, wts_cons, List.take_succ_cons, List.mem_cons]
            rw [syN_pkg] at hx
            exact .inr (ih (r :: R) P x hx)
    have hx2 := hm (2 * d) R _ x hx
    change x ∈ (wts (rnd R (r + 1))).take (2 * d) at hx2
    obtain ⟨i, hi, rfl⟩ := List.mem_iff_getElem.1 hx2
    rw [List.getElem_take]
    simp only [List.length_take] at hi
    have h0 : 0 ≤ (wts (rnd R (r + 1)))[2 * (d - 1)]'(by omega) := rnd_pos hP (r + 1) _ (List.getElem_mem _)
    have h1 : (wts (rnd R (r + 1)))[i]'(by omega) ≤ (wts (rnd R (r + 1)))[2 * (d - 1) + 1] := by
      by_cases he : i = 2 * (d - 1) + 1
      · subst he; exact Int.le_refl _
      · exact (List.pairwise_iff_getElem.1 hU2) i (2 * (d - 1) + 1) (by omega) hg (by omega)
    omega
theorem back_anti {R : List Int} (hU : Up R) (hP : Pos R) : ∀ (r t : Nat), t ≤ (rnd R r).length → (back R r t).Pairwise (fun a b => b ≤ a)
  | 0, _, _ => List.Pairwise.nil
  | r + 1, t, h => by
    obtain ⟨_, h2, _⟩ := rnd_split R r t h
    have ih := back_anti hU hP r _ h2
    rw [back]
    refine List.pairwise_cons.2 ⟨?_, ih⟩
    intro k hk
    cases r with
    | zero => simp [back] at hk
    | succ r =>
      by_cases hd : t - syN (rnd R (r + 1 + 1)) t = 0
      · -- nothing is taken further on
        have : ∀ (r : Nat), ∀ k ∈ back R r 0, k = 0 := by
          intro r
          induction r with
          | zero => simp [back]
          | succ r ih => intro k hk; rw [back, syN_zero, List.mem_cons] at hk; rcases hk with rfl | hk; rfl; exact ih k hk
        rw [hd] at hk
        have := this _ k hk
        omega
      · have hn := rnd_nest hU hP (r + 1) t (t - syN (rnd R (r + 1 + 1)) t) (by omega) h2 (by have := syN_le (rnd R (r + 1 + 1)) t; omega)
        rw [back, List.mem_cons] at hk
        rcases hk with rfl | hk
        · exact hn
        · rw [back] at ih
          exact Nat.le_trans ((List.pairwise_cons.1 ih).1 k hk) hn
/-- All symbols are taken of the last round. -/
theorem rnd_all {R : List Int} (hU : Up R) (hP : Pos R) (hn : 2 ≤ R.length) : ∀ (r : Nat), 2 * R.length - 2 ≤ (rnd R r).length → syN (rnd R r) (2 * R.length - 2) = R.length
  | 0, h => by simp [rnd] at h; omega
  | r + 1, h => by
    obtain ⟨h1, h2, _⟩ := rnd_split R r _ h
    have h3 := syN_le (rnd R (r + 1)) (2 * R.length - 2)
    by_cases hc : syN (rnd R (r + 1)) (2 * R.length - 2) < R.length
    · have h4 : 2 * R.length - 2 ≤ (rnd R r).length := by omega
      have h5 := rnd_all hU hP hn r h4
      have h6 := rnd_nest hU hP r (2 * R.length - 2) (R.length - 1) (by omega) (by omega) (by omega)
      rw [show 2 * (R.length - 1) = 2 * R.length - 2 by omega, h5] at h6
      omega
    · omega
/-- No choice costs less. -/
theorem back_opt {R : List Int} (hU : Up R) (hP : Pos R) : ∀ (ks : List Nat), (∀ k ∈ ks, k ≤ R.length) → T ks ≤ (rnd R ks.length).length ∧ pre (wts (rnd R ks.length)) (T ks) ≤ val R ks
  | [], _ => ⟨Nat.le_refl _, by simp [T, val, pre_zero]⟩
  | k :: ks, h => by
    obtain ⟨h1, h2⟩ := back_opt hU hP ks (fun x hx => h x (by simp [hx]))
    have hk := h k (by simp)
    refine ⟨?_, ?_⟩
    · rw [List.length_cons, rnd_length, T]; omega
    · have h3 := mrg_min (T (k :: ks)) R (pairs (wts (rnd R ks.length))) k (T ks / 2) hU (pairs_up _ (rnd_up hU _)) rfl hk (by rw [pairs_length, wts_length]; omega)
      rw [pairs_pre _ _ (by rw [wts_length]; omega)] at h3
      have h4 := pre_mono (rnd_pos hP ks.length) (show 2 * (T ks / 2) ≤ T ks by omega)
      have e : val R (k :: ks) = pre R k + val R ks := by simp [val]
      rw [List.length_cons, e]
      show pre (wts (mrg R _)) _ ≤ _
      omega
/-- There are items enough. -/
theorem rnd_enough (R : List Int) (hn : 1 ≤ R.length) (r : Nat) : ∃ e, (rnd R (r + 1)).length + e = 2 * R.length ∧ e ≤ (R.length + 2 ^ r - 1) / 2 ^ r := by
  induction r with
  | zero => exact ⟨R.length, by rw [rnd_length]; simp [rnd]; omega, by simp⟩
  | succ r ih =>
    obtain ⟨e, h1, h2⟩ := ih
    refine ⟨(e + 1) / 2, by rw [rnd_length]; omega, ?_⟩
    have hp : 0 < 2 ^ r := Nat.pow_pos (by omega)
    rw [Nat.pow_succ, ← Nat.div_div_eq_div_mul]
    have h3 : (R.length + 2 ^ r * 2 - 1) / 2 ^ r = (R.length + 2 ^ r - 1) / 2 ^ r + 1 := by
      rw [show R.length + 2 ^ r * 2 - 1 = (R.length + 2 ^ r - 1) + 2 ^ r by omega, Nat.add_div_right _ hp]
    rw [h3]
    omega
theorem rnd_room (R : List Int) (hn : 1 ≤ R.length) (r : Nat) (hr : 0 < r) (h : R.length ≤ 2 ^ r) : 2 * R.length - 2 ≤ (rnd R r).length := by
  obtain ⟨s, rfl⟩ : ∃ s, r = s + 1 := ⟨r - 1, by omega⟩
  obtain ⟨e, h1, h2⟩ := rnd_enough R hn s
  have hp : 0 < 2 ^ s := Nat.pow_pos (by omega)
  have h3 : (R.length + 2 ^ s - 1) / 2 ^ s ≤ 2 := by
    rw [Nat.pow_succ] at h
    have : (R.length + 2 ^ s - 1) / 2 ^ s < 3 := (Nat.div_lt_iff_lt_mul hp).2 (by omega)
    omega
  omega
end Mg
end Go.Proofs.YtjjbgdmalefdlaaGreatDoor
end
