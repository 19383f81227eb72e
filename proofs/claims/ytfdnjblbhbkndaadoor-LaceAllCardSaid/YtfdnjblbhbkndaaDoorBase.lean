/- Small words for slices of bytes. -/
import Derived.WalkKit
import Derived.WalkSpells
import Derived.WalkLawsBesides
import Derived.Lib.Hide
import Derived.IntWalk
import Derived.Laws.BitsAllLaws
import Derived.Laws.Rows
import Derived.Lib.SlBytesConst
import Derived.Laws.BytesArg
import Derived.Deep.MidRow
import Derived.Deep.WholeRow
namespace Go.Proofs.YtfdnjblbhbkndaaDoor
open Go.RowKit

/-- The k-th byte, as a number. -/
def gb (l : List UInt8) (k : Nat) : Nat := (l.getD k 0).toNat
theorem gb_lt (l : List UInt8) (k : Nat) : gb l k < 256 := (l.getD k 0).toNat_lt
/-- A slice of bytes that reads as l. -/
structure Bs (w : World) (a : Option Addr) (len cap : Nat) (l : List UInt8) : Prop where
  hlen : l.length = len
  hle : len ≤ cap
  hcap : len ≤ 281474976710656
  hmax : cap ≤ 9223372036854775807
  hnil : a = none → cap = 0
  at' : ∀ i, i < len → ∃ b off, a = some ⟨b, off, none⟩ ∧ b < w.heap.size ∧ w.cell? ⟨b, off + i, none⟩ = some (.int .u8 (gb l i))

theorem u8_lt (x : UInt8) : x.toNat < 256 := x.toNat_lt
theorem int_eq {k : IntKind} {a b : Int} (h : a = b) : Value.int k a = .int k b := by rw [h]
theorem ret_int {k : IntKind} {a b : Int} (h : a = b) : Ending.returned (.int k a) = .returned (.int k b) := by rw [h]
theorem take_succ_getD (l : List UInt8) (k : Nat) (h : k < l.length) : l.take (k + 1) = l.take k ++ [l.getD k 0] := by
  rw [List.take_succ_eq_append_getElem h]; simp [List.getD, List.getElem?_eq_getElem h]

/-- A slice of bytes, with what it reads as. -/
structure Sl where
  a : Option Addr
  len : Nat
  cap : Nat
  l : List UInt8
def Sl.val (s : Sl) : Value := .slice s.a s.len s.cap
def Sl.at (s : Sl) (w : World) : Prop := Bs w s.a s.len s.cap s.l
instance : Inhabited Sl := ⟨⟨none, 0, 0, []⟩⟩
def nth (ps : List Sl) (i : Nat) : Sl := ps.getD i default
theorem nth_get (ps : List Sl) (i : Nat) (h : i < ps.length) : nth ps i = ps[i] := by simp [nth, List.getD, List.getElem?_eq_getElem h]
theorem nth_mem (ps : List Sl) (i : Nat) (h : i < ps.length) : nth ps i ∈ ps := by rw [nth_get ps i h]; exact List.getElem_mem h
/-- A slice of slices of bytes. -/
structure Parts (w : World) (a : Option Addr) (len cap : Nat) (ps : List Sl) : Prop where
  hlen : ps.length = len
  hle : len ≤ cap
  hcap : cap ≤ 281474976710656
  at' : ∀ i, i < len → ∃ b off, a = some ⟨b, off, none⟩ ∧ b < w.heap.size ∧ w.cell? ⟨b, off + i, none⟩ = some (.slice (nth ps i).a (nth ps i).len (nth ps i).cap) ∧ (nth ps i).at w
def flat (ps : List Sl) : List UInt8 := (ps.map Sl.l).flatten
theorem take_succ_getD' (l : List Sl) (k : Nat) (h : k < l.length) : l.take (k + 1) = l.take k ++ [nth l k] := by
  rw [List.take_succ_eq_append_getElem h]; simp [nth, List.getD, List.getElem?_eq_getElem h]
theorem flat_snoc (ps : List Sl) (k : Nat) (h : k < ps.length) : flat (ps.take (k + 1)) = flat (ps.take k) ++ (nth ps k).l := by
  rw [take_succ_getD' ps k h]; simp [flat]
theorem Bs.mono {w w' : World} {a : Option Addr} {len cap : Nat} {l : List UInt8} (h : Bs w a len cap l) (hb : Below w.heap.size w w') : Bs w' a len cap l :=
  ⟨h.hlen, h.hle, h.hcap, h.hmax, h.hnil, fun i hi => by
    obtain ⟨b, off, e, hlt, hc⟩ := h.at' i hi
    exact ⟨b, off, e, Nat.lt_of_lt_of_le hlt hb.size, by rw [hb.cell (p := ⟨b, off + i, none⟩) hlt]; exact hc⟩⟩
theorem Parts.mono {w w' : World} {a : Option Addr} {len cap : Nat} {ps : List Sl} (h : Parts w a len cap ps) (hb : Below w.heap.size w w') : Parts w' a len cap ps :=
  ⟨h.hlen, h.hle, h.hcap, fun i hi => by
    obtain ⟨b, off, e, hlt, hc, hs⟩ := h.at' i hi
    exact ⟨b, off, e, Nat.lt_of_lt_of_le hlt hb.size, by rw [hb.cell (p := ⟨b, off + i, none⟩) hlt]; exact hc, Bs.mono hs hb⟩⟩

/-- Bytes as cells. -/
def bvs (l : List UInt8) : List Value := l.map fun x => .int .u8 (x.toNat : Int)
theorem bvs_length (l : List UInt8) : (bvs l).length = l.length := by simp [bvs]
theorem bvs_append (l m : List UInt8) : bvs (l ++ m) = bvs l ++ bvs m := by simp [bvs]
theorem bvs_one (l : List UInt8) : ∀ u ∈ bvs l, u.oneCell' = true := by
  intro u hu
  simp only [bvs, List.mem_map] at hu
  obtain ⟨x, _, rfl⟩ := hu
  rfl
theorem bvs_get (l : List UInt8) (i : Nat) (h : i < l.length) : (bvs l)[i]? = some (.int .u8 (gb l i)) := by
  simp [bvs, gb, List.getD, List.getElem?_eq_getElem h]
/-- What an append finds behind a slice's address. -/
theorem Bs.news {w : World} {a : Option Addr} {len cap : Nat} {l : List UInt8} (h : Bs w a len cap l) :
    ∀ ad, a = some ad → ∀ j u, (bvs l)[j]? = some u → w.cell? (ad.add j) = some u := by
  intro ad e j u hu
  have hj : j < l.length := by have := (List.getElem?_eq_some_iff.1 hu).1; simpa [bvs] using this
  obtain ⟨b, off, e2, _, hc⟩ := h.at' j (by rw [← h.hlen]; exact hj)
  rw [e] at e2
  obtain rfl := Option.some.inj e2
  rw [Addr.add_mid, hc, ← bvs_get l j hj]
  exact hu
theorem Bs.nil0 {w : World} {a : Option Addr} {len cap : Nat} {l : List UInt8} (h : Bs w a len cap l) : a = none → len = 0 ∧ cap = 0 := fun e => by
  have := h.hnil e
  have := h.hle
  omega
/-- What lies behind s bytes; the address is a slice expression's own. -/
theorem Bs.drop {w : World} {b off len cap : Nat} {l : List UInt8} (h : Bs w (some ⟨b, off, none⟩) len cap l) (s : Nat) (hs : s ≤ len) (ao : Option Addr) (hao : ¬ cap = s → ao = some ⟨b, off + s, none⟩) :
    Bs w ao (len - s) (cap - s) (l.drop s) := by
  have h1 := h.hlen
  have h2 := h.hle
  have h3 := h.hcap
  have h4 := h.hmax
  refine ⟨by simp; omega, by omega, by omega, by omega, fun e => ?_, fun i hi => ?_⟩
  · by_cases hc : cap = s
    · omega
    · rw [hao hc] at e; simp at e
  · obtain ⟨b', off', e', hb', hc⟩ := h.at' (s + i) (by omega)
    simp only [Option.some.injEq, Addr.mk.injEq, and_true] at e'
    obtain ⟨rfl, rfl⟩ := e'
    refine ⟨b, off + s, hao (by omega), hb', ?_⟩
    rw [Nat.add_assoc, hc]
    simp [gb, List.getD, List.getElem?_drop]
/-- A row that the call owns reads as its bytes. -/
theorem bs_of_own {w : World} {base : Nat} {e : TypeId} {g n cap : Nat} {l : List UInt8} (h : w.ownsRow base e 1 (.slice (some ⟨g, 0, none⟩) n cap) n (bvs l))
    (hc : n ≤ 281474976710656) (k : Nat) (hk : k ≤ n) : Bs w (some ⟨g, 0, none⟩) k cap (l.take k) := by
  have hn : l.length = n := by have := h.1; rw [bvs_length] at this; omega
  have hcap : n ≤ cap ∧ cap ≤ 9223372036854775807 := by
    rcases h.2 with ⟨h, _⟩ | ⟨g', cap', cur, h, _, _, hnc, hm, _⟩
    · simp at h
    · simp only [Value.slice.injEq] at h; unfold maxLen at hm; omega
  have hlt : g < w.heap.size := (h.lt g rfl).2
  refine ⟨by simp; omega, by omega, by omega, hcap.2, fun h => by simp at h, fun i hi => ⟨g, 0, rfl, hlt, ?_⟩⟩
  rw [Nat.zero_add, h.cellAt i (by omega), bvs_get l i (by omega)]
  simp [gb, List.getD, List.getElem?_take, hi]

/-- What is known of a slice's type, its element's size and zero value. -/
structure RowTy (P : Program) (t e : TypeId) (z : Value) (size by' : Nat) : Prop where
  ht : P.underlying t = some (.slice e)
  info : (P.info? e).map (fun i => (i.zero, i.size, i.bytes)) = some (some z, size, by')
  hzs : z.cells.size = size
  hsz : 0 < size
/-- The cells of a slice that is appended, or copied from. -/
structure SrcRow (w : World) (ao : Option Addr) (m c : Nat) (news : List Value) (size : Nat) : Prop where
  hl : news.length = m * size
  hnone : ao = none → m = 0 ∧ c = 0
  hc : ∀ ad, ao = some ad → ∀ j u, news[j]? = some u → w.cell? (ad.add j) = some u
  h1 : ∀ u ∈ news, u.oneCell' = true
theorem Bs.src {w : World} {a : Option Addr} {len cap : Nat} {l : List UInt8} (h : Bs w a len cap l) : SrcRow w a len cap (bvs l) 1 :=
  ⟨by rw [bvs_length, h.hlen, Nat.mul_one], h.nil0, h.news, bvs_one l⟩
theorem SrcRow.mono {w w' : World} {ao : Option Addr} {m c : Nat} {news : List Value} {size : Nat} (h : SrcRow w ao m c news size) (hb : Below w.heap.size w w') : SrcRow w' ao m c news size :=
  ⟨h.hl, h.hnone, fun ad e j u hu => by
    have hc := h.hc ad e j u hu
    rw [hb.cell (block_lt_of_cell hc)]; exact hc, h.h1⟩

/-- The cells of a new block. -/
theorem src_new (w : World) (cs : Array Value) (t : TypeId) (m c size : Nat) (hl : cs.size = m * size) (h1 : ∀ u ∈ cs.toList, u.oneCell' = true) :
    SrcRow (w.alloc (.cells cs t)) (some ⟨w.heap.size, 0, none⟩) m c cs.toList size :=
  ⟨by simpa using hl, fun h => by simp at h, fun ad e j u hu => by
    obtain rfl := Option.some.inj e
    rw [Addr.add_mid, Nat.zero_add, cell_of_row _ _ j cs t (0, 0) (heap_alloc_last w _)]
    simpa using hu, h1⟩

section laws
variable {P : Program} {w : World} {ops : Array Oper} {rest : List Oper} {o : Oper} {a : Act} {Q : Exit → Act → World → Prop}
variable {t e : TypeId} {z : Value} {size by' : Nat}
theorem wpl_make (R : RowTy P t e z size by') (hg : o.guard = none) (l c : Operand) (hop : o.op = Op.makeSlice t l c) (base : Nat)
    (kl kc : IntKind) (C : Int) (n : Nat) (hl : a.eval l = .int kl 0) (hc : a.eval c = .int kc C) (hC : C = (n : Int)) (b2 : by' * n ≤ 281474976710656) (b3 : n ≤ 9223372036854775807) (b4 : base ≤ w.heap.size)
    (hK : ∀ w', w'.ownsRow base e size (.slice (some ⟨w.heap.size, 0, none⟩) 0 n) 0 [] → w.grownBy w' none → wpList P ops Q rest (a.put o.dst (.slice (some ⟨w.heap.size, 0, none⟩) 0 n)) w') :
    wpList P ops Q (o :: rest) a w := by
  obtain ⟨i0, hi, hz0, hz1, hz2⟩ := info_parts R.info
  subst hz2
  exact wpList_make_own w hg l c t hop base e i0 z size R.ht hi hz0 hz1 kl kc C n hl hc hC b2 (by unfold maxLen; omega) b4 hK
theorem wpl_fits (R : RowTy P t e z size by') (hg : o.guard = none) (s x : Operand) (hop : o.op = Op.call { callee := Callee.builtin Builtin.append, args := #[s, x], argTypes := #[t, t] })
    {base g k cap : Nat} {xs : List Value} (hown : w.ownsRow base e size (.slice (some ⟨g, 0, none⟩) k cap) k xs) {ao : Option Addr} {m c : Nat} {news : List Value} (hsrc : SrcRow w ao m c news size)
    (hs : a.eval s = .slice (some ⟨g, 0, none⟩) k cap) (hx : a.eval x = .slice ao m c) (b1 : k + m ≤ cap)
    (hK : ∀ w', w'.ownsRow base e size (.slice (some ⟨g, 0, none⟩) (k + m) cap) (k + m) (xs ++ news) → w.grownBy w' (some g) → wpList P ops Q rest (a.put o.dst (.slice (some ⟨g, 0, none⟩) (k + m) cap)) w') :
    wpList P ops Q (o :: rest) a w := by
  obtain ⟨i0, hi, hz0, hz1, hz2⟩ := info_parts R.info
  exact wpList_append_fits_any w hg s x t hop base e i0 size R.ht hi hz1 g k cap xs hs hown ao m c news hx hsrc.hl hsrc.hnone hsrc.hc hsrc.h1 b1 hK
theorem wpl_append (R : RowTy P t e z size by') (hg : o.guard = none) (s x : Operand) (hop : o.op = Op.call { callee := Callee.builtin Builtin.append, args := #[s, x], argTypes := #[t, t] })
    {base n : Nat} {v : Value} {xs : List Value} (hown : w.ownsRow base e size v n xs) {ao : Option Addr} {m c : Nat} {news : List Value} (hsrc : SrcRow w ao m c news size)
    (hs : a.eval s = v) (hx : a.eval x = .slice ao m c) (h63 : n + m ≤ 9223372036854775807) (hbytes : (n + m) * by' ≤ 140737488355328) (hbase : base ≤ w.heap.size)
    (hK : ∀ v' w', w'.ownsRow base e size v' (n + m) (xs ++ news) → w.grownBy w' v.ownBlock → (v' = .slice none 0 0 ↔ v = .slice none 0 0 ∧ m = 0) → wpList P ops Q rest (a.put o.dst v') w') :
    wpList P ops Q (o :: rest) a w := by
  obtain ⟨i0, hi, hz0, hz1, hz2⟩ := info_parts R.info
  cases ao with
  | some ad => exact wpList_append_own w hg s x t hop base e i0 z size by' R.ht hi hz0 hz1 hz2 R.hzs R.hsz v n xs hs hown ad m c news hx hsrc.hl (hsrc.hc ad rfl) hsrc.h1 (by unfold maxLen; omega) hbytes hbase hK
  | none =>
    obtain ⟨rfl, rfl⟩ := hsrc.hnone rfl
    have hnews : news = [] := List.eq_nil_of_length_eq_zero (by simpa using hsrc.hl)
    subst hnews
    refine wpList_plain hg fun K hK' => ?_
    have hrun := run_append_owned_none (P := P) w base t o.type e i0 size R.ht hi v n xs hown
    unfold Oper.wp
    simp [execOp, hop, resolve, invoke, builtin, hs, hx, hrun, Result.andThen]
    exact hK' _ _ (hK v w (by simpa using hown) (World.grownBy.refl _ _) (by simp))
end laws

/-- Bytes as a text. -/
def str (l : List UInt8) : ByteArray := ⟨l.toArray⟩
theorem str_data (l : List UInt8) : (str l).data.toList = l := rfl
theorem str_list (l : List UInt8) : (str l).toList = l := ByteArray.toList_eq (str l)
theorem str_size (l : List UInt8) : (str l).size = l.length := by simp [str, ByteArray.size]
theorem str_inj {l m : List UInt8} (h : str l = str m) : l = m := by
  have := congrArg (fun b : ByteArray => b.data.toList) h
  simpa [str] using this
theorem conv_bs {P : Program} {w : World} {a : Option Addr} {len cap : Nat} {l : List UInt8} (h : Bs w a len cap l) (src dst e : TypeId) (hs : P.underlying src = some (.slice e)) (he : P.underlying e = some (.int .u8)) (hd : P.underlying dst = some .string) :
    (convert src dst (.slice a len cap)).run P w = .ok (.string (str l)) w := by
  cases a with
  | none =>
    have h0 := (h.nil0 rfl).1
    have : l = [] := List.eq_nil_of_length_eq_zero (by rw [h.hlen]; exact h0)
    subst this
    exact run_convert_bytes_nil w src e hs he len cap dst hd
  | some ad =>
    have hl : (loadCells ad len).run P w = .ok ((l.map fun x => (x.toNat : Int)).map (Value.int .u8)).toArray w := by
      have := run_loadCells_list (P := P) w ad (bvs l) (fun j v hj => h.news ad rfl j v hj)
      rw [bvs_length, h.hlen] at this
      rw [show (l.map fun x => (x.toNat : Int)).map (Value.int .u8) = bvs l by simp only [bvs, List.map_map]; rfl]
      exact this
    rw [run_convert_bytes_string w src dst e _ len cap hs he hd, run_bytesToString w ad len cap _ hl, foldl_push_bytes]
    have e2 : (l.map fun x => (x.toNat : Int)).map (fun n => UInt8.ofNat n.toNat) = l := by
      rw [List.map_map]
      exact (List.map_congr_left (fun x _ => by simp)).trans (List.map_id l)
    rw [e2]
    simp [str, ByteArray.empty, ByteArray.emptyWithCapacity]
    rfl

/-- A new block of slices. -/
theorem parts_new (W : World) (b : Nat) (hbk : b = W.heap.size) (ps : List Sl) (t : TypeId) (n : Nat) (hn : ps.length = n) (hb : n ≤ 281474976710656) (cs : Array Value) (hcs : (ps.map Sl.val).toArray = cs) (h : ∀ s ∈ ps, s.at W) :
    Parts (W.alloc (.cells cs t)) (some ⟨b, 0, none⟩) n n ps := by
  subst hcs
  subst hbk
  refine ⟨hn, Nat.le_refl _, hb, fun i hi => ⟨W.heap.size, 0, rfl, by simp, ?_, ?_⟩⟩
  · rw [cell_of_row _ _ _ _ t (0, 0) (heap_alloc_last W _)]
    rw [nth_get ps i (by omega)]
    simp [Sl.val, List.getElem?_eq_getElem (show i < ps.length by omega)]
  · exact Bs.mono (h _ (nth_mem ps i (by omega))) ((Below.refl _ _).alloc (Nat.le_refl _) _)
theorem flat_one (s : Sl) : flat [s] = s.l := by simp [flat]
/-- A new block of bytes, whatever its mark. -/
theorem bs_new (W : World) (b : Nat) (hbk : b = W.heap.size) (l : List UInt8) (t : TypeId) (fr : Nat × Nat) (n : Nat) (hn : l.length = n) (hb : n ≤ 281474976710656) (cs : Array Value) (hcs : (bvs l).toArray = cs) :
    Bs (W.alloc (.cells cs t fr)) (some ⟨b, 0, none⟩) n n l := by
  subst hcs
  subst hbk
  refine ⟨hn, Nat.le_refl _, hb, by omega, fun h => by simp at h, fun i hi => ⟨W.heap.size, 0, rfl, by simp, ?_⟩⟩
  rw [cell_of_row _ _ _ _ t fr (heap_alloc_last W _), Nat.zero_add]
  rw [← bvs_get l i (by omega)]
  simp

theorem bs_nil (w : World) : Bs w none 0 0 [] := ⟨rfl, Nat.le_refl _, by omega, by omega, fun _ => rfl, fun i hi => absurd hi (by omega)⟩
/-- A row that the call owns, whatever its value: a slice that reads as its bytes. -/
theorem own_bs {w : World} {base : Nat} {e : TypeId} {v : Value} {n : Nat} {l : List UInt8} (h : w.ownsRow base e 1 v n (bvs l)) (hc : n ≤ 281474976710656) :
    ∃ a cap, v = .slice a n cap ∧ Bs w a n cap l := by
  have hn : l.length = n := by have := h.1; rw [bvs_length] at this; omega
  rcases h.2 with ⟨rfl, rfl⟩ | ⟨g, cap, cur, rfl, _⟩
  · have : l = [] := List.eq_nil_of_length_eq_zero hn
    subst this
    exact ⟨none, 0, rfl, ⟨rfl, Nat.le_refl _, by omega, by omega, fun _ => rfl, fun i hi => absurd hi (by omega)⟩⟩
  · have := bs_of_own h hc n (Nat.le_refl _)
    rw [List.take_of_length_le (by omega)] at this
    exact ⟨_, cap, rfl, this⟩
/-- A new block of bytes is the call's own. -/
theorem own_new (w : World) (base : Nat) (e : TypeId) (cs : Array Value) (l : List UInt8) (hb : base ≤ w.heap.size) (hm : l.length ≤ 281474976710656) (n : Nat) (hn : l.length = n) (hcs : (bvs l).toArray = cs) :
    (w.alloc (.cells cs e)).ownsRow base e 1 (.slice (some ⟨w.heap.size, 0, none⟩) n n) n (bvs l) := by
  subst hcs
  subst hn
  refine ⟨by simp [bvs_length], .inr ⟨w.heap.size, l.length, (bvs l).toArray, rfl, hb, heap_alloc_last w _, Nat.le_refl _, by unfold maxLen; omega, by simp [bvs_length], ?_⟩⟩
  rw [List.take_of_length_le (by simp [bvs_length])]
theorem own_below {w w' : World} {base : Nat} {e : TypeId} {size : Nat} {v : Value} {n : Nat} {xs : List Value} (h : w.ownsRow base e size v n xs) (hb : Below w.heap.size w w') : w'.ownsRow base e size v n xs :=
  h.kept (row := none) ⟨hb.os, hb.tape, hb.output, hb.size, fun k hk _ => hb.block k hk⟩ (by cases hv : v.ownBlock <;> simp)
theorem below_alloc (w : World) (o : Obj) : Below w.heap.size w (w.alloc o) := (Below.refl _ _).alloc (Nat.le_refl _) o
theorem below_alloc2 (w : World) (o o' : Obj) : Below w.heap.size w ((w.alloc o).alloc o') := (below_alloc w o).alloc (by simp) o'
/-- One step behind another. -/
theorem below_then {w0 w1 w2 : World} (h : Below w0.heap.size w0 w1) (k : Below w1.heap.size w1 w2) : Below w0.heap.size w0 w2 := h.trans (k.mono h.size)

/-- A block with its cells, as ranges. -/
theorem there_of_heap {w : World} {b o n : Nat} {C : Array Value} {t : TypeId} (hb : w.heap[b]? = some (.cells C t (0, 0))) (h : o + n ≤ C.size) : w.there b o n := fun j hj => by
  refine ⟨?_, frozen_of_row w b _ C t hb⟩
  rw [cell_of_row w b (o + j) C t (0, 0) hb]
  simp; omega
theorem range_of_heap {w : World} {b : Nat} {C : Array Value} {t : TypeId} {fr : Nat × Nat} (hb : w.heap[b]? = some (.cells C t fr)) : w.rangeAt b 0 C.toList := fun j v hv => by
  rw [cell_of_row w b (0 + j) C t fr hb]
  simpa using hv
theorem below_setCells {B : Nat} {w0 : World} {b : Nat} (hb : B ≤ b) : ∀ (vs : List Value) (o : Nat) (w : World), Below B w0 w → Below B w0 (w.setCells b o vs)
  | [], _, _, h => h
  | v :: r, o, w, h => below_setCells hb r (o + 1) _ (h.setCell (p := ⟨b, o, none⟩) hb v)

namespace Crc
/-- One of the eight steps. -/
def st (r : Nat) : Nat := if r % 2 = 1 then r / 2 ^^^ 3988292384 else r / 2
def stN : Nat → Nat → Nat
  | 0, r => r
  | n + 1, r => st (stN n r)
def byte (r x : Nat) : Nat := stN 8 (r ^^^ x)
def run (l : List UInt8) : Nat := l.foldl (fun r x => byte r x.toNat) 4294967295
def crc (l : List UInt8) : Nat := 4294967295 - run l

theorem st_lt {r : Nat} (h : r < 4294967296) : st r < 4294967296 := by
  unfold st
  split
  · exact Nat.xor_lt_two_pow (n := 32) (by omega) (by omega)
  · omega
theorem st_odd {r : Nat} (h : r < 4294967296) (ho : ((r : Int) % 2 == 1) = true) : bits .xor .u32 ((r : Int) / 2) 3988292384 = st r := by
  have e : (r : Int) / 2 = ((r / 2 : Nat) : Int) := by omega
  have ho' : r % 2 = 1 := by have := eq_of_beq ho; omega
  have e2 := u32_xor_nat (r / 2) 3988292384 (by omega) (by omega)
  rw [e]; unfold st; rw [if_pos ho']; exact e2
theorem st_even {r : Nat} (ho : ((r : Int) % 2 == 1) = false) : (r : Int) / 2 = st r := by
  have ho' : ¬ r % 2 = 1 := by have := ne_of_beq_false ho; omega
  unfold st; rw [if_neg ho']; omega
theorem stN_lt {r : Nat} (h : r < 4294967296) : ∀ n, stN n r < 4294967296
  | 0 => h
  | n + 1 => st_lt (stN_lt h n)
theorem byte_lt {r x : Nat} (h : r < 4294967296) (hx : x < 256) : byte r x < 4294967296 :=
  stN_lt (Nat.xor_lt_two_pow (n := 32) (by omega) (by omega)) 8
theorem run_lt (l : List UInt8) : run l < 4294967296 := by
  unfold run
  suffices ∀ (l : List UInt8) r, r < 4294967296 → l.foldl (fun r x => byte r x.toNat) r < 4294967296 from this l _ (by omega)
  intro l
  induction l with
  | nil => intro r h; exact h
  | cons x l ih => intro r h; exact ih _ (byte_lt h (u8_lt x))
theorem run_snoc (l : List UInt8) (k : Nat) (h : k < l.length) : run (l.take (k + 1)) = stN 8 (run (l.take k) ^^^ gb l k) := by
  rw [take_succ_getD l k h]; simp [run, byte, gb]
/-- The table of four steps, up to k. -/
def tab (k : Nat) : Array Value := ((List.range 16).map fun i => Value.int .u32 (if i < k then stN 4 i else 0)).toArray
theorem tab_size (k : Nat) : (tab k).size = 16 := by simp [tab]
theorem tab_get (i k : Nat) (h : i < 16) (hk : i < k) : (tab k)[i]? = some (.int .u32 (stN 4 i)) := by
  simp [tab, List.getElem?_range h, hk]
theorem tab_get' (i k : Nat) (h : i < 16) : ∃ n : Int, (tab k)[i]? = some (.int .u32 n) := by
  simp [tab, List.getElem?_range h]
theorem tab_one (k : Nat) : (tab k).all (·.oneCell') = true := by
  rw [Array.all_eq_true_iff_forall_mem]
  intro v hv
  simp only [tab, List.mem_toArray, List.mem_map] at hv
  obtain ⟨i, _, rfl⟩ := hv
  rfl
theorem tab_set (k : Nat) (h : k < 16) : (tab k).setIfInBounds k (.int .u32 (stN 4 k)) = tab (k + 1) := by
  apply Array.ext_getElem?
  intro i
  rw [Array.getElem?_setIfInBounds]
  by_cases hi : i < 16
  · by_cases e : k = i
    · subst e; rw [tab_get k (k + 1) hi (by omega)]; simp [tab_size, hi]
    · rw [if_neg e]
      have e2 : (if i < k then stN 4 i else 0) = (if i < k + 1 then stN 4 i else 0) := by
        by_cases h2 : i < k
        · rw [if_pos h2, if_pos (by omega)]
        · rw [if_neg h2, if_neg (by omega)]
      simp [tab, List.getElem?_range hi]; omega
  · have h1 : (tab (k + 1))[i]? = none := by simp [tab_size]; omega
    have h2 : (tab k)[i]? = none := by simp [tab_size]; omega
    rw [if_neg (by omega), h1, h2]
theorem run_append (l : List UInt8) (m : List UInt8) (k : Nat) (h : k < m.length) : run (l ++ m.take (k + 1)) = byte (run (l ++ m.take k)) (gb m k) := by
  rw [take_succ_getD m k h]; simp [run, gb]
theorem st_eq (r : Nat) : st r = r / 2 ^^^ (if r % 2 = 1 then 3988292384 else 0) := by unfold st; split <;> simp
theorem xor_lc (a b c : Nat) : a ^^^ (b ^^^ c) = b ^^^ (a ^^^ c) := by rw [← Nat.xor_assoc, Nat.xor_comm a b, Nat.xor_assoc]
theorem xor_self_lc (a b : Nat) : a ^^^ (a ^^^ b) = b := by rw [← Nat.xor_assoc, Nat.xor_self, Nat.zero_xor]
theorem st_xor (a b : Nat) : st (a ^^^ b) = st a ^^^ st b := by
  have h1 : (a ^^^ b) / 2 = a / 2 ^^^ b / 2 := Nat.xor_div_two
  have h2 : (a ^^^ b) % 2 = (a % 2) ^^^ (b % 2) := Nat.xor_mod_two_pow (n := 1)
  have ea : a % 2 = 0 ∨ a % 2 = 1 := by omega
  have eb : b % 2 = 0 ∨ b % 2 = 1 := by omega
  rw [st_eq, st_eq a, st_eq b, h1, h2]
  rcases ea with ea | ea <;> rcases eb with eb | eb <;> rw [ea, eb] <;> simp [Nat.xor_assoc, Nat.xor_comm, xor_lc, xor_self_lc]
theorem stN_xor (a b : Nat) : ∀ n, stN n (a ^^^ b) = stN n a ^^^ stN n b
  | 0 => rfl
  | n + 1 => by simp only [stN]; rw [stN_xor a b n, st_xor]
theorem stN_add (r : Nat) (m : Nat) : ∀ n, stN (m + n) r = stN n (stN m r)
  | 0 => rfl
  | n + 1 => by rw [← Nat.add_assoc]; simp only [stN]; rw [stN_add r m n]
theorem st_even' (k : Nat) : st (2 * k) = k := by unfold st; rw [if_neg (by omega)]; omega
theorem four (r : Nat) : stN 4 r = r / 16 ^^^ stN 4 (r % 16) := by
  have h : r = (2 * (2 * (2 * (2 * (r / 16))))) ^^^ (r % 16) := by
    have hj := nat_join 4 (2 * (2 * (2 * (2 * (r / 16))))) (r % 16) (by omega) (by omega)
    have hx : (2 * (2 * (2 * (2 * (r / 16))))) ^^^ (r % 16) = (2 * (2 * (2 * (2 * (r / 16))))) ||| (r % 16) := by
      apply Nat.eq_of_testBit_eq
      intro i
      rw [Nat.testBit_xor, Nat.testBit_or]
      by_cases hi : i < 4
      · have : (2 * (2 * (2 * (2 * (r / 16))))).testBit i = false := by
          have e : 2 * (2 * (2 * (2 * (r / 16)))) = 2 ^ 4 * (r / 16) := by omega
          rw [e, Nat.testBit_two_pow_mul]; simp; omega
        rw [this]; simp
      · have : (r % 16).testBit i = false := Nat.testBit_lt_two_pow (Nat.lt_of_lt_of_le (show r % 16 < 2 ^ 4 by omega) (Nat.pow_le_pow_right (show 0 < 2 by omega) (show 4 ≤ i by omega)))
        rw [this]; simp
    rw [hx, hj]; omega
  have h4 : stN 4 (2 * (2 * (2 * (2 * (r / 16))))) = r / 16 := by simp only [stN]; rw [st_even', st_even', st_even', st_even']
  calc stN 4 r = stN 4 ((2 * (2 * (2 * (2 * (r / 16))))) ^^^ (r % 16)) := by rw [← h]
    _ = _ := by rw [stN_xor, h4]
theorem four_bits {r : Nat} (h : r < 4294967296) : bits .xor .u32 ((r : Int) / 16) (stN 4 (r % 16)) = stN 4 r := by
  have e : (r : Int) / 16 = ((r / 16 : Nat) : Int) := by omega
  rw [e, u32_xor_nat _ _ (by omega) (stN_lt (by omega) 4), ← four]
theorem and15 {r : Nat} (h : r < 4294967296) : bits .and .u32 (r : Int) 15 = ((r % 16 : Nat) : Int) := by
  have := u32_and_nat r 15 h (by omega)
  rw [nat_mask4] at this
  exact this
theorem not32 (n : Nat) (h : n < 4294967296) : 4294967295 ^^^ n = 4294967295 - n := by
  have := BitVec.toNat_not (x := BitVec.ofNat 32 n)
  rw [BitVec.not_def] at this
  simp [BitVec.toNat_xor, Nat.mod_eq_of_lt h] at this
  exact this
theorem not_bits {n : Nat} (h : n < 4294967296) : wrap64 (bits .xor .u32 IntKind.u32.max (n : Int)) = ((4294967295 - n : Nat) : Int) := by
  have e : IntKind.u32.max = ((4294967295 : Nat) : Int) := by decide
  rw [e, u32_xor_nat _ _ (by omega) h, not32 n h, IntWalk.wrap64_in _ ⟨by omega, by omega⟩]
end Crc
end Go.Proofs.YtfdnjblbhbkndaaDoor
