/- chunk.places: its contract. -/
import Derived.Test.YtfhmmlpcdgcmoaaCkClone
import Derived.Test.YtfhmmlpcdgcmoaaCkForm
import Derived.Test.YtfhmmlpcdgcmoaaCkParse
namespace Go.Proofs.Ytfhmmlpcdgcmoaa
open Go.RowKit

/-- A place: an index and a chunk. -/
abbrev Plm := Nat × Ckm
def plc (l : List Plm) : List Value := l.flatMap fun p => [.int .i64 (p.1 : Nat), .string (str p.2.n), p.2.s.val]
theorem plc_length (l : List Plm) : (plc l).length = l.length * 3 := by
  induction l with
  | nil => rfl
  | cons o l ih => simp only [plc, List.flatMap_cons, List.length_append, List.length_cons, List.length_nil] at *; omega
theorem plc_append (l m : List Plm) : plc (l ++ m) = plc l ++ plc m := by simp [plc]
def npl (l : List Plm) (i : Nat) : Plm := l.getD i default
theorem npl_get (l : List Plm) (i : Nat) (h : i < l.length) : npl l i = l[i] := by simp [npl, List.getD, List.getElem?_eq_getElem h]
theorem plc_get (l : List Plm) : ∀ i, i < l.length → (plc l)[i * 3]? = some (.int .i64 ((npl l i).1 : Nat)) ∧ (plc l)[i * 3 + 1]? = some (.string (str (npl l i).2.n)) ∧ (plc l)[i * 3 + 2]? = some (npl l i).2.s.val := by
  induction l with
  | nil => intro i hi; simp at hi
  | cons c cs ih =>
    intro i hi
    have e : plc (c :: cs) = .int .i64 (c.1 : Nat) :: .string (str c.2.n) :: c.2.s.val :: plc cs := rfl
    rw [e]
    cases i with
    | zero => exact ⟨rfl, rfl, rfl⟩
    | succ i =>
      have := ih i (by simp at hi; omega)
      have e3 : (i + 1) * 3 = i * 3 + 3 := by omega
      rw [e3]
      exact this
theorem src_pl (w : World) (c : Plm) (t : TypeId) : SrcRow (w.alloc (.cells #[.int .i64 (c.1 : Nat), .string (str c.2.n), c.2.s.val] t)) (some ⟨w.heap.size, 0, none⟩) 1 1 (plc [c]) 3 :=
  src_new w #[.int .i64 (c.1 : Nat), .string (str c.2.n), c.2.s.val] t 1 1 3 rfl (by intro u hu; simp at hu; rcases hu with rfl | rfl | rfl <;> rfl)
theorem tyP : RowTy Try.prog 86 90 (.agg #[.int .i64 0, .string { data := #[] }, .slice none 0 0]) 3 48 := ⟨Try.underlying86, by kernel_rfl, rfl, by omega⟩
/-- Places of the call's own, each with data of its own, in blocks from B on. -/
structure Pls (w : World) (B : Nat) (v : Value) (ms : List Plm) : Prop where
  own : w.ownsRow B 90 3 v ms.length (plc ms)
  data : ∀ c ∈ ms, w.ownsRow B 5 1 c.2.s.val c.2.s.len (bvs c.2.s.l)
  dj : ∀ c ∈ ms, ∀ g, c.2.s.val.ownBlock = some g → v.ownBlock ≠ some g
theorem Pls.ch {w w' : World} {B : Nat} {v : Value} {ms : List Plm} {T : Nat → Prop} (h : Pls w B v ms) (hc : Ch w w' T) (ht : ∀ k, T k → k < B) : Pls w' B v ms :=
  ⟨hc.own h.own (fun g hg e => by have := (h.own.lt g hg).1; have := ht g e; omega), fun c hm => hc.own (h.data c hm) (fun g hg e => by have := ((h.data c hm).lt g hg).1; have := ht g e; omega), h.dj⟩
theorem Pls.below {w w' : World} {B : Nat} {v : Value} {ms : List Plm} (h : Pls w B v ms) (hb : Below w.heap.size w w') : Pls w' B v ms :=
  h.ch (T := fun _ => False) (Ch.of_below hb) (fun _ h => h.elim)
theorem Pls.push {w w' : World} {B : Nat} {v v' : Value} {ms : List Plm} {c : Plm} (h : Pls w B v ms) (hd : w.ownsRow B 5 1 c.2.s.val c.2.s.len (bvs c.2.s.l)) (hdj : ∀ g, c.2.s.val.ownBlock = some g → v.ownBlock ≠ some g)
    (ho : w'.ownsRow B 90 3 v' (ms.length + 1) (plc ms ++ plc [c])) (hc : Ch w w' (fun k => v.ownBlock = some k)) (hb : ∀ k, v'.ownBlock = some k → v.ownBlock = some k ∨ w.heap.size ≤ k) : Pls w' B v' (ms ++ [c]) := by
  have hall : ∀ x ∈ ms ++ [c], w.ownsRow B 5 1 x.2.s.val x.2.s.len (bvs x.2.s.l) ∧ ∀ g, x.2.s.val.ownBlock = some g → v.ownBlock ≠ some g := fun x hx => by
    rcases List.mem_append.1 hx with hx | hx
    · exact ⟨h.data x hx, h.dj x hx⟩
    · obtain rfl : x = c := by simpa using hx
      exact ⟨hd, hdj⟩
  refine ⟨by rw [plc_append, List.length_append]; exact ho, fun x hx => hc.own (hall x hx).1 (fun g hg e => (hall x hx).2 g hg e), fun x hx g hg e => ?_⟩
  rcases hb g e with h1 | h1
  · exact (hall x hx).2 g hg h1
  · have := ((hall x hx).1.lt g hg).2; omega
/-- Where a name stands among the first k. -/
def hits (l : List Ckm) (nm : List UInt8) (k : Nat) : List Nat := (List.range k).filter fun i => (nck l i).n == nm
theorem hits_yes {l : List Ckm} {nm : List UInt8} {k : Nat} (h : (nck l k).n = nm) : hits l nm (k + 1) = hits l nm k ++ [k] := by
  unfold hits; rw [List.range_succ, List.filter_append]; simp [h]
theorem hits_no {l : List Ckm} {nm : List UInt8} {k : Nat} (h : (nck l k).n ≠ nm) : hits l nm (k + 1) = hits l nm k := by
  unfold hits; rw [List.range_succ, List.filter_append]; simp [h]
theorem hits_le (l : List Ckm) (nm : List UInt8) (k : Nat) : (hits l nm k).length ≤ k := by
  have := List.length_filter_le (fun i => (nck l i).n == nm) (List.range k)
  simpa [hits] using this
/-- The places are the hits, each with a copy of its data. -/
def PlIs (l : List Ckm) (nm : List UInt8) (k : Nat) (ms : List Plm) : Prop := ms.map Prod.fst = hits l nm k ∧ ∀ c ∈ ms, c.2.n = nm ∧ c.2.s.l = (nck l c.1).s.l
theorem PlIs.len {l : List Ckm} {nm : List UInt8} {k : Nat} {ms : List Plm} (h : PlIs l nm k ms) : ms.length ≤ k := by
  have := congrArg List.length h.1
  rw [List.length_map] at this
  rw [this]; exact hits_le l nm k
theorem PlIs.yes {l : List Ckm} {nm : List UInt8} {k : Nat} {ms : List Plm} (h : PlIs l nm k ms) (hn : (nck l k).n = nm) (c : Ckm) (hc : c.n = nm) (hd : c.s.l = (nck l k).s.l) : PlIs l nm (k + 1) (ms ++ [(k, c)]) :=
  ⟨by rw [List.map_append, h.1, hits_yes hn]; rfl, fun x hx => by
    rcases List.mem_append.1 hx with hx | hx
    · exact h.2 x hx
    · obtain rfl : x = (k, c) := by simpa using hx
      exact ⟨hc, hd⟩⟩
theorem PlIs.no {l : List Ckm} {nm : List UInt8} {k : Nat} {ms : List Plm} (h : PlIs l nm k ms) (hn : (nck l k).n ≠ nm) : PlIs l nm (k + 1) ms := ⟨by rw [h.1, hits_no hn], h.2⟩
/-- What places answers. -/
def PlPost (w : World) (l : List Ckm) (nm : List UInt8) (e : Ending) (w' : World) : Prop :=
  ∃ v ms, e = .returned v ∧ Pls w' w.heap.size v ms ∧ PlIs l nm l.length ms ∧ Below w.heap.size w w'
set_option maxRecDepth 100000 in
set_option maxHeartbeats 4000000 in
theorem places_any (a : Option Addr) (len cap : Nat) (l : List Ckm) (nm : List UInt8) (w : World) (h : Cs w a len cap l) (hr : len * 48 ≤ 140737488351232) (hd : ∀ c ∈ l, c.s.len ≤ 140737488351232) :
    Calls Try.prog 48 #[.slice a len cap, .string (str nm)] w (PlPost w l nm) := by
  have hle := h.hle
  have HL := Lib.hid h.hlen
  have H := Lib.hid h
  have HD := Lib.hid hd
  clear h hd
  go_enter Try.func48, Try.ntmps48
  go_wp2
  go_loopw [5, 10] (fun v i wr => ∃ (k : Nat) (ms : List Plm), k ≤ len ∧ i = .int .i64 k ∧ Hid (PlIs l nm k ms) ∧ Hid (Pls wr w.heap.size v ms) ∧ Hid (Below w.heap.size w wr)) (fun _ i _ => len - (intOf i).toNat)
  case atStart => exact ⟨0, [], by omega, rfl, Lib.hid ⟨rfl, fun c hc => by simp at hc⟩, Lib.hid ⟨World.ownsRow_nil _ _ _ _, fun c hc => by simp at hc, fun c hc => by simp at hc⟩, Lib.hid (Below.refl _ _)⟩
  case round =>
    obtain ⟨k, ms, hk, rfl, HI, HP, HB⟩ := hrel
    by_cases hlt : k < len
    · have hkl : k < l.length := by rw [HL.out]; exact hlt
      obtain ⟨b, off, rfl, hb, c0, c1, hs⟩ := (H.out.mono HB.out).at' k hlt
      have hn2 := HD.out _ (nck_mem l k hkl)
      have HIY := Lib.hid (fun c => HI.out.yes (c := c))
      have HIN := Lib.hid (HI.out.no)
      have hml := HI.out.len
      generalize nck l k = c at *
      obtain ⟨cn, sa, sl, sc, sd⟩ := c
      simp only at *
      unfold Sl.val at c1
      simp only at c1
      have HR0 := Lib.hid (heap_alloc_last wr (.cells #[.string (str cn), .slice sa sl sc] 52))
      have hba := below_alloc wr (.cells #[.string (str cn), .slice sa sl sc] 52)
      have HBA := Lib.hid hba
      have HS := Lib.hid (Bs.mono hs hba)
      have HP1 := Lib.hid (HP.out.below hba)
      have hz1 : (wr.alloc (.cells #[.string (str cn), .slice sa sl sc] 52)).heap.size = wr.heap.size + 1 := by simp
      have hbz := HB.out.size
      have HLT : Hid (∀ g, u5.ownBlock = some g → w.heap.size ≤ g ∧ g < wr.heap.size) := Lib.hid (fun g hg => HP.out.own.lt g hg)
      by_cases hn : cn = nm
      rotate_left
      · have hne := beq_false_of_ne hn
        have HI2 := Lib.hid (HIN.out hn)
        have HB2 := Lib.hid (HB.out.alloc hbz (.cells #[.string (str cn), .slice sa sl sc] 52))
        have hie : ((str cn).toList == (str nm).toList) = false := by rw [str_list, str_list]; exact hne
        clear hba hs HI HIY HIN hn
        go_wp2
        go_roundw
        case rel => exact ⟨k + 1, ms, by omega, by go_num, HI2, HP1, HB2⟩
        case measure => simp [intOf]; omega
      · subst hn
        have hie : ((str cn).toList == (str cn).toList) = true := by simp
        have hhb := HB.out.alloc hbz (.cells #[.string (str cn), .slice sa sl sc] 52)
        clear hba hs HI HIN
        go_wp2_with fail
        refine (clone_any _ cn sa sl sc sd HS.out (by omega)).mono ?_
        rintro e w3 ⟨v3, rfl, own3, hb3⟩
        rw [hz1] at own3 hb3
        have HB3 : Hid (Below w.heap.size w w3) := Lib.hid (hhb.trans (hb3.mono (by omega)))
        have hz3 : wr.heap.size + 1 ≤ w3.heap.size := by have := hb3.size; omega
        have HP3 := Lib.hid (HP1.out.below (hz1 ▸ hb3))
        obtain ⟨a4, c4, rfl, _⟩ := own_slice own3
        have hq3 : w3.heap[wr.heap.size]? = some (.cells #[.string (str cn), .slice sa sl sc] 52 (0, 0)) := (hb3.block _ (by omega)).trans HR0.out
        have HO3 := Lib.hid (own_base (base' := w.heap.size) own3 (fun g hg => by have := (own3.lt g hg).1; omega))
        have HDJ : Hid (∀ g, (Value.slice a4 sl c4).ownBlock = some g → u5.ownBlock ≠ some g) := Lib.hid (fun g hg e => by
          have h1 := (own3.lt g hg).1
          have h2 := (HLT.out g e).2
          omega)
        have hba := below_alloc w3 (.cells #[.int .i64 (k : Nat), .string (str cn), .slice a4 sl c4] 90)
        have HPA := Lib.hid (HP3.out.below hba)
        have HOA := Lib.hid (own_below HO3.out hba)
        have HBA2 := Lib.hid (HB3.out.trans (hba.mono HB3.out.size))
        have HSR := Lib.hid (src_pl w3 (k, ⟨cn, ⟨a4, sl, c4, sd⟩⟩) 90)
        have hza : (w3.alloc (.cells #[.int .i64 (k : Nat), .string (str cn), .slice a4 sl c4] 90)).heap.size = w3.heap.size + 1 := by simp
        unfold Sl.val at HSR
        simp only at HSR
        clear hb3 own3 hba hhb HS HP1 HR0
        go_wp2_with (at_builtin; refine wpl_append3 tyP rfl _ _ rfl HPA.out.own HSR.out rfl rfl (by omega) (by omega) (by simp; omega) ?_)
        intro v9 w9 own9 ch9 bk9
        have HLT9 : Hid (∀ g, u5.ownBlock = some g → w.heap.size ≤ g) := Lib.hid (fun g hg => (HLT.out g hg).1)
        have HP9 := Lib.hid (HPA.out.push (c := (k, ⟨cn, ⟨a4, sl, c4, sd⟩⟩)) HOA.out HDJ.out own9 ch9 (fun g hg => (bk9 g hg).imp id (fun h => by rw [hza]; exact h)))
        have HB9 : Hid (Below w.heap.size w w9) := Lib.hid (HBA2.out.trans (ch9.below HBA2.out.size (fun g hg => HLT9.out g hg)))
        have HI9 := Lib.hid (HIY.out ⟨cn, ⟨a4, sl, c4, sd⟩⟩ trivial rfl rfl)
        clear own9 ch9 bk9
        go_wp2
        go_roundw
        case rel => exact ⟨k + 1, _, by omega, by go_num, HI9, HP9, HB9⟩
        case measure => simp [intOf]; omega
    · have hkl : len = k := by omega
      subst hkl
      have HI2 : Hid (PlIs l nm l.length ms) := Lib.hid (by rw [HL.out]; exact HI.out)
      clear HI hlt
      go_wp2
      go_ret
      exact ⟨_, ms, rfl, HP.out, HI2.out, HB.out⟩
end Go.Proofs.Ytfhmmlpcdgcmoaa
