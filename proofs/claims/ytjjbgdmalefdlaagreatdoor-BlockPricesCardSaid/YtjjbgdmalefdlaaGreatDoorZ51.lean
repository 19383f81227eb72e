/- block's pen: match, head, header: their contracts. block's pen: header: its contract. -/
import Derived.Test.YtjjbgdmalefdlaaGreatDoorZ36
import Derived.Test.YtjjbgdmalefdlaaGreatDoorZ50
set_option linter.unusedSimpArgs false
set_option linter.unusedVariables false
section
namespace Go.Proofs.YtjjbgdmalefdlaaGreatDoor
open Go.RowKit

namespace Bc
/-- A call on a pen whose post is known, behind another one. -/
theorem PPost.then {w w1 : World} {B gp g : Nat} {v : Value} {l l1 l2 : List Bool} {e e' : Ending} {w2 : World} (h : PPost w B gp g v l1 e w1) (h2 : ∀ v', Pn w1 B gp g v' l1 → PPost w1 B gp g v' l2 e' w2) : PPost w B gp g v l2 e' w2 := by
  obtain ⟨_, v1, p1, c1, f1⟩ := h
  exact PPost.trans p1 c1 f1 (h2 v1 p1)
def headB (kind : Nat) (last : Bool) : List Bool := Bt.dg false (if last then 1 else 0) 1 ++ Bt.dg false kind 2
set_option maxHeartbeats 1000000 in
theorem head_any (w : World) (B gp g : Nat) (v : Value) (l : List Bool) (kind : Nat) (last : Bool) (h : Pn w B gp g v l) (hB : B ≤ w.heap.size) (hk : kind ≤ 2) (hl : l.length ≤ 900000000000) :
    Calls Tryz.prog 34 #[.pointer (some ⟨gp, 0, none⟩), .int .i64 (kind : Nat), .bool last] w (PPost w B gp g v (l ++ headB kind last)) := by
  cases last
  · have HN := Lib.hid (number_any w B gp g v l 0 1 h hB (by omega) (by omega) (by omega))
    have HBB := Lib.hid hB
    clear h
    go_enter Tryz.func34, Tryz.ntmps34
    go_wp2_with fail
    refine HN.out.mono ?_
    rintro e w1 ⟨rfl, v1, p1, c1, f1⟩
    have HN2 := Lib.hid (number_any w1 B gp g v1 _ kind 2 p1 (Nat.le_trans hB c1.size) (by omega) (by have : (2 : Nat) ^ 2 = 4 := rfl; omega) (by rw [List.length_append, Bt.dg_length]; omega))
    have HP1 := Lib.hid (And.intro p1 (And.intro c1 f1))
    clear p1 c1 f1 HN
    go_wp2_with fail
    refine HN2.out.mono ?_
    rintro e w2 hpp
    have HF : Hid (PPost w B gp g v (l ++ headB kind false) e w2) := Lib.hid (by
      have e1 : l ++ headB kind false = l ++ Bt.dg false 0 1 ++ Bt.dg false kind 2 := by unfold headB; rw [← List.append_assoc]; rfl
      rw [e1]
      exact PPost.trans HP1.out.1 HP1.out.2.1 HP1.out.2.2 hpp)
    obtain ⟨he, _⟩ := hpp
    subst he
    clear HN2 HP1
    go_wp2
    go_end0
    exact HF.out
  · have HN := Lib.hid (number_any w B gp g v l 1 1 h hB (by omega) (by omega) (by omega))
    have HBB := Lib.hid hB
    clear h
    go_enter Tryz.func34, Tryz.ntmps34
    go_wp2_with fail
    refine HN.out.mono ?_
    rintro e w1 ⟨rfl, v1, p1, c1, f1⟩
    have HN2 := Lib.hid (number_any w1 B gp g v1 _ kind 2 p1 (Nat.le_trans hB c1.size) (by omega) (by have : (2 : Nat) ^ 2 = 4 := rfl; omega) (by rw [List.length_append, Bt.dg_length]; omega))
    have HP1 := Lib.hid (And.intro p1 (And.intro c1 f1))
    clear p1 c1 f1 HN
    go_wp2_with fail
    refine HN2.out.mono ?_
    rintro e w2 hpp
    have HF : Hid (PPost w B gp g v (l ++ headB kind true) e w2) := Lib.hid (by
      have e1 : l ++ headB kind true = l ++ Bt.dg false 1 1 ++ Bt.dg false kind 2 := by unfold headB; rw [← List.append_assoc]; rfl
      rw [e1]
      exact PPost.trans HP1.out.1 HP1.out.2.1 HP1.out.2.2 hpp)
    obtain ⟨he, _⟩ := hpp
    subst he
    clear HN2 HP1
    go_wp2
    go_end0
    exact HF.out
set_option maxRecDepth 100000 in
set_option maxHeartbeats 2000000 in
theorem match_any (k : Kd) (w : World) (B gp g : Nat) (v : Value) (l : List Bool) (a : Option Addr) (n c : Nat) (b : Option Addr) (m d gb : Nat) (L : List Int) (D : Nat → Prop) (s : Int) (z : Nat) (h : Pn w B gp g v l) (hB : B ≤ w.heap.size) (hbw : Bw w D gb L) (hL : L.length ≤ 600)
    (hsd : Sd L s) (hz1 : (bse k s).1 ≤ z) (hz : z - (bse k s).1 < 2 ^ xt k s) (hz3 : z ≤ 1000000) (hws : (Lit.int .i64 s).wf = true) (hl : l.length ≤ 900000000000) :
    Calls Tryz.prog 62 #[.pointer (some ⟨gp, 0, none⟩), tbV a n c b m d gb k, .int .i64 s, .int .i64 (z : Nat)] w (PPost w B gp g v (l ++ mtB k L s z)) := by
  have HBS := Lib.hid (And.intro (rfl : (bse k s).1 = (bse k s).1) hz1)
  have HX : Hid (mtB k L s z = syB k L s (z - (bse k s).1)) := Lib.hid rfl
  have HBL := Lib.hid (bse_le k s).1
  have HW := Lib.hid hws
  cases k
  · have hal := below_alloc w (.cells #[.slice a n c, .slice b m d, .pointer (some ⟨gb, 0, none⟩), .func (.func 77) #[] #[]] 84)
    have HRW := Lib.hid (heap_alloc_last w (.cells #[.slice a n c, .slice b m d, .pointer (some ⟨gb, 0, none⟩), .func (.func 77) #[] #[]] 84))
    have HSY := symbol_any .lit (w.alloc (.cells #[.slice a n c, .slice b m d, .pointer (some ⟨gb, 0, none⟩), .func (.func 77) #[] #[]] 84)) B gp g v l a n c b m d gb L D s (z - (bse .lit s).1) (h.mono hal) (Nat.le_trans hB hal.size) (hbw.mono hal) hL hsd hz hws hl
    unfold tbV fvK at HSY
    have HS := Lib.hid HSY
    have HAL := Lib.hid hal
    unfold tbV fvK
    clear h hbw hsd hz hal HSY hz1
    have c3 := cell_of_row _ _ 3 _ _ (0, 0) HRW.out
    have c0 := cell_of_row _ _ 0 _ _ (0, 0) HRW.out
    have c1 := cell_of_row _ _ 1 _ _ (0, 0) HRW.out
    have c2 := cell_of_row _ _ 2 _ _ (0, 0) HRW.out
    simp only [List.getElem?_toArray, List.getElem?_cons_zero, List.getElem?_cons_succ] at c0 c1 c2 c3
    go_enter Tryz.func62, Tryz.ntmps62
    go_wp2_with fail
    refine (lbase_any s _ HW.out).mono ?_
    rintro e w1 ⟨rfl, rfl⟩
    unfold bval
    have hle := HBS.out.2
    have hb2 := HBL.out
    clear HBS HBL
    generalize (bse .lit s).1 = bs at *
    have hfold : (z : Int) - (bs : Int) = ((z - bs : Nat) : Int) := by omega
    go_wp2_with fail
    refine HS.out.mono ?_
    rintro e w2 hpp
    have HF : Hid (PPost w B gp g v (l ++ mtB .lit L s z) e w2) := Lib.hid (by rw [HX.out]; exact hpp.below HAL.out)
    obtain ⟨he, _⟩ := hpp
    subst he
    clear HS
    go_wp2
    go_end0
    exact HF.out
  · have hal := below_alloc w (.cells #[.slice a n c, .slice b m d, .pointer (some ⟨gb, 0, none⟩), .func (.func 78) #[] #[]] 84)
    have HRW := Lib.hid (heap_alloc_last w (.cells #[.slice a n c, .slice b m d, .pointer (some ⟨gb, 0, none⟩), .func (.func 78) #[] #[]] 84))
    have HSY := symbol_any .dst (w.alloc (.cells #[.slice a n c, .slice b m d, .pointer (some ⟨gb, 0, none⟩), .func (.func 78) #[] #[]] 84)) B gp g v l a n c b m d gb L D s (z - (bse .dst s).1) (h.mono hal) (Nat.le_trans hB hal.size) (hbw.mono hal) hL hsd hz hws hl
    unfold tbV fvK at HSY
    have HS := Lib.hid HSY
    have HAL := Lib.hid hal
    unfold tbV fvK
    clear h hbw hsd hz hal HSY hz1
    have c3 := cell_of_row _ _ 3 _ _ (0, 0) HRW.out
    have c0 := cell_of_row _ _ 0 _ _ (0, 0) HRW.out
    have c1 := cell_of_row _ _ 1 _ _ (0, 0) HRW.out
    have c2 := cell_of_row _ _ 2 _ _ (0, 0) HRW.out
    simp only [List.getElem?_toArray, List.getElem?_cons_zero, List.getElem?_cons_succ] at c0 c1 c2 c3
    go_enter Tryz.func62, Tryz.ntmps62
    go_wp2_with fail
    refine (dbase_any s _ HW.out).mono ?_
    rintro e w1 ⟨rfl, rfl⟩
    unfold bval
    have hle := HBS.out.2
    have hb2 := HBL.out
    clear HBS HBL
    generalize (bse .dst s).1 = bs at *
    have hfold : (z : Int) - (bs : Int) = ((z - bs : Nat) : Int) := by omega
    go_wp2_with fail
    refine HS.out.mono ?_
    rintro e w2 hpp
    have HF : Hid (PPost w B gp g v (l ++ mtB .dst L s z) e w2) := Lib.hid (by rw [HX.out]; exact hpp.below HAL.out)
    obtain ⟨he, _⟩ := hpp
    subst he
    clear HS
    go_wp2
    go_end0
    exact HF.out
  · have hal := below_alloc w (.cells #[.slice a n c, .slice b m d, .pointer (some ⟨gb, 0, none⟩), .func (.func 88) #[] #[]] 84)
    have HRW := Lib.hid (heap_alloc_last w (.cells #[.slice a n c, .slice b m d, .pointer (some ⟨gb, 0, none⟩), .func (.func 88) #[] #[]] 84))
    have HSY := symbol_any .run (w.alloc (.cells #[.slice a n c, .slice b m d, .pointer (some ⟨gb, 0, none⟩), .func (.func 88) #[] #[]] 84)) B gp g v l a n c b m d gb L D s (z - (bse .run s).1) (h.mono hal) (Nat.le_trans hB hal.size) (hbw.mono hal) hL hsd hz hws hl
    unfold tbV fvK at HSY
    have HS := Lib.hid HSY
    have HAL := Lib.hid hal
    unfold tbV fvK
    clear h hbw hsd hz hal HSY hz1
    have c3 := cell_of_row _ _ 3 _ _ (0, 0) HRW.out
    have c0 := cell_of_row _ _ 0 _ _ (0, 0) HRW.out
    have c1 := cell_of_row _ _ 1 _ _ (0, 0) HRW.out
    have c2 := cell_of_row _ _ 2 _ _ (0, 0) HRW.out
    simp only [List.getElem?_toArray, List.getElem?_cons_zero, List.getElem?_cons_succ] at c0 c1 c2 c3
    go_enter Tryz.func62, Tryz.ntmps62
    go_wp2_with fail
    refine (rbase_any s _).mono ?_
    rintro e w1 ⟨rfl, rfl⟩
    unfold bval
    have hle := HBS.out.2
    have hb2 := HBL.out
    clear HBS HBL
    generalize (bse .run s).1 = bs at *
    have hfold : (z : Int) - (bs : Int) = ((z - bs : Nat) : Int) := by omega
    go_wp2_with fail
    refine HS.out.mono ?_
    rintro e w2 hpp
    have HF : Hid (PPost w B gp g v (l ++ mtB .run L s z) e w2) := Lib.hid (by rw [HX.out]; exact hpp.below HAL.out)
    obtain ⟨he, _⟩ := hpp
    subst he
    clear HS
    go_wp2
    go_end0
    exact HF.out
end Bc
end Go.Proofs.YtjjbgdmalefdlaaGreatDoor
end

section
namespace Go.Proofs.YtjjbgdmalefdlaaGreatDoor
open Go.RowKit

namespace Bc
def fl {α : Type} (f : α → List Bool) (xs : List α) (k : Nat) : List Bool := (xs.take k).flatMap f
theorem fl_next {α : Type} (f : α → List Bool) (xs : List α) (k : Nat) (d : α) (h : k < xs.length) : fl f xs (k + 1) = fl f xs k ++ f (xs.getD k d) := by
  unfold fl
  rw [List.take_succ_eq_append_getElem h, List.flatMap_append]
  simp [List.getD, List.getElem?_eq_getElem h]
theorem fl_all {α : Type} (f : α → List Bool) (xs : List α) : fl f xs xs.length = xs.flatMap f := by unfold fl; rw [List.take_length]
theorem fl_le {α : Type} (f : α → List Bool) (xs : List α) (d : α) (c : Nat) (hc : ∀ i, i < xs.length → (f (xs.getD i d)).length ≤ c) : ∀ k, k ≤ xs.length → (fl f xs k).length ≤ c * k
  | 0, _ => by simp [fl]
  | k + 1, h => by
    have ih := fl_le f xs d c hc k (by omega)
    have := hc k (by omega)
    rw [fl_next f xs k d (by omega), List.length_append, Nat.mul_succ]
    omega
theorem _root_.Go.Proofs.YtjjbgdmalefdlaaGreatDoor.Ts2.kept0 {w w' : World} {T : Nat → Prop} {a : Option Addr} {len cap : Nat} {l : List Tok} (h : Ts2 w a len cap l) (c : Ch w w' T) (hn : 0 < len → ∀ ad, a = some ad → ¬ T ad.block) : Ts2 w' a len cap l :=
  ⟨h.hlen, h.hle, h.hnil, fun i hi => by
    obtain ⟨b, off, e, hlt, c0, c1⟩ := h.at' i hi
    have hb := c.block b hlt (hn (by omega) _ e)
    exact ⟨b, off, e, Nat.lt_of_lt_of_le hlt c.size, by rw [World.cell?_of_block (w := w) hb]; exact c0, by rw [World.cell?_of_block (w := w) hb]; exact c1⟩, h.wf⟩
theorem _root_.Go.Proofs.YtjjbgdmalefdlaaGreatDoor.Is.kept0 {w w' : World} {T : Nat → Prop} {a : Option Addr} {len cap : Nat} {l : List Int} (h : Is .i64 w a len cap l) (c : Ch w w' T) (hn : 0 < len → ∀ ad, a = some ad → ¬ T ad.block) : Is .i64 w' a len cap l :=
  ⟨h.hlen, h.hle, h.hnil, fun i hi => by
    obtain ⟨b, off, e, hlt, hc⟩ := h.at' i hi
    exact ⟨b, off, e, Nat.lt_of_lt_of_le hlt c.size, by rw [World.cell?_of_block (w := w) (c.block b hlt (hn (by omega) _ e))]; exact hc⟩, h.wf⟩
/-- The header in memory, in a zone. -/
def HdZ (w : World) (D : Nat → Prop) (hb : Nat) (h : Hd) : Prop :=
  ∃ ra rcap oa oc ca cc la m d g, w.heap[hb]? = some (.cells #[.int .i64 (h.ll.length : Nat), .int .i64 (h.dl.length : Nat), .slice ra h.rs.length rcap, .slice ca 19 cc, .slice la m d, .pointer (some ⟨g, 0, none⟩), .func (.func 88) #[] #[], .slice oa h.own.length oc] 137 (0, 0)) ∧
    Ts2 w ra h.rs.length rcap h.rs ∧ (0 < h.rs.length → ∀ ad, ra = some ad → D ad.block) ∧ Is .i64 w oa h.own.length oc h.own ∧ (0 < h.own.length → ∀ ad, oa = some ad → D ad.block) ∧ Bw w D g h.R ∧ D hb
theorem hdZ_of {w : World} {B hb : Nat} {h : Hd} (H : HdIs w B hb h) : HdZ w (fun j => B ≤ j ∧ j < w.heap.size) hb h := by
  obtain ⟨ra, rcap, oa, oc, ca, cc, la, m, d, g, hrow, h1, h2, h3, h4, h5, h6, h7, h8⟩ := H
  refine ⟨ra, rcap, oa, oc, ca, cc, la, m, d, g, hrow, h1, fun hn ad e => ⟨h2 ad e, ?_⟩, h3, fun hn ad e => ⟨h4 ad e, h3.blk hn ad e⟩, h7.here, h8, (Array.getElem?_eq_some_iff.1 hrow).1⟩
  obtain ⟨b, off, e1, hlt, _⟩ := h1.at' 0 hn
  rw [e1] at e
  obtain rfl := Option.some.inj e
  exact hlt
theorem HdZ.kept {w w' : World} {D T : Nat → Prop} {hb : Nat} {h : Hd} (H : HdZ w D hb h) (c : Ch w w' T) (hD : ∀ k, D k → ¬ T k) : HdZ w' D hb h := by
  obtain ⟨ra, rcap, oa, oc, ca, cc, la, m, d, g, hrow, h1, h2, h3, h4, h5, h6⟩ := H
  exact ⟨ra, rcap, oa, oc, ca, cc, la, m, d, g, (c.block hb (Array.getElem?_eq_some_iff.1 hrow).1 (hD _ h6)).trans hrow, h1.kept0 c (fun hn ad e => hD _ (h2 hn ad e)), h2, h3.kept0 c (fun hn ad e => hD _ (h4 hn ad e)), h4, h5.kept c hD, h6⟩
/-- A header that can be written. -/
structure HdW (h : Hd) : Prop where
  hl : 257 ≤ h.ll.length ∧ h.ll.length - 257 < 32
  hd : 1 ≤ h.dl.length ∧ h.dl.length - 1 < 32
  ho : 4 ≤ h.own.length ∧ h.own.length ≤ 19
  hov : ∀ i, i < h.own.length → 0 ≤ h.own.getD i 0 ∧ h.own.getD i 0 < 8
  hr : h.rs.length ≤ 600
  hrv : ∀ i, i < h.rs.length → Sd h.R (h.rs.getD i (0, 0)).1 ∧ 0 ≤ (h.rs.getD i (0, 0)).2 ∧ (h.rs.getD i (0, 0)).2.toNat < 2 ^ xt .run (h.rs.getD i (0, 0)).1
  hR : h.R.length = 19
theorem syB_le {k : Kd} {L : List Int} {s : Int} {z : Nat} (h : Sd L s) : (syB k L s z).length ≤ 29 := by
  unfold syB wd
  rw [List.length_append, Bt.dg_length, Bt.dg_length]
  have := h.2.1
  have := xt_le k s
  omega
theorem PPost.pn {w w1 : World} {B gp g : Nat} {v : Value} {l : List Bool} {e : Ending} (h : PPost w B gp g v l e w1) : ∃ v1, Pn w1 B gp g v1 l ∧ Ch w w1 (Pt gp g v) ∧ ∀ k, v1.ownBlock = some k → v.ownBlock = some k ∨ w.heap.size ≤ k := h.2
set_option maxRecDepth 100000 in
set_option maxHeartbeats 4000000 in
theorem pheader_any (w : World) (B gp g : Nat) (v : Value) (l : List Bool) (hb : Nat) (h : Hd) (D : Nat → Prop) (hp : Pn w B gp g v l) (hB : B ≤ w.heap.size) (H : HdZ w D hb h) (hD : ∀ k, D k → ¬ Pt gp g v k) (hk : HdW h) (hl : l.length ≤ 800000000000) :
    Calls Tryz.prog 60 #[.pointer (some ⟨gp, 0, none⟩), .pointer (some ⟨hb, 0, none⟩)] w (PPost w B gp g v (l ++ hdBits h)) := by
  obtain ⟨ra, rcap, oa, oc, ca, cc, la, m, d, gb, hrow, hra, hrD, hoa, hoD, hbw, hDb⟩ := H
  have HK : Hid (∀ w', Ch w w' (Pt gp g v) → w'.heap[hb]? = some (.cells #[.int .i64 (h.ll.length : Nat), .int .i64 (h.dl.length : Nat), .slice ra h.rs.length rcap, .slice ca 19 cc, .slice la m d, .pointer (some ⟨gb, 0, none⟩), .func (.func 88) #[] #[], .slice oa h.own.length oc] 137 (0, 0)) ∧
      Ts2 w' ra h.rs.length rcap h.rs ∧ Is .i64 w' oa h.own.length oc h.own ∧ Bw w' D gb h.R) := Lib.hid (fun w' c =>
    ⟨(c.block hb (Array.getElem?_eq_some_iff.1 hrow).1 (hD _ hDb)).trans hrow, hra.kept0 c (fun hn ad e => hD _ (hrD hn ad e)), hoa.kept0 c (fun hn ad e => hD _ (hoD hn ad e)), hbw.kept c hD⟩)
  have HQ : Hid (hb < w.heap.size) := Lib.hid (Array.getElem?_eq_some_iff.1 hrow).1
  obtain ⟨⟨l1, l2⟩, ⟨d1, d2⟩, ⟨o1, o2⟩, hov, hr6, hrv, hR⟩ := hk
  have HOV := Lib.hid hov
  have HRV := Lib.hid hrv
  have HR := Lib.hid hR
  have HDB := Lib.hid (And.intro hD hDb)
  obtain ⟨X1, hX1⟩ : ∃ X1, X1 = Bt.dg false (h.ll.length - 257) 5 := ⟨_, rfl⟩
  obtain ⟨X2, hX2⟩ : ∃ X2, X2 = Bt.dg false (h.dl.length - 1) 5 := ⟨_, rfl⟩
  obtain ⟨X3, hX3⟩ : ∃ X3, X3 = Bt.dg false (h.own.length - 4) 4 := ⟨_, rfl⟩
  have HBITS : Hid (l ++ hdBits h = l ++ X1 ++ X2 ++ X3 ++ fl (fun x => Bt.dg false x.toNat 3) h.own h.own.length ++ fl (fun t => syB .run h.R t.1 t.2.toNat) h.rs h.rs.length) := Lib.hid (by
    rw [fl_all, fl_all, hX1, hX2, hX3]; unfold hdBits; simp only [List.append_assoc])
  have HFO := Lib.hid (fl_le (fun x : Int => Bt.dg false x.toNat 3) h.own 0 3 (fun i _ => by simp [Bt.dg_length]))
  have HFR := Lib.hid (fl_le (fun t : Tok => syB .run h.R t.1 t.2.toNat) h.rs (0, 0) 29 (fun i hi => syB_le (hrv i hi).1))
  have HNO := Lib.hid (fun k (hk : k < h.own.length) => fl_next (fun x : Int => Bt.dg false x.toNat 3) h.own k 0 hk)
  have HNR := Lib.hid (fun k (hk : k < h.rs.length) => fl_next (fun t : Tok => syB .run h.R t.1 t.2.toNat) h.rs k (0, 0) hk)
  have HX1 : Hid (X1.length = 5) := Lib.hid (by rw [hX1, Bt.dg_length])
  have HX2 : Hid (X2.length = 5) := Lib.hid (by rw [hX2, Bt.dg_length])
  have HX3 : Hid (X3.length = 4) := Lib.hid (by rw [hX3, Bt.dg_length])
  have HN1 := Lib.hid (number_any w B gp g v l (h.ll.length - 257) 5 hp hB (by omega) l2 (by omega))
  rw [← hX1] at HN1
  have HC2 := Lib.hid hX2
  have HC3 := Lib.hid hX3
  clear hX1 hX2 hX3 hrow hra hrD hoa hoD hbw hDb hov hrv hR hp hD
  have hs0 := (HK.out w (Ch.refl _ _)).1
  have c0 := cell_of_row _ _ 0 _ _ (0, 0) hs0
  simp only [List.getElem?_toArray, List.getElem?_cons_zero, List.getElem?_cons_succ] at c0
  clear hs0
  generalize h.ll.length = nl at *
  generalize h.dl.length = nd at *
  generalize h.own.length = no at *
  generalize h.rs.length = nr at *
  obtain ⟨Y, hY⟩ : ∃ Y, Y = l ++ hdBits h := ⟨_, rfl⟩
  rw [← hY]
  have HY := Lib.hid hY
  clear hY
  have hf1 : (nl : Int) - 257 = ((nl - 257 : Nat) : Int) := by omega
  go_enter Tryz.func60, Tryz.ntmps60
  go_wp2_with fail
  refine HN1.out.mono ?_
  rintro e w1 hp1
  have HP1 := Lib.hid hp1
  obtain ⟨rfl, v1, q1, c1, f1⟩ := hp1
  have hs1 := (HK.out w1 c1).1
  have b1 := cell_of_row _ _ 1 _ _ (0, 0) hs1
  simp only [List.getElem?_toArray, List.getElem?_cons_zero, List.getElem?_cons_succ] at b1
  have HN2 := Lib.hid (number_any w1 B gp g v1 _ (nd - 1) 5 q1 (Nat.le_trans hB c1.size) (by omega) d2 (by rw [List.length_append, HX1.out]; omega))
  rw [← HC2.out] at HN2
  have HT1 : Hid (∀ l2 e w2, PPost w1 B gp g v1 l2 e w2 → PPost w B gp g v l2 e w2) := Lib.hid (fun l2 e w2 hp => PPost.trans q1 c1 f1 hp)
  clear q1 c1 f1 hs1 HN1 HP1 hf1 c0
  have hf2 : (nd : Int) - 1 = ((nd - 1 : Nat) : Int) := by omega
  go_wp2_with fail
  refine HN2.out.mono ?_
  rintro e w2 hp2
  have hp2 := HT1.out _ _ _ hp2
  obtain ⟨rfl, v2, q2, c2, f2⟩ := hp2
  have hs2 := (HK.out w2 c2).1
  have b7 := cell_of_row _ _ 7 _ _ (0, 0) hs2
  simp only [List.getElem?_toArray, List.getElem?_cons_zero, List.getElem?_cons_succ] at b7
  have HN3 := Lib.hid (number_any w2 B gp g v2 _ (no - 4) 4 q2 (Nat.le_trans hB c2.size) (by omega) (by omega) (by rw [List.length_append, List.length_append, HX1.out, HX2.out]; omega))
  rw [← HC3.out] at HN3
  have HT2 : Hid (∀ l2 e w3, PPost w2 B gp g v2 l2 e w3 → PPost w B gp g v l2 e w3) := Lib.hid (fun l2 e w3 hp => PPost.trans q2 c2 f2 hp)
  clear q2 c2 f2 hs2 HN2 HT1 hf2 b1
  have hf3 : (no : Int) - 4 = ((no - 4 : Nat) : Int) := by omega
  go_wp2_with fail
  refine HN3.out.mono ?_
  rintro e w3 hp3
  have hp4 := HT2.out _ _ _ hp3
  clear hp3
  obtain ⟨rfl, hp5⟩ := hp4
  have HP3 : Hid (PPost w B gp g v (l ++ X1 ++ X2 ++ X3) (.returned (.tuple #[])) w3) := Lib.hid ⟨rfl, hp5⟩
  obtain ⟨v3, q3, c3, f3⟩ := hp5
  have hs3 := (HK.out w3 c3).1
  have b7' := cell_of_row _ _ 7 _ _ (0, 0) hs3
  simp only [List.getElem?_toArray, List.getElem?_cons_zero, List.getElem?_cons_succ] at b7'
  clear q3 c3 f3 hs3 HN3 HT2 hf3 b7
  go_wp2_with fail
  go_loopw [35] (fun iv wr => ∃ k : Nat, k ≤ no ∧ iv = .int .i64 k ∧ Hid (PPost w B gp g v (l ++ X1 ++ X2 ++ X3 ++ fl (fun x => Bt.dg false x.toNat 3) h.own k) (.returned (.tuple #[])) wr)) (fun iv _ => no - (intOf iv).toNat)
  case atStart => exact ⟨0, by omega, rfl, by simpa [fl] using HP3⟩
  case round =>
    obtain ⟨k, hk, rfl, HP⟩ := hrel
    clear HP3 b7'
    by_cases hlt : k < no
    · obtain ⟨_, v4, q4, c4, f4⟩ := HP.out
      have hI := (HK.out wr c4).2.2.1
      obtain ⟨bo, oo, rfl, _, t0⟩ := hI.at' k hlt
      have hv := HOV.out k hlt
      have hnx := HNO.out k hlt
      have hfo := HFO.out k hk
      clear hI
      generalize h.own.getD k 0 = x at *
      obtain ⟨z, rfl⟩ := Int.eq_ofNat_of_zero_le hv.1
      simp only [Int.toNat_natCast] at hnx
      have HNX := Lib.hid hnx
      have HN4 := Lib.hid (number_any wr B gp g v4 _ z 3 q4 (Nat.le_trans hB c4.size) (by omega) (by have : (2 : Nat) ^ 3 = 8 := rfl; omega) (by rw [List.length_append, List.length_append, List.length_append, List.length_append, HX1.out, HX2.out, HX3.out]; omega))
      have HT4 : Hid (∀ l2 e w3, PPost wr B gp g v4 l2 e w3 → PPost w B gp g v l2 e w3) := Lib.hid (fun l2 e w3 hp => PPost.trans q4 c4 f4 hp)
      clear q4 c4 f4 HP hnx hfo hv
      go_wp2_with fail
      refine HN4.out.mono ?_
      rintro e w5 hp5
      have HP5 : Hid (PPost w B gp g v (l ++ X1 ++ X2 ++ X3 ++ fl (fun x => Bt.dg false x.toNat 3) h.own (k + 1)) e w5) := Lib.hid (by
        have := HT4.out _ _ _ hp5
        rw [HNX.out, ← List.append_assoc]
        exact this)
      obtain ⟨rfl, _⟩ := hp5
      clear HN4 HT4 HNX t0
      go_wp2
      go_roundw
      case rel => exact ⟨k + 1, by omega, by go_num, HP5⟩
      case measure => simp [intOf]; omega
    · obtain rfl : no = k := by omega
      have hfo := HFO.out no hk
      have HZL : Hid ((l ++ X1 ++ X2 ++ X3 ++ fl (fun x => Bt.dg false x.toNat 3) h.own no).length ≤ 800000001000) := Lib.hid (by rw [List.length_append, List.length_append, List.length_append, List.length_append, HX1.out, HX2.out, HX3.out]; omega)
      clear hfo HNO HFO HOV HX1 HX2 HX3 HC2 HC3
      generalize l ++ X1 ++ X2 ++ X3 ++ fl (fun x => Bt.dg false x.toNat 3) h.own no = Z at *
      obtain ⟨_, v4, q4, c4, f4⟩ := HP.out
      have hs4 := (HK.out wr c4).1
      have b2 := cell_of_row _ _ 2 _ _ (0, 0) hs4
      simp only [List.getElem?_toArray, List.getElem?_cons_zero, List.getElem?_cons_succ] at b2
      clear q4 c4 f4 hs4
      go_wp2_with fail
      go_loopw [48] (fun iv wr => ∃ k : Nat, k ≤ nr ∧ iv = .int .i64 k ∧ Hid (PPost w B gp g v (Z ++ fl (fun t => syB .run h.R t.1 t.2.toNat) h.rs k) (.returned (.tuple #[])) wr)) (fun iv _ => nr - (intOf iv).toNat)
      case atStart => exact ⟨0, by omega, rfl, by simpa [fl] using HP⟩
      case round =>
        obtain ⟨k, hk, rfl, HP⟩ := hrel
        clear b2
        by_cases hlt : k < nr
        · obtain ⟨_, v5, q5, c5, f5⟩ := HP.out
          have hk5 := HK.out wr c5
          obtain ⟨br, orr, rfl, _, t0, t1⟩ := hk5.2.1.at' k hlt
          have hr := HRV.out k hlt
          have hwf := hk5.2.1.wf k hlt
          have hnx := HNR.out k hlt
          have hfr := HFR.out k hk
          have hb5 := hk5.2.2.2
          have hs5 := hk5.1
          clear hk5
          generalize h.rs.getD k (0, 0) = tt at *
          obtain ⟨x, y⟩ := tt
          simp only at t0 t1 hr hwf hnx
          obtain ⟨z, rfl⟩ := Int.eq_ofNat_of_zero_le hr.2.1
          rw [Int.toNat_natCast] at hnx hr
          have HNX := Lib.hid hnx
          have hal := below_alloc wr (.cells #[.int .i64 x, .int .i64 (z : Nat)] 132)
          have hrow := heap_alloc_last wr (.cells #[.int .i64 x, .int .i64 (z : Nat)] 132)
          have hbd : Below wr.heap.size wr (wr.alloc (.cells #[.int .i64 x, .int .i64 (z : Nat)] 132)).drew := below_then hal (Below.drew (Below.refl _ _))
          have hsy := symbol_any .run (wr.alloc (.cells #[.int .i64 x, .int .i64 (z : Nat)] 132)).drew B gp g v5 _ ca 19 cc la m d gb h.R D x z (q5.mono hbd) (by have := hbd.size; have := c5.size; omega) (hb5.mono hbd) (by have := HR.out; omega) hr.1 hr.2.2 hwf.1 (by rw [List.length_append]; have := HZL.out; omega : (Z ++ fl (fun t => syB .run h.R t.1 t.2.toNat) h.rs k).length ≤ 900000000000)
          unfold tbV fvK at hsy
          have HSY := Lib.hid hsy
          have HT5 : Hid (∀ l2 e w3, PPost (wr.alloc (.cells #[.int .i64 x, .int .i64 (z : Nat)] 132)).drew B gp g v5 l2 e w3 → PPost w B gp g v l2 e w3) := Lib.hid (fun l2 e w3 hp => PPost.trans q5 c5 f5 (PPost.below hbd hp))
          have HRK : Hid (∀ l2 e w3, PPost (wr.alloc (.cells #[.int .i64 x, .int .i64 (z : Nat)] 132)).drew B gp g v5 l2 e w3 → w3.heap[wr.heap.size]? = some (.cells #[.int .i64 x, .int .i64 (z : Nat)] 132 (0, 0))) := Lib.hid (fun l2 e w3 hp => by
            obtain ⟨_, _, _, c, _⟩ := hp
            exact (c.block wr.heap.size (by show wr.heap.size < (wr.alloc _).heap.size; simp) (fun e => by have := q5.own_lt e; omega)).trans hrow)
          have HS5 := Lib.hid ((hal.block hb (Array.getElem?_eq_some_iff.1 hs5).1).trans hs5)
          have HRW := Lib.hid hrow
          clear hal hrow hbd hsy hs5 hb5 hnx hfr hr hwf q5 c5 f5 HP
          go_wp2_with fail
          clear t0 t1
          revert HSY HT5 HRK HS5 HRW
          generalize wr.alloc (.cells #[.int .i64 x, .int .i64 (z : Nat)] 132) = w5
          generalize wr.heap.size = q
          intro HSY HT5 HRK HS5 HRW
          have e3 := cell_of_row _ _ 3 _ _ (0, 0) HS5.out
          have e4 := cell_of_row _ _ 4 _ _ (0, 0) HS5.out
          have e5 := cell_of_row _ _ 5 _ _ (0, 0) HS5.out
          have e6 := cell_of_row _ _ 6 _ _ (0, 0) HS5.out
          have r0 := cell_of_row _ _ 0 _ _ (0, 0) HRW.out
          have r1 := cell_of_row _ _ 1 _ _ (0, 0) HRW.out
          simp only [List.getElem?_toArray, List.getElem?_cons_zero, List.getElem?_cons_succ] at e3 e4 e5 e6 r0 r1
          go_region_held3 (fun w' => w'.cell? ⟨hb, 3, none⟩ = some (.slice ca 19 cc) ∧ w'.cell? ⟨hb, 4, none⟩ = some (.slice la m d) ∧ w'.cell? ⟨hb, 5, none⟩ = some (.pointer (some ⟨gb, 0, none⟩)) ∧ w'.cell? ⟨hb, 6, none⟩ = some (.func (.func 88) #[] #[]) ∧ w'.cell? ⟨q, 0, none⟩ = some (.int .i64 x) ∧ w'.cell? ⟨q, 1, none⟩ = some (.int .i64 (z : Nat))) (first | (with_reducible exact ⟨s3, s4, s5, s6, y0, y1⟩) | go_keep)
            (first | (go_at_call 61; (with_reducible refine HSY.out.mono ?_); rintro e w6 hpp; have hpq := HT5.out _ _ _ hpp; have hrq := HRK.out _ _ _ hpp; clear hpp; have HPQ : Hid (PPost w B gp g v (Z ++ fl (fun t => syB .run h.R t.1 t.2.toNat) h.rs (k + 1)) e w6) := (Lib.hid (by rw [HNX.out, ← List.append_assoc]; exact hpq)); obtain ⟨rfl, v6, q6, c6, f6⟩ := hpq; have hs6 := (HK.out w6 c6).1; have s3 := (cell_of_row _ _ 3 _ _ (0, 0) hs6); have s4 := (cell_of_row _ _ 4 _ _ (0, 0) hs6); have s5 := (cell_of_row _ _ 5 _ _ (0, 0) hs6); have s6 := (cell_of_row _ _ 6 _ _ (0, 0) hs6); have y0 := (cell_of_row _ _ 0 _ _ (0, 0) hrq); have y1 := (cell_of_row _ _ 1 _ _ (0, 0) hrq); simp only [List.getElem?_toArray, List.getElem?_cons_zero, List.getElem?_cons_succ] at s3 s4 s5 s6 y0 y1; clear q6 c6 f6 hs6 hrq))
          clear e3 e4 e5 e6 r0 r1 s3 s4 s5 s6 y0 y1 HSY HT5 HRK HS5 HRW
          go_wp2
          go_roundw
          case rel => exact ⟨k + 1, by omega, by go_num, HPQ⟩
          case measure => simp [intOf]; omega
        · obtain rfl : nr = k := by omega
          go_wp2
          go_end0
          rw [HY.out, HBITS.out]
          exact HP.out
end Bc
end Go.Proofs.YtjjbgdmalefdlaaGreatDoor
end
