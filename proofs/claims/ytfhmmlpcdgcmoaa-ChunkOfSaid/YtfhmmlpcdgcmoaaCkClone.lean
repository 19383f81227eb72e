/- chunk.clone: its contract. -/
import Derived.Test.YtfhmmlpcdgcmoaaCkApp
import Derived.Test.YtfhmmlpcdgcmoaaStepApp3
import Derived.Deep.RegionHeld3
namespace Go.Proofs.Ytfhmmlpcdgcmoaa
open Go.RowKit

theorem clone_results (tmps : Array Value) (W : World) (cb : Nat) (x y : Value) (h2 : tmps.getD 2 undef = .pointer (some ⟨cb, 0, none⟩)) (hrow : W.heap[cb]? = some (.cells #[x, y] 52 (0, 0))) :
    (results Try.f50 tmps).run Try.prog W = .ok (.agg #[x, y]) W :=
  results_cell_row (fn := Try.f50) (p := 2) rfl tmps W cb _ _ (0, 0) _ h2 hrow Try.underlying52 rfl (by kernel_rfl)
theorem row_2 {w : World} {g : Nat} {a b : Value} {t : TypeId} (h : w.heap[g]? = some (.cells #[a, b] t (0, 0))) (x y : Value) : ((w.setCell ⟨g, 0, none⟩ x).setCell ⟨g, 1, none⟩ y).heap[g]? = some (.cells #[x, y] t (0, 0)) :=
  heap_setCell_same (w.setCell ⟨g, 0, none⟩ x) g 1 _ _ _ (heap_setCell_same w g 0 _ _ _ h)
/-- A chunk with data of its own. -/
def ClPost (w : World) (nm : List UInt8) (n : Nat) (d : List UInt8) (e : Ending) (w' : World) : Prop :=
  ∃ v, e = .returned (.agg #[.string (str nm), v]) ∧ w'.ownsRow w.heap.size 5 1 v n (bvs d) ∧ Below w.heap.size w w'
set_option maxRecDepth 100000 in
set_option maxHeartbeats 4000000 in
theorem clone_any (w : World) (nm : List UInt8) (sa : Option Addr) (sl sc : Nat) (sd : List UInt8) (hs : Bs w sa sl sc sd) (hl : sl ≤ 140737488355328) :
    Calls Try.prog 50 #[.agg #[.string (str nm), .slice sa sl sc]] w (ClPost w nm sl sd) := by
  have hle := hs.hle
  have hb2 := below_alloc2 w (.cells #[.string (str nm), .slice sa sl sc] 52) (.cells #[.string { data := #[] }, .slice none 0 0] 52)
  have r0 := heap_alloc2_old w (.cells #[.string (str nm), .slice sa sl sc] 52) (.cells #[.string { data := #[] }, .slice none 0 0] 52)
  have r1 := heap_alloc2_new w (.cells #[.string (str nm), .slice sa sl sc] 52) (.cells #[.string { data := #[] }, .slice none 0 0] 52)
  have HS := Lib.hid (hs.mono hb2)
  clear hs
  go_enter Try.func50, Try.ntmps50
  go_wp2_with fail
  revert HS hb2 r0 r1
  generalize ((w.alloc (.cells #[.string (str nm), .slice sa sl sc] 52)).alloc (.cells #[.string { data := #[] }, .slice none 0 0] 52)) = w2
  intro hb2 r0 r1 HS
  have hz2 := hb2.size
  have hlt0 := (Array.getElem?_eq_some_iff.1 r0).1
  have hlt1 := (Array.getElem?_eq_some_iff.1 r1).1
  have c0 : w2.cell? ⟨w.heap.size, 0, none⟩ = some (.string (str nm)) := by rw [cell_of_row _ _ 0 _ _ (0, 0) r0]; rfl
  have c1 : w2.cell? ⟨w.heap.size, 1, none⟩ = some (.slice sa sl sc) := by rw [cell_of_row _ _ 1 _ _ (0, 0) r0]; rfl
  have HR0 := Lib.hid r0
  have HR1 := Lib.hid r1
  have HB2 := Lib.hid hb2
  have HSD : Hid (Bs w2.drew sa sl sc sd) := Lib.hid (HS.out.mono ((Below.refl _ w2).drew))
  have hb2d : Below w.heap.size w w2.drew := hb2.drew
  have HB2D := Lib.hid hb2d
  clear r0 r1 hb2 hb2d
  go_region_held3 (fun w' => w'.cell? ⟨w.heap.size, 0, none⟩ = some (.string (str nm)) ∧ w'.cell? ⟨w.heap.size, 1, none⟩ = some (.slice sa sl sc)) (first | (with_reducible exact ⟨c0, c1⟩) | (with_reducible exact ⟨t0, t1⟩) | (with_reducible exact ⟨s0, s1⟩) | go_keep)
    (first
      | (refine step_app3 tyB rfl _ _ rfl (World.ownsRow_nil w2.drew w.heap.size 5 1) HSD.out.src rfl rfl (by omega) (by omega) hz2 ?_; intro v3 w3 own3 ch3 fr3; simp only [Nat.zero_add, List.nil_append] at own3; have hbx : Below w2.heap.size w2 w3 := ((Below.refl _ w2).drew).trans (ch3.below (Nat.le_refl _) (fun k hk => by simp [Value.ownBlock] at hk)); have HO3 := Lib.hid own3; have HB3 := Lib.hid (HB2.out.trans (hbx.mono hz2)); have q0 := (hbx.block _ hlt0).trans HR0.out; have q1 := (hbx.block _ hlt1).trans HR1.out; have t0 : w3.cell? ⟨w.heap.size, 0, none⟩ = some (.string (str nm)) := (cell_of_row _ _ 0 _ _ (0, 0) q0).trans rfl; have t1 : w3.cell? ⟨w.heap.size, 1, none⟩ = some (.slice sa sl sc) := (cell_of_row _ _ 1 _ _ (0, 0) q0).trans rfl; have y0 : w3.cell? ⟨w.heap.size + 1, 0, none⟩ = some (.string { data := #[] }) := (cell_of_row _ _ 0 _ _ (0, 0) q1).trans rfl; have y1 : w3.cell? ⟨w.heap.size + 1, 1, none⟩ = some (.slice none 0 0) := (cell_of_row _ _ 1 _ _ (0, 0) q1).trans rfl; have f0 := frozen_of_row w3 (w.heap.size + 1) 0 _ _ q1; have f1 := frozen_of_row w3 (w.heap.size + 1) 1 _ _ q1; obtain ⟨a3, c3, e3, _⟩ := own_slice own3; subst e3; have s0 : ((w3.setCell ⟨w.heap.size + 1, 0, none⟩ (.string (str nm))).setCell ⟨w.heap.size + 1, 1, none⟩ (.slice a3 sl c3)).cell? ⟨w.heap.size, 0, none⟩ = some (.string (str nm)) := by rw [cell_set_other (by omega), cell_set_other (by omega)]; exact t0
         have s1 : ((w3.setCell ⟨w.heap.size + 1, 0, none⟩ (.string (str nm))).setCell ⟨w.heap.size + 1, 1, none⟩ (.slice a3 sl c3)).cell? ⟨w.heap.size, 1, none⟩ = some (.slice sa sl sc) := by rw [cell_set_other (by omega), cell_set_other (by omega)]; exact t1
         have HQ1 := Lib.hid (row_2 q1 (.string (str nm)) (.slice a3 sl c3)); have HFR : Hid (∀ k, (Value.slice a3 sl c3).ownBlock = some k → w.heap.size + 1 < k) := Lib.hid (fun k hk => (fr3 k hk).elim (fun h => by simp [Value.ownBlock] at h) (fun h => Nat.lt_of_lt_of_le hlt1 h)); clear own3 ch3 fr3 hbx q0 q1)
      | fail)
  have hch : Ch w3 ((w3.setCell ⟨w.heap.size + 1, 0, none⟩ (.string (str nm))).setCell ⟨w.heap.size + 1, 1, none⟩ (.slice a3 sl c3)) (fun k => k = w.heap.size + 1) := ((Ch.refl w3 (fun k => k = w.heap.size + 1)).set (p := ⟨w.heap.size + 1, 0, none⟩) (.inl rfl) _).set (p := ⟨w.heap.size + 1, 1, none⟩) (.inl rfl) _
  have HO4 := Lib.hid (hch.own HO3.out (fun g hg e => by have := HFR.out g hg; omega))
  have HB4 : Hid (Below w.heap.size w ((w3.setCell ⟨w.heap.size + 1, 0, none⟩ (.string (str nm))).setCell ⟨w.heap.size + 1, 1, none⟩ (.slice a3 sl c3))) := Lib.hid ((HB3.out.setCell (p := ⟨w.heap.size + 1, 0, none⟩) (by simp) _).setCell (p := ⟨w.heap.size + 1, 1, none⟩) (by simp) _)
  clear hch s0 s1 t0 t1 y0 y1 f0 f1 c0 c1 HO3
  go_wp2
  exact bodyPost_ret (clone_results _ _ _ _ _ rfl HQ1.out) rfl ⟨_, rfl, HO4.out, HB4.out⟩
end Go.Proofs.Ytfhmmlpcdgcmoaa
