/- block's headers: how many bits; bodies in memory. -/
import Derived.Test.YtpoilaappcjbeaaGreatDoorZ23
set_option linter.unusedSimpArgs false
set_option linter.unusedVariables false
section
namespace Go.Proofs.YtpoilaappcjbeaaGreatDoor
open Go.RowKit

namespace Bc
/-- A header that can be counted. -/
structure HdOk (h : Hd) : Prop where
  hC : ∀ i, 0 ≤ h.C.getD i 0 ∧ h.C.getD i 0 ≤ 1000000000
  hR : ∀ i, 0 ≤ h.R.getD i 0 ∧ h.R.getD i 0 ≤ 16
  hl : h.R.length = 19
  ho : h.own.length ≤ 19
set_option maxRecDepth 100000 in
set_option maxHeartbeats 2000000 in
theorem hbits_any (w : World) (B hb : Nat) (h : Hd) (H : HdIs w B hb h) (hk : HdOk h) :
    Calls Tryz.prog 90 #[.pointer (some ⟨hb, 0, none⟩)] w fun e w' => e = .returned (.int .i64 (hdLen h)) ∧ Below w.heap.size w w' := by
  obtain ⟨ra, rcap, oa, oc, ca, cc, la, m, d, g, hrow, _, _, _, _, hic, hil, _, _⟩ := H
  have hm : 19 ≤ m := by have := hil.hlen; have := hk.hl; omega
  have HBT := Lib.hid (fun w' (hb : Below w.heap.size w w') => bits_any .run ca 19 cc h.C la m d h.R g w' (hic.mono hb) (hil.mono hb) hm (by omega) hk.hC hk.hR)
  unfold tbV fvK at HBT
  have ht := tot_le .run hk.hC hk.hR 19
  have ho := hk.ho
  have HE : Hid (hdLen h = 14 + 3 * (h.own.length : Int) + tot .run h.C h.R 19) := Lib.hid (by unfold hdLen; omega)
  have c3 := cell_of_row _ _ 3 _ _ (0, 0) hrow
  have c4 := cell_of_row _ _ 4 _ _ (0, 0) hrow
  have c5 := cell_of_row _ _ 5 _ _ (0, 0) hrow
  have c6 := cell_of_row _ _ 6 _ _ (0, 0) hrow
  have c7 := cell_of_row _ _ 7 _ _ (0, 0) hrow
  simp only [List.getElem?_toArray, List.getElem?_cons_zero, List.getElem?_cons_succ] at c3 c4 c5 c6 c7
  have HQ : Hid (hb < w.heap.size) := Lib.hid (Array.getElem?_eq_some_iff.1 hrow).1
  generalize tot .run h.C h.R 19 = T at *
  generalize h.own.length = N at *
  have v1 : IntKind.i64.wrap (3 * (N : Int)) = 3 * (N : Int) := IntWalk.i64_in _ ⟨by omega, by omega⟩
  have v2 : IntKind.i64.wrap (14 + 3 * (N : Int)) = 14 + 3 * (N : Int) := IntWalk.i64_in _ ⟨by omega, by omega⟩
  have v3 : IntKind.i64.wrap (14 + 3 * (N : Int) + T) = 14 + 3 * (N : Int) + T := IntWalk.i64_in _ ⟨by omega, by omega⟩
  clear hrow hic hil hk ht ho hm
  go_enter Tryz.func90, Tryz.ntmps90
  go_wp2_with fail
  go_region_held3 (fun w' => w'.cell? ⟨hb, 3, none⟩ = some (.slice ca 19 cc) ∧ w'.cell? ⟨hb, 4, none⟩ = some (.slice la m d) ∧ w'.cell? ⟨hb, 5, none⟩ = some (.pointer (some ⟨g, 0, none⟩)) ∧ w'.cell? ⟨hb, 6, none⟩ = some (.func (.func 88) #[] #[]) ∧ w'.cell? ⟨hb, 7, none⟩ = some (.slice oa N oc)) (go_keep)
    (first | (go_at_call 91; refine (HBT.out _ (Below.drew (Below.refl _ _))).mono ?_; rintro e w3 ⟨rfl, hb3⟩; have HB3 := Lib.hid hb3; have s3 := (hb3.cell (p := ⟨hb, 3, none⟩) HQ.out).trans c3; have s4 := (hb3.cell (p := ⟨hb, 4, none⟩) HQ.out).trans c4; have s5 := (hb3.cell (p := ⟨hb, 5, none⟩) HQ.out).trans c5; have s6 := (hb3.cell (p := ⟨hb, 6, none⟩) HQ.out).trans c6; have s7 := (hb3.cell (p := ⟨hb, 7, none⟩) HQ.out).trans c7; clear hb3))
  have HBE := Lib.hid (below_then (Below.drew (Below.refl w.heap.size w)) HB3.out)
  clear v1 v2 c3 c4 c5 c6 c7 s3 s4 s5 s6 s7 HB3
  go_wp2
  go_ret
  exact ⟨by rw [HE.out]; rfl, HBE.out⟩
theorem hbits_nil (w : World) : Calls Tryz.prog 90 #[.pointer none] w fun e w' => e = .returned (.int .i64 0) ∧ Below w.heap.size w w' := by
  go_enter Tryz.func90, Tryz.ntmps90
  go_wp2
  go_ret
  exact ⟨rfl, Below.refl _ _⟩
/-- The ten cells of a body. -/
def bdC (hp : Value) (a1 : Option Addr) (c1 : Nat) (b1 : Option Addr) (m1 d1 g1 : Nat) (a2 : Option Addr) (c2 : Nat) (b2 : Option Addr) (m2 d2 g2 : Nat) (ta : Option Addr) (tn tc : Nat) : Array Value :=
  #[hp, .slice a1 286 c1, .slice b1 m1 d1, .pointer (some ⟨g1, 0, none⟩), .func (.func 77) #[] #[], .slice a2 30 c2, .slice b2 m2 d2, .pointer (some ⟨g2, 0, none⟩), .func (.func 78) #[] #[], .slice ta tn tc]
/-- A body in memory. -/
def BdIs (w : World) (B : Nat) (kind : Nat) (ts : List Tok) (v : Value) : Prop :=
  ∃ hp a1 c1 b1 m1 d1 g1 a2 c2 b2 m2 d2 g2 ta tc, v = .agg (bdC hp a1 c1 b1 m1 d1 g1 a2 c2 b2 m2 d2 g2 ta ts.length tc) ∧
    (kind = 2 → ∃ hb, hp = .pointer (some ⟨hb, 0, none⟩) ∧ HdIs w B hb (hdT ts)) ∧ (kind = 1 → hp = .pointer none) ∧
    Is .i64 w a1 286 c1 (Pa.cts ts ts.length).1 ∧ Is .i64 w b1 m1 d1 (LL kind ts) ∧ Bw w (fun j => B ≤ j) g1 (LL kind ts) ∧
    Is .i64 w a2 30 c2 (Pa.cts ts ts.length).2 ∧ Is .i64 w b2 m2 d2 (DL kind ts) ∧ Bw w (fun j => B ≤ j) g2 (DL kind ts) ∧ Ts2 w ta ts.length tc ts
theorem HdIs.mono {w w' : World} {B hb : Nat} {h : Hd} (H : HdIs w B hb h) (b : Below w.heap.size w w') : HdIs w' B hb h := by
  obtain ⟨ra, rcap, oa, oc, ca, cc, la, m, d, g, hrow, h1, h2, h3, h4, h5, h6, h7, h8⟩ := H
  exact ⟨ra, rcap, oa, oc, ca, cc, la, m, d, g, (b.block hb (Array.getElem?_eq_some_iff.1 hrow).1).trans hrow, h1.mono b, h2, h3.mono b, h4, h5.mono b, h6.mono b, h7.mono b, h8⟩
theorem HdIs.wide {w : World} {B B' hb : Nat} {h : Hd} (H : HdIs w B hb h) (hB : B' ≤ B) : HdIs w B' hb h := by
  obtain ⟨ra, rcap, oa, oc, ca, cc, la, m, d, g, hrow, h1, h2, h3, h4, h5, h6, h7, h8⟩ := H
  exact ⟨ra, rcap, oa, oc, ca, cc, la, m, d, g, hrow, h1, fun ad e => Nat.le_trans hB (h2 ad e), h3, fun ad e => Nat.le_trans hB (h4 ad e), h5, h6, h7.wide (fun k hk => Nat.le_trans hB hk), Nat.le_trans hB h8⟩
theorem in_lens {C : List Int} {L : Nat} {l : List Int} (hl : l.length = C.length) (h : ∀ j, j < C.length → 0 ≤ l.getD j 0 ∧ l.getD j 0 ≤ L) (h15 : L ≤ 15) : Bl.In l := fun x hx => by
  obtain ⟨i, hi, rfl⟩ := List.getElem_of_mem hx
  have h1 := h i (by rw [← hl]; exact hi)
  have e : l.getD i 0 = l[i] := by simp [List.getD, List.getElem?_eq_getElem hi]
  rw [e] at h1
  omega
theorem LL_in (ts : List Tok) (h : ts.length ≤ 1000000) : Bl.In (LL 2 ts) := by
  have hc := (co_cts ts h).1
  have e : LL 2 ts = cmpl (Pa.cts ts ts.length).1 15 := by unfold LL; rw [if_pos rfl]
  rw [e]
  exact in_lens (cmpl_length _ _) (fun j hj => ⟨(hc.range j hj).1, (hc.range j hj).2.1⟩) (by omega)
theorem DL_in (ts : List Tok) (h : ts.length ≤ 1000000) : Bl.In (DL 2 ts) := by
  have hc := (co_cts ts h).2
  have e : DL 2 ts = Mg.lensOf (Pa.cts ts ts.length).2 15 := by unfold DL; rw [if_pos rfl]
  rw [e]
  exact in_lens (Mg.lensOf_length _ _) (fun j hj => ⟨(hc.lens j hj).1, (hc.lens j hj).2.1⟩) (by omega)
theorem ru_some (l : List Int) (h : Bl.In l) : Bl.ru [] l = some ((Bl.ru [] l).getD []) := by
  have hb := Bl.ru_back l
  generalize Bl.ru [] l = r at *
  cases r with
  | some rs => rfl
  | none =>
    obtain ⟨x, hx, hn⟩ := hb
    exact absurd (h x hx) hn
theorem in_shorts (ts : List Tok) (h : ts.length ≤ 1000000) : Bl.In (short (LL 2 ts) 257 ++ short (DL 2 ts) 1) := fun x hx => by
  rcases List.mem_append.1 hx with h1 | h1
  · exact LL_in ts h x (List.mem_of_mem_take h1)
  · exact DL_in ts h x (List.mem_of_mem_take h1)
theorem hdT_runs (ts : List Tok) (h : ts.length ≤ 1000000) : Bl.ru [] (short (LL 2 ts) 257 ++ short (DL 2 ts) 1) = some (hdR ts) :=
  (ru_some _ (in_shorts ts h)).trans (congrArg some (hdR_eq ts).symm)
theorem ru_le {l : List Int} {rs : List Tok} (h : Bl.ru [] l = some rs) : rs.length ≤ l.length ∧ Bl.Rg rs ∧ Bl.unrL [] rs = some l := by
  have hb := Bl.ru_back l
  rw [h] at hb
  exact ⟨hb.2.2.1, hb.2.2.2, hb.2.1⟩
theorem short_le (l : List Int) (k : Nat) : (short l k).length ≤ l.length := by unfold short; rw [List.length_take]; omega
theorem hdT_rl (ts : List Tok) (h : ts.length ≤ 1000000) : (hdR ts).length ≤ 600 := by
  have h1 := (ru_le (hdT_runs ts h)).1
  have h2 := (LL_length 2 ts).2
  have h3 := (DL_length 2 ts).2
  have h4 := short_le (LL 2 ts) 257
  have h5 := short_le (DL 2 ts) 1
  rw [List.length_append] at h1
  generalize (hdR ts).length = x at *
  generalize (short (LL 2 ts) 257).length = y at *
  generalize (short (DL 2 ts) 1).length = z at *
  omega
theorem getD_bd {l : List Int} {m : Int} (hm : 0 ≤ m) (h : ∀ i, i < l.length → 0 ≤ l.getD i 0 ∧ l.getD i 0 ≤ m) (i : Nat) : 0 ≤ l.getD i 0 ∧ l.getD i 0 ≤ m := by
  by_cases hi : i < l.length
  · exact h i hi
  · rw [List.getD, List.getElem?_eq_none (by omega)]; exact ⟨Int.le_refl _, hm⟩
theorem hdOf_C (L D : List Int) (rs : List Tok) : (hdOf L D rs).C = rc rs rs.length := rfl
theorem hdOf_R (L D : List Int) (rs : List Tok) : (hdOf L D rs).R = cmpl (rc rs rs.length) 7 := rfl
theorem hdOf_ok (L D : List Int) (rs : List Tok) (hrl : rs.length ≤ 600) : HdOk (hdOf L D rs) := by
  have hc := co_rc rs (by omega)
  have hin := rc_in rs rs.length (Nat.le_refl _)
  refine ⟨fun i => ?_, fun i => ?_, by rw [hdOf_R, cmpl_length]; exact hin.1, ?_⟩
  · rw [hdOf_C]; have := hin.2 i; omega
  · rw [hdOf_R]
    exact getD_bd (by omega) (fun i hi => by
      rw [cmpl_length] at hi
      have := hc.range i hi
      omega) i
  · rw [own_len]
    exact shn_le _ _ _
theorem hdT_ok (ts : List Tok) (h : ts.length ≤ 1000000) : HdOk (hdT ts) := hdOf_ok _ _ _ (hdT_rl ts h)
end Bc
end Go.Proofs.YtpoilaappcjbeaaGreatDoor
end
