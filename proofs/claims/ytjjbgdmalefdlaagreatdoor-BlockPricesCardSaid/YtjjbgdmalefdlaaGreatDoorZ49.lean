/- block.newHeader: its contract. -/
import Derived.Test.YtjjbgdmalefdlaaGreatDoorZ13
import Derived.Test.YtjjbgdmalefdlaaGreatDoorZ33
import Derived.Test.YtjjbgdmalefdlaaGreatDoorZ44
import Derived.Test.YtjjbgdmalefdlaaGreatDoorZ48
import Derived.Deep.RegionHeld3
set_option linter.unusedSimpArgs false
set_option linter.unusedVariables false
section
namespace Go.Proofs.YtjjbgdmalefdlaaGreatDoor
open Go.RowKit

namespace Bc
/-- What the listed variable holds. -/
def Oo (W : World) : Prop := ∀ r, r < 19 → W.cell? ⟨0, r, none⟩ = some (.int .i64 (order.getD r 0 : Nat))
theorem Oo.mono {w w' : World} (h : Oo w) (hz : 0 < w.heap.size) (hb : Below w.heap.size w w') : Oo w' := fun r hr => (hb.cell (p := ⟨0, r, none⟩) hz).trans (h r hr)
theorem shn_same (l : List Int) (least : Nat) : ∀ n, n ≤ l.length → shn l least n ≤ n := fun n _ => shn_le l least n
theorem _root_.Go.Proofs.YtjjbgdmalefdlaaGreatDoor.Ts2.kept {w w' : World} {T : Nat → Prop} {a : Option Addr} {len cap : Nat} {l : List Tok} (h : Ts2 w a len cap l) (c : Ch w w' T) (hn : ∀ ad, a = some ad → ¬ T ad.block) : Ts2 w' a len cap l :=
  ⟨h.hlen, h.hle, h.hnil, fun i hi => by
    obtain ⟨b, off, e, hlt, c0, c1⟩ := h.at' i hi
    have hb := c.block b hlt (hn _ e)
    exact ⟨b, off, e, Nat.lt_of_lt_of_le hlt c.size, by rw [World.cell?_of_block (w := w) hb]; exact c0, by rw [World.cell?_of_block (w := w) hb]; exact c1⟩, h.wf⟩
def ownR (R : List Int) (k : Nat) : List Int := (order.take k).map fun i => R.getD i 0
theorem ownR_next (R : List Int) (k : Nat) (h : k < 19) : ownR R (k + 1) = ownR R k ++ [R.getD (order.getD k 0) 0] := by
  have hl : k < order.length := h
  unfold ownR
  rw [List.take_succ_eq_append_getElem hl, List.map_append]; simp [List.getD, List.getElem?_eq_getElem hl]
theorem ownR_length (R : List Int) : (ownR R 19).length = 19 := by unfold ownR; rw [List.length_map]; rfl
theorem ownR_get (R : List Int) (i : Nat) (h : i < 19) : (ownR R 19).getD i 0 = R.getD (order.getD i 0) 0 := by
  have hl : i < order.length := h
  have e : order.take 19 = order := List.take_of_length_le (by decide)
  unfold ownR
  rw [e]
  simp [List.getD, List.getElem?_map, List.getElem?_eq_getElem hl]
theorem ownR_all (R : List Int) : ownR R 19 = order.map fun i => R.getD i 0 := by
  unfold ownR; rw [List.take_of_length_le (by decide)]
theorem own_eq (L D : List Int) (rs : List Tok) : (hdOf L D rs).own = (ownR (hdOf L D rs).R 19).take (shn (ownR (hdOf L D rs).R 19) 4 19) := by
  show short (order.map fun i => (hdOf L D rs).R.getD i 0) 4 = _
  rw [← ownR_all]
  unfold short
  rw [ownR_length]
theorem own_len (L D : List Int) (rs : List Tok) : (hdOf L D rs).own.length = shn (ownR (hdOf L D rs).R 19) 4 19 := by
  rw [own_eq, List.length_take, ownR_length]
  have := shn_le (ownR (hdOf L D rs).R 19) 4 19
  omega
theorem order_lt : ∀ k, k < 19 → order.getD k 0 < 19 := by decide
def ordA : Array Value := #[.int .i64 16, .int .i64 17, .int .i64 18, .int .i64 0, .int .i64 8, .int .i64 7, .int .i64 9, .int .i64 6, .int .i64 10, .int .i64 5, .int .i64 11, .int .i64 4, .int .i64 12, .int .i64 3, .int .i64 13, .int .i64 2, .int .i64 14, .int .i64 1, .int .i64 15]
theorem ordA_get : ∀ k, k < 19 → ordA[k]? = some (.int .i64 (order.getD k 0 : Nat)) := by
  intro k hk
  match k, hk with
  | 0, _ => rfl
  | 1, _ => rfl
  | 2, _ => rfl
  | 3, _ => rfl
  | 4, _ => rfl
  | 5, _ => rfl
  | 6, _ => rfl
  | 7, _ => rfl
  | 8, _ => rfl
  | 9, _ => rfl
  | 10, _ => rfl
  | 11, _ => rfl
  | 12, _ => rfl
  | 13, _ => rfl
  | 14, _ => rfl
  | 15, _ => rfl
  | 16, _ => rfl
  | 17, _ => rfl
  | 18, _ => rfl
  | k + 19, h => omega
theorem index_order : ∀ (k : Nat), k < 19 → ∀ (w : World), (Instr.index 135 (.agg ordA) (.int .i64 (k : Nat))).run Tryz.prog w = .ok (.int .i64 (order.getD k 0 : Nat)) w
  | 0, _, _ => by kernel_rfl
  | 1, _, _ => by kernel_rfl
  | 2, _, _ => by kernel_rfl
  | 3, _, _ => by kernel_rfl
  | 4, _, _ => by kernel_rfl
  | 5, _, _ => by kernel_rfl
  | 6, _, _ => by kernel_rfl
  | 7, _, _ => by kernel_rfl
  | 8, _, _ => by kernel_rfl
  | 9, _, _ => by kernel_rfl
  | 10, _, _ => by kernel_rfl
  | 11, _, _ => by kernel_rfl
  | 12, _, _ => by kernel_rfl
  | 13, _, _ => by kernel_rfl
  | 14, _, _ => by kernel_rfl
  | 15, _, _ => by kernel_rfl
  | 16, _, _ => by kernel_rfl
  | 17, _, _ => by kernel_rfl
  | 18, _, _ => by kernel_rfl
  | k + 19, h, _ => absurd h (by omega)
theorem load_order {W : World} (h : Oo W) : (loadVar 135 ⟨0, 0, none⟩).run Tryz.prog W = .ok (.agg ordA) W := by
  have hl : (loadCells ⟨0, 0, none⟩ ordA.toList.length).run Tryz.prog W = .ok ordA.toList.toArray W :=
    run_loadCells_list (P := Tryz.prog) W ⟨0, 0, none⟩ ordA.toList (fun j v hv => by
      have hj : j < 19 := (List.getElem?_eq_some_iff.1 hv).1
      rw [Addr.add_mid, Nat.zero_add, h j hj, ← ordA_get j hj]
      simpa using hv)
  have hi : (Tryz.prog.info? 135).map (·.size) = some 19 := by kernel_rfl
  cases hq : Tryz.prog.info? 135 with
  | none => simp [hq] at hi
  | some i =>
    have hs : i.size = 19 := by simpa [hq] using hi
    have hagg : (isAgg 135).run Tryz.prog W = .ok true W := by
      unfold isAgg
      rw [Sem.run_bind, run_underlying Tryz.underlying135 W]
      rfl
    have e19 : ordA.toList.length = 19 := rfl
    rw [e19] at hl
    simp [loadVar, Sem.run_bind, hagg, sizeOf, typeInfo, hq, hs, hl]
/-- The header in memory. -/
def HdIs (w : World) (B hb : Nat) (h : Hd) : Prop :=
  ∃ ra rcap oa oc ca cc la m d g, w.heap[hb]? = some (.cells #[.int .i64 (h.ll.length : Nat), .int .i64 (h.dl.length : Nat), .slice ra h.rs.length rcap, .slice ca 19 cc, .slice la m d, .pointer (some ⟨g, 0, none⟩), .func (.func 88) #[] #[], .slice oa h.own.length oc] 137 (0, 0)) ∧
    Ts2 w ra h.rs.length rcap h.rs ∧ (∀ ad, ra = some ad → B ≤ ad.block) ∧ Is .i64 w oa h.own.length oc h.own ∧ (∀ ad, oa = some ad → B ≤ ad.block) ∧ Is .i64 w ca 19 cc h.C ∧ Is .i64 w la m d h.R ∧ Bw w (fun j => B ≤ j) g h.R ∧ B ≤ hb
def HdPost (w : World) (h : Hd) (e : Ending) (w' : World) : Prop := ∃ hb, e = .returned (.tuple #[.pointer (some ⟨hb, 0, none⟩), .nilIface]) ∧ HdIs w' w.heap.size hb h ∧ Below w.heap.size w w'
theorem two_concat (w : World) (a1 a2 : Option Addr) (n1 n2 c1 c2 : Nat) (l1 l2 : List Int) (I1 : Is .i64 w a1 n1 c1 l1) (I2 : Is .i64 w a2 n2 c2 l2) (h1 : 1 ≤ n1) (h2 : n1 + n2 ≤ 1000000) (hw : Wf (l1 ++ l2)) :
    Calls Tryz.prog 86 #[.slice (some ⟨w.heap.size, 0, none⟩) 2 2] (w.alloc (.cells #[.slice a1 n1 c1, .slice a2 n2 c2] 53)) (fun e w' => ∃ a cap, e = .returned (.slice a (n1 + n2) cap) ∧ Is .i64 w' a (n1 + n2) cap (l1 ++ l2) ∧ Below w.heap.size w w') := by
  have hb := below_alloc w (.cells #[.slice a1 n1 c1, .slice a2 n2 c2] 53)
  have hrow := heap_alloc_last w (.cells #[.slice a1 n1 c1, .slice a2 n2 c2] 53)
  have e1 := I1.hlen
  have e2 := I2.hlen
  obtain ⟨ps, hps⟩ : ∃ ps : List Cp, ps = [(a1, n1, c1, l1), (a2, n2, c2, l2)] := ⟨_, rfl⟩
  have hcat : cat ps 2 = l1 ++ l2 := by
    subst hps
    unfold cat
    simp only [List.take_succ_cons, List.take_zero, List.flatMap_cons, List.flatMap_nil, List.append_nil]
  have hC : CatParts (w.alloc (.cells #[.slice a1 n1 c1, .slice a2 n2 c2] 53)) w.heap.size ps := by
    intro k a la ca l hk
    subst hps
    rw [cell_of_row _ _ _ _ _ (0, 0) hrow]
    match k, hk with
    | 0, hk => cases hk; exact ⟨rfl, I1.mono hb⟩
    | 1, hk => cases hk; exact ⟨rfl, I2.mono hb⟩
    | k + 2, hk => simp at hk
  have hl : (cat ps 2).length = n1 + n2 := by rw [hcat, List.length_append, e1, e2]
  refine (concat_all w.heap.size 2 ps _ (by simp) (by subst hps; rfl) hC (by omega) (by rw [hl]; omega) (by rw [hl]; omega)).mono ?_
  rintro e w' ⟨v, rfl, hown, hb2⟩
  rw [hcat, List.length_append, e1, e2] at hown
  obtain ⟨a, cap, rfl, hI⟩ := own_is hown hw
  exact ⟨a, cap, rfl, hI, below_then hb hb2⟩
theorem co_rc (rs : List Tok) (h : rs.length ≤ 100000) : Co (rc rs rs.length) 7 := by
  have h1 := rc_in rs rs.length (Nat.le_refl _)
  have hl := h1.1
  exact ⟨fun k _ => (h1.2 k).1, fun k _ => by have := (h1.2 k).2; omega, by omega, by omega, by rw [hl]; omega, by rw [hl]; omega, by
    have := used_le (rc rs rs.length)
    rw [hl] at this
    have : (2 : Nat) ^ 7 = 128 := rfl
    omega⟩
set_option maxRecDepth 100000 in
set_option maxHeartbeats 2000000 in
theorem header_any (L D : List Int) (rs : List Tok) (hL : Bl.In L) (hD : Bl.In D) (hL1 : 257 ≤ L.length) (hL2 : L.length ≤ 300) (hD1 : 1 ≤ D.length) (hD2 : D.length ≤ 300) (hrs : Bl.ru [] (short L 257 ++ short D 1) = some rs)
    (a b : Option Addr) (n c m d : Nat) (w : World) (hi : Is .i64 w a n c L) (hj : Is .i64 w b m d D) (hoo : Oo w) (hz : 0 < w.heap.size) :
    Calls Tryz.prog 59 #[.slice a n c, .slice b m d] w (HdPost w (hdOf L D rs)) := by
  have hn := hi.hlen
  have hm := hj.hlen
  subst hn
  subst hm
  have p1 := shn_ge L 257 L.length hL1
  have p2 := shn_le L 257 L.length
  have q1 := shn_ge D 1 D.length hD1
  have q2 := shn_le D 1 D.length
  have HS1 := Lib.hid (shorten_any a L.length c L 257 w hi (by omega) (by omega))
  have HS2 := Lib.hid (shorten_any b D.length d D 1 w hj (by omega) (by omega))
  have I1 : Is .i64 w a (shn L 257 L.length) c (short L 257) := hi.pre _ p2
  have I2 : Is .i64 w b (shn D 1 D.length) d (short D 1) := hj.pre _ q2
  have hin : Bl.In (short L 257 ++ short D 1) := fun x hx => by
    rcases List.mem_append.1 hx with h | h
    · exact hL x (List.mem_of_mem_take h)
    · exact hD x (List.mem_of_mem_take h)
  have HCC := Lib.hid (two_concat w a b _ _ c d _ _ I1 I2 (by omega) (by omega) hin.wf)
  have HLL : Hid ((hdOf L D rs).ll.length = shn L 257 L.length ∧ (hdOf L D rs).dl.length = shn D 1 D.length) := Lib.hid ⟨I1.hlen, I2.hlen⟩
  have HRS := Lib.hid hrs
  have HOO := Lib.hid (And.intro hoo hz)
  have hsum : shn L 257 L.length + shn D 1 D.length ≤ 600 := by omega
  clear hi hj I1 I2 hin hL hD hoo hz hrs p1 q1
  generalize shn L 257 L.length = n1 at *
  generalize shn D 1 D.length = n2 at *
  go_enter Tryz.func59, Tryz.ntmps59
  go_wp2_with fail
  refine HS1.out.mono ?_
  rintro e w' ⟨rfl, rfl⟩
  go_wp2_with fail
  refine HS2.out.mono ?_
  rintro e w' ⟨rfl, rfl⟩
  go_wp2_with fail
  refine HCC.out.mono ?_
  rintro e w1 ⟨a1, c1, rfl, i1, hb1⟩
  have HRU := runs_any a1 (n1 + n2) c1 _ w1 i1 (by omega)
  rw [HRS.out] at HRU
  have HRU2 := Lib.hid HRU
  have HB1 := Lib.hid hb1
  clear HRU i1 hb1 HCC HS1 HS2
  go_wp2_with fail
  refine HRU2.out.mono ?_
  rintro e w2 ⟨hb2, v2, rfl, own2⟩
  have hrg : Bl.Rg rs := by
    have := Bl.ru_back (short L 257 ++ short D 1)
    rw [HRS.out] at this
    exact this.2.2.2
  have hrl : rs.length ≤ 600 := by
    have := Bl.ru_back (short L 257 ++ short D 1)
    rw [HRS.out] at this
    have h1 := this.2.2.1
    have h2 : (short L 257).length = n1 := HLL.out.1
    have h3 : (short D 1).length = n2 := HLL.out.2
    rw [List.length_append, h2, h3] at h1
    omega
  have hwfr : ∀ i, i < rs.length → (Lit.int .i64 (rs.getD i (0, 0)).1).wf = true ∧ (Lit.int .i64 (rs.getD i (0, 0)).2).wf = true := fun i hi => wf_rg _ (hrg (rs.getD i (0, 0)) (by simp [List.getD, List.getElem?_eq_getElem hi]))
  have HRG : Hid (∀ i, i < rs.length → 0 ≤ (rs.getD i (0, 0)).1 ∧ (rs.getD i (0, 0)).1 ≤ 18) := Lib.hid (fun i hi => by
    have := hrg (rs.getD i (0, 0)) (by simp [List.getD, List.getElem?_eq_getElem hi]); omega)
  obtain ⟨a2, c2', rfl, hts⟩ := own_rs2 own2 hwfr
  have HTL : Hid (∀ ad, a2 = some ad → w.heap.size ≤ ad.block) := Lib.hid (fun ad e => by
    subst e
    have := (own2.lt ad.block rfl).1
    have := HB1.out.size
    omega)
  have HTS := Lib.hid hts
  have HB2 := Lib.hid (below_then HB1.out hb2)
  obtain ⟨w3, m3, o3, gr3⟩ := mk_ints w2 w.heap.size 19 HB2.out.size (by omega)
  have hb3 : Below w2.heap.size w2 w3 := (Below.refl _ _).grown gr3 (Nat.le_refl _) (by simp)
  have m3' : (Instr.makeSlice 53 (.int .i64 19) (.int .i64 19)).run Tryz.prog w2 = .ok (.slice (some ⟨w2.heap.size, 0, none⟩) 19 19) w3 := m3
  have HO3 : Hid (w3.ownsRow w.heap.size 3 1 (.slice (some ⟨w2.heap.size, 0, none⟩) 19 19) 19 (ivs (rc rs 0))) := Lib.hid o3
  have HT3 := Lib.hid (hts.mono hb3)
  have HB3 := Lib.hid (below_then HB2.out hb3)
  have HGQ : Hid (∀ ad, a2 = some ad → ¬ ad.block = w2.heap.size) := Lib.hid (fun ad e h => by
    subst e
    have := (own2.lt ad.block rfl).2
    omega)
  have HGL : Hid (w.heap.size ≤ w2.heap.size) := Lib.hid HB2.out.size
  clear m3 o3 gr3 hb3 own2 hb2 hts hrg hwfr HB1 HRU2 HTS HB2
  go_wp2
  clear m3'
  generalize w2.heap.size = gq at *
  go_loopw [34] (fun iv wr => ∃ k : Nat, k ≤ rs.length ∧ iv = .int .i64 k ∧ Hid (wr.ownsRow w.heap.size 3 1 (.slice (some ⟨gq, 0, none⟩) 19 19) 19 (ivs (rc rs k))) ∧ Hid (Ch w3 wr (fun j => j = gq))) (fun iv _ => rs.length - (intOf iv).toNat)
  case atStart => exact ⟨0, by omega, rfl, HO3, Lib.hid (Ch.refl _ _)⟩
  case round =>
    obtain ⟨k, hk, rfl, HO, HC⟩ := hrel
    clear HO3
    by_cases hlt : k < rs.length
    · have hT : Ts2 wr a2 rs.length c2' rs := HT3.out.kept HC.out HGQ.out
      obtain ⟨bt, ot, rfl, _, t0, t1⟩ := hT.at' k hlt
      have hr := HRG.out k hlt
      have HN := Lib.hid (rc_next rs k hlt)
      have hin := rc_in rs k hk
      clear hT
      generalize rs.getD k (0, 0) = t at *
      obtain ⟨x, y⟩ := t
      simp only at t0 t1 hr HN
      obtain ⟨j, rfl⟩ := Int.eq_ofNat_of_zero_le hr.1
      have hj : j < 19 := by omega
      rw [Int.toNat_natCast] at HN
      have hal := below_alloc wr (.cells #[.int .i64 (j : Nat), .int .i64 y] 132)
      have HOA := Lib.hid (own_below HO.out hal)
      have hl19 : (rc rs k).length = 19 := hin.1
      have cj : (wr.alloc (.cells #[.int .i64 (j : Nat), .int .i64 y] 132)).cell? ⟨gq, j, none⟩ = some (.int .i64 ((rc rs k).getD j 0)) := by rw [HOA.out.cellAt j (by omega), ivs_get _ _ (by omega)]
      have fj := Pa.own_fz HOA.out j
      have hv := hin.2 j
      have HCA := Lib.hid (HC.out.alloc (.cells #[.int .i64 (j : Nat), .int .i64 y] 132))
      have HOB : Hid ((((wr.alloc (.cells #[.int .i64 (j : Nat), .int .i64 y] 132)).setCell ⟨gq, j, none⟩ (.int .i64 ((rc rs k).getD j 0 + 1)))).ownsRow w.heap.size 3 1 (.slice (some ⟨gq, 0, none⟩) 19 19) 19 (ivs (rc rs (k + 1)))) := Lib.hid (by
        have := own_set HOA.out j ((rc rs k).getD j 0 + 1)
        rw [HN.out]; exact this)
      have HCB := Lib.hid (HCA.out.set (p := ⟨gq, j, none⟩) (.inl rfl) (.int .i64 ((rc rs k).getD j 0 + 1)))
      have dj : decide (j < 19) = true := decide_eq_true hj
      clear hin HOA HCA hal hl19 HN HO HC
      generalize (rc rs k).getD j 0 = z at *
      go_wp2
      go_roundw
      case rel => exact ⟨k + 1, by omega, by go_num, HOB, HCB⟩
      case measure => simp [intOf]; omega
    · obtain rfl : rs.length = k := by omega
      have HCO := Lib.hid (co_rc rs (by omega))
      have hin := rc_in rs rs.length (Nat.le_refl _)
      have hiC := is_of_own HO.out (hin.wf (by omega)) 0 19 19 (by omega) (by omega)
      rw [List.drop_zero, List.take_of_length_le (by rw [hin.1]; omega)] at hiC
      have HIC : Hid (Is .i64 wr (some ⟨gq, 0, none⟩) 19 19 (hdOf L D rs).C) := Lib.hid hiC
      have HCM : Hid (Calls Tryz.prog 87 #[.slice (some ⟨gq, 0, none⟩) 19 19, .int .i64 7] wr (CmPost wr 19 (hdOf L D rs).R)) := Lib.hid (complete_any HCO.out _ 19 19 wr hiC)
      have HRF : Hid (Cn.freeB (hdOf L D rs).R = true ∧ Wf (hdOf L D rs).R ∧ (hdOf L D rs).R.length = 19 ∧ (∀ i, i < 19 → 0 ≤ (hdOf L D rs).R.getD i 0 ∧ (hdOf L D rs).R.getD i 0 ≤ 7)) := Lib.hid ⟨HCO.out.cfree, HCO.out.cwf, by show (cmpl _ _).length = 19; rw [cmpl_length]; exact hin.1, fun i hi => by
        have h := HCO.out.range i (by rw [hin.1]; exact hi)
        exact ⟨h.1, by have h2 := h.2.1; show (cmpl (rc rs rs.length) 7).getD i 0 ≤ 7; omega⟩⟩
      have HBW := Lib.hid (HB3.out.trans (HC.out.below HB3.out.size (fun j e => by subst e; exact HGL.out)))
      have HTW := Lib.hid (HT3.out.kept HC.out HGQ.out)
      clear hin hiC HCO HO HC HT3 HB3 HGQ HRG
      go_wp2_with fail
      refine HCM.out.mono ?_
      rintro e w4 ⟨v4, rfl, own4, hb4⟩
      obtain ⟨la, lc, rfl, hil⟩ := own_is own4 HRF.out.2.1
      have HN4 := newTable_any .run (some ⟨gq, 0, none⟩) 19 19 la 19 lc (hdOf L D rs).R w4 hil HRF.out.1 (by omega)
      unfold TabPost fvK at HN4
      have HN := Lib.hid HN4
      have HIL := Lib.hid hil
      have HI4 := Lib.hid (HIC.out.mono hb4)
      have HT4 := Lib.hid (HTW.out.mono hb4)
      have HB4 := Lib.hid (below_then HBW.out hb4)
      clear HN4 hil own4 hb4 HCM HIC HTW HBW
      go_wp2_with fail
      refine HN.out.mono ?_
      rintro e w5 ⟨gb, rfl, hbw, hb5⟩
      unfold tbV fvK
      have HA5 := Lib.hid (below_alloc w5 (.cells #[.slice (some ⟨gq, 0, none⟩) 19 19, .slice la 19 lc, .pointer (some ⟨gb, 0, none⟩), .func (.func 88) #[] #[]] 84))
      have HRT := Lib.hid (heap_alloc_last w5 (.cells #[.slice (some ⟨gq, 0, none⟩) 19 19, .slice la 19 lc, .pointer (some ⟨gb, 0, none⟩), .func (.func 88) #[] #[]] 84))
      have HBW : Hid (Bw w5 (fun j => w.heap.size ≤ j) gb (hdOf L D rs).R) := Lib.hid (hbw.wide (fun j hj => by have := HB4.out.size; omega))
      have HIL5 := Lib.hid (HIL.out.mono hb5)
      have HI5 := Lib.hid (HI4.out.mono hb5)
      have HT5 := Lib.hid (HT4.out.mono hb5)
      have HB5 := Lib.hid (below_then HB4.out hb5)
      clear hbw hb5 HIL HI4 HT4 HB4 HN
      have HQT : Hid (w5.heap.size < (w5.alloc (.cells #[.slice (some ⟨gq, 0, none⟩) 19 19, .slice la 19 lc, .pointer (some ⟨gb, 0, none⟩), .func (.func 88) #[] #[]] 84)).heap.size ∧ w.heap.size ≤ w5.heap.size) := Lib.hid ⟨by simp, HB5.out.size⟩
      have HLD := load_order (HOO.out.1.mono HOO.out.2 (below_then HB5.out HA5.out))
      go_wp2_with (refine wpl_load rfl 135 (.global 0) rfl ⟨0, 0, none⟩ rfl _ HLD ?_)
      clear HLD
      revert HA5 HRT HQT
      generalize w5.alloc (.cells #[.slice (some ⟨gq, 0, none⟩) 19 19, .slice la 19 lc, .pointer (some ⟨gb, 0, none⟩), .func (.func 88) #[] #[]] 84) = w6
      intro HA5 HRT HQT
      have HO0 : Hid (w6.ownsRow w6.heap.size 3 1 (.slice none 0 0) 0 (ivs (ownR (hdOf L D rs).R 0))) := Lib.hid (World.ownsRow_nil _ _ _ _)
      have HIL6 := Lib.hid (HIL5.out.mono HA5.out)
      go_loopw [13, 64] (fun ov iv wr => ∃ k : Nat, k ≤ 19 ∧ iv = .int .i64 k ∧ Hid (wr.ownsRow w6.heap.size 3 1 ov k (ivs (ownR (hdOf L D rs).R k))) ∧ Hid (Below w6.heap.size w6 wr)) (fun _ iv _ => 19 - (intOf iv).toNat)
      case atStart => exact ⟨0, by omega, rfl, HO0, Lib.hid (Below.refl _ _)⟩
      case round =>
        obtain ⟨k, hk, rfl, HO, HB⟩ := hrel
        clear HO0
        by_cases hlt : k < 19
        · have hix := index_order k hlt
          have HNX := Lib.hid (ownR_next (hdOf L D rs).R k hlt)
          have hj : order.getD k 0 < 19 := order_lt k hlt
          obtain ⟨b1, o1, rfl, _, t0⟩ := (HIL6.out.mono HB.out).at' _ hj
          generalize order.getD k 0 = j at *
          have dk : decide ((k : Int) < 19) = true := decide_eq_true (by omega)
          have dj : decide (j < 19) = true := decide_eq_true hj
          generalize (hdOf L D rs).R.getD j 0 = z at *
          have hz := HB.out.size
          go_wp2_with (at_builtin; refine wpl_append tyI rfl _ _ rfl (own_below HO.out (below_alloc wr (.cells #[.int .i64 z] 3))) (src_int wr z) rfl rfl (by omega) (by omega) (by simp; omega) ?_)
          intro v' w' own' hg' _
          have HB7 := Lib.hid ((below_then HB.out (below_alloc wr (.cells #[.int .i64 z] 3))).grown hg' (by simp; omega) (fun r e => (HO.out.lt r e).1))
          have HO7 : Hid (w'.ownsRow w6.heap.size 3 1 v' (k + 1) (ivs (ownR (hdOf L D rs).R (k + 1)))) := Lib.hid (by rw [HNX.out, ivs_append]; exact own')
          clear own' hg' HO HB HNX hix t0
          go_wp2
          go_roundw
          case rel => exact ⟨k + 1, by omega, by go_num, HO7, HB7⟩
          case measure => simp [intOf]; omega
        · obtain rfl : k = 19 := by omega
          have hwo : Wf (ownR (hdOf L D rs).R 19) := small_wf (fun i hi => by
            have h19 : i < 19 := by rw [ownR_length] at hi; exact hi
            rw [ownR_get _ i h19]
            have := HRF.out.2.2.2 _ (order_lt i h19)
            omega)
          obtain ⟨oa, oc, hov, hio⟩ := own_is HO.out hwo
          have HOA : Hid (∀ ad, oa = some ad → w6.heap.size ≤ ad.block) := Lib.hid (fun ad e => by
            subst e
            exact (HO.out.lt ad.block (by rw [hov]; rfl)).1)
          subst hov
          have HSH := Lib.hid (fun w' (hb : Below wr.heap.size wr w') => shorten_any oa 19 oc _ 4 w' (hio.mono hb) (by omega) (by omega))
          have HIO := Lib.hid hio
          have hrt := (HB.out.block w5.heap.size (by exact HQT.out.1)).trans HRT.out
          have c0 := cell_of_row _ _ 0 _ _ (0, 0) hrt
          have c1 := cell_of_row _ _ 1 _ _ (0, 0) hrt
          have c2 := cell_of_row _ _ 2 _ _ (0, 0) hrt
          have c3 := cell_of_row _ _ 3 _ _ (0, 0) hrt
          simp only [List.getElem?_toArray, List.getElem?_cons_zero, List.getElem?_cons_succ] at c0 c1 c2 c3
          clear hwo hio hrt HO
          go_wp2_with fail
          go_region_held3 (fun w' => w'.cell? ⟨w5.heap.size, 0, none⟩ = some (.slice (some ⟨gq, 0, none⟩) 19 19) ∧ w'.cell? ⟨w5.heap.size, 1, none⟩ = some (.slice la 19 lc) ∧ w'.cell? ⟨w5.heap.size, 2, none⟩ = some (.pointer (some ⟨gb, 0, none⟩)) ∧ w'.cell? ⟨w5.heap.size, 3, none⟩ = some (.func (.func 88) #[] #[])) (go_keep)
            (first | (go_at_call 84; refine (HSH.out _ (Below.drew (Below.refl _ _))).mono ?_; rintro e w' ⟨rfl, rfl⟩))
          have HP : Hid (HdPost w (hdOf L D rs) (.returned (.tuple #[.pointer (some ⟨wr.heap.size, 0, none⟩), .nilIface])) (wr.alloc (.cells #[.int .i64 (n1 : Nat), .int .i64 (n2 : Nat), .slice a2 rs.length c2', .slice (some ⟨gq, 0, none⟩) 19 19, .slice la 19 lc, .pointer (some ⟨gb, 0, none⟩), .func (.func 88) #[] #[], .slice oa (shn (ownR (hdOf L D rs).R 19) 4 19) oc] 137)).drew) := Lib.hid (by
            have hb : Below wr.heap.size wr (wr.alloc (.cells #[.int .i64 (n1 : Nat), .int .i64 (n2 : Nat), .slice a2 rs.length c2', .slice (some ⟨gq, 0, none⟩) 19 19, .slice la 19 lc, .pointer (some ⟨gb, 0, none⟩), .func (.func 88) #[] #[], .slice oa (shn (ownR (hdOf L D rs).R 19) 4 19) oc] 137)).drew := Below.drew (below_alloc wr _)
            have b6 := below_then HB5.out HA5.out
            have bw := below_then b6 HB.out
            have s1 := HB5.out.size
            have s2 := HA5.out.size
            have s3 := HB.out.size
            refine ⟨_, rfl, ⟨a2, c2', oa, oc, _, _, la, 19, lc, gb, ?_, ((HT5.out.mono HA5.out).mono HB.out).mono hb, HTL.out, ?_, fun ad e => by have := HOA.out ad e; omega, ((HI5.out.mono HA5.out).mono HB.out).mono hb, (HIL6.out.mono HB.out).mono hb, ((HBW.out.mono HA5.out).mono HB.out).mono hb, by omega⟩, below_then bw hb⟩
            · have hr := heap_alloc_last wr (.cells #[.int .i64 (n1 : Nat), .int .i64 (n2 : Nat), .slice a2 rs.length c2', .slice (some ⟨gq, 0, none⟩) 19 19, .slice la 19 lc, .pointer (some ⟨gb, 0, none⟩), .func (.func 88) #[] #[], .slice oa (shn (ownR (hdOf L D rs).R 19) 4 19) oc] 137)
              have e1 := own_len L D rs
              rw [HLL.out.1, HLL.out.2, e1]
              exact hr
            · have e2 := own_eq L D rs
              have hle := shn_le (ownR (hdOf L D rs).R 19) 4 19
              have hI := (HIO.out.pre _ hle).mono hb
              rw [← e2] at hI
              rw [show (hdOf L D rs).own.length = shn (ownR (hdOf L D rs).R 19) 4 19 from hI.hlen]
              exact hI)
          go_wp2
          go_ret2
          exact HP.out
end Bc
end Go.Proofs.YtjjbgdmalefdlaaGreatDoor
end
