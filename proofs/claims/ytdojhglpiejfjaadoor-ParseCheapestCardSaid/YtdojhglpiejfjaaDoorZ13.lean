/- parse.Prices.distances: its contract. Rows of tokens of the call's own: their cells, and what is stored. What parse.Prices.choose fills in: its mathematics. The law's flat prices. The chapter's example: its greedy and its cheapest parse. -/
import Derived.Test.YtdojhglpiejfjaaDoorZ12
set_option linter.unusedSimpArgs false
set_option linter.unusedVariables false
section
namespace Go.Proofs.YtdojhglpiejfjaaDoor
open Go.RowKit

/-- The prices by the distance, those of the first k laid. -/
def Pa.dl (l3 : List Int) (n k : Nat) : List Int := (List.range n).map fun d => if d < k ∧ 1 ≤ d then l3.getD (Sy.dsy d) 0 else 0
theorem Pa.dl_length (l3 : List Int) (n k : Nat) : (Pa.dl l3 n k).length = n := by simp [Pa.dl]
theorem Pa.dl_getD (l3 : List Int) {n d : Nat} (k : Nat) (h : d < n) : (Pa.dl l3 n k).getD d 0 = if d < k ∧ 1 ≤ d then l3.getD (Sy.dsy d) 0 else 0 := by
  simp [Pa.dl, List.getD, h]
theorem Pa.dl_zero (l3 : List Int) (n : Nat) : Pa.dl l3 n 0 = List.replicate n 0 := by
  apply List.ext_getElem
  · simp [Pa.dl]
  · intro i h1 h2; simp [Pa.dl]
theorem Pa.dl_one (l3 : List Int) (n : Nat) : Pa.dl l3 n 1 = Pa.dl l3 n 0 := by
  apply List.ext_getElem
  · simp [Pa.dl]
  · intro i h1 h2
    simp only [Pa.dl, List.getElem_map, List.getElem_range]
    rw [if_neg (by omega), if_neg (by omega)]
theorem Pa.dl_set (l3 : List Int) (n k : Nat) (hk : 1 ≤ k) : (Pa.dl l3 n k).set k (l3.getD (Sy.dsy k) 0) = Pa.dl l3 n (k + 1) := by
  apply List.ext_getElem
  · simp [Pa.dl]
  · intro i h1 h2
    rw [List.getElem_set]
    simp only [Pa.dl, List.getElem_map, List.getElem_range]
    by_cases h : k = i
    · subst h
      rw [if_pos rfl, if_pos (by omega)]
    · rw [if_neg h]
      by_cases h3 : i < k ∧ 1 ≤ i
      · rw [if_pos h3, if_pos (by omega)]
      · rw [if_neg h3, if_neg (by omega)]
theorem ds_sym {n : Int} {v : Value} (h : Sy.DsPost n v) : (¬ (1 ≤ n ∧ n ≤ 32768) ∧ v = .tuple #[.int .i64 0, .bool false]) ∨ (1 ≤ n ∧ n ≤ 32768 ∧ v = .tuple #[.int .i64 ((Sy.dsy n.toNat : Nat) : Int), .bool true]) := by
  rcases h with h | ⟨a, r, rfl, ha, hh, rfl⟩
  · exact .inl h
  · obtain ⟨h1, h2, h3⟩ := Sy.held2 ha hh
    refine .inr ⟨by omega, by omega, ?_⟩
    rw [Sy.dsy_of (n := ((a : Int) + 1).toNat) (s := r) h1 (by omega) (fun h => by have := h3 h; omega)]
theorem dsy_lt (n : Nat) : Sy.dsy n < 30 := by have := Sy.cnt_le Sy.db 29 n; unfold Sy.dsy; omega
section
variable {w : World} {a1 a2 a3 : Option Addr} {n1 c1 n2 c2 n3 c3 : Nat} {l1 l2 l3 : List Int}
set_option maxHeartbeats 2000000 in
theorem distances_any (N m : Nat) (h : Pa.Pr w a1 n1 c1 l1 a2 n2 c2 l2 a3 n3 c3 l3) (hg : Pa.good l1 l2 l3 = true) (hm : min N 32768 = m) (hN : N ≤ 1048576) :
    Calls Tryd.prog 46 #[.agg #[.slice a1 n1 c1, .slice a2 n2 c2, .slice a3 n3 c3], .int .i64 (N : Nat)] w fun e w' =>
      ∃ g, e = .returned (.slice (some ⟨g, 0, none⟩) (m + 1) (m + 1)) ∧ w'.ownsRow w.heap.size 3 1 (.slice (some ⟨g, 0, none⟩) (m + 1) (m + 1)) (m + 1) (ivs (Pa.dl l3 (m + 1) (m + 1))) ∧ Below w.heap.size w w' := by
  have hb0 := below_alloc w (.cells #[.slice a1 n1 c1, .slice a2 n2 c2, .slice a3 n3 c3] 38)
  have hr0 : (w.alloc (.cells #[.slice a1 n1 c1, .slice a2 n2 c2, .slice a3 n3 c3] 38)).heap[w.heap.size]? = some (.cells #[.slice a1 n1 c1, .slice a2 n2 c2, .slice a3 n3 c3] 38 (0, 0)) := heap_alloc_last w _
  have HP := Lib.hid (h.mono hb0)
  have HL := Lib.hid (Pa.good_parts hg)
  have hn3 : n3 = 30 := by rw [← h.h3.hlen]; exact (Pa.good_parts hg).2.2.2.2.2
  have HB0 := Lib.hid hb0
  have HR0 := Lib.hid hr0
  have hmx : (if (32768 : Int) < (N : Int) then (32768 : Int) else (N : Int)) = (m : Int) := by split <;> omega
  have hmm : m ≤ 32768 := by omega
  subst hn3
  clear h hg hb0 hr0 hm hN
  go_enter Tryd.func46, Tryd.ntmps46
  go_wp2_with (at_make; refine wpl_make_full tyI rfl _ _ rfl w.heap.size .i64 .i64 _ _ (m + 1) rfl rfl (by omega) (by omega) (by omega) (by omega) (by simp) ?_)
  intro w1 hown hg1
  have hmk := made_ints1 (m + 1)
  rw [Nat.mul_one] at hmk
  rw [hmk, ← Pa.dl_zero l3 (m + 1)] at hown
  clear hmk
  have HB1 := Lib.hid (HB0.out.grown hg1 (by simp) (fun r e => by cases e))
  have HR1 := Lib.hid ((hg1.block w.heap.size (by simp) (fun e => by cases e)).trans HR0.out)
  have HP1 : Hid (∀ d, d < 30 → ∃ b off, a3 = some ⟨b, off, none⟩ ∧ w1.cell? ⟨b, off + d, none⟩ = some (.int .i64 (l3.getD d 0)) ∧ b < w.heap.size + 1) := Lib.hid (fun d hd => by
    obtain ⟨b, off, e1, e2, e3⟩ := HP.out.h3.at' d hd
    refine ⟨b, off, e1, ?_, by simpa using e2⟩
    have := hg1.block b e2 (fun e => by cases e)
    rw [World.cell?_of_block this]; exact e3)
  have HOW := Lib.hid hown
  have HZ : Hid (w.heap.size < w1.heap.size) := Lib.hid (Array.getElem?_eq_some_iff.1 HR1.out).1
  have HW3 : Hid (∀ d, -1 ≤ l3.getD d 0 ∧ l3.getD d 0 ≤ 1048576) := Lib.hid (fun d => by have := Pa.rng_get HL.out.2.2.1 d; omega)
  clear hown hg1 hmx HP HL HB0 HR0
  go_wp2
  go_loopw [15] (fun i wr => ∃ k : Nat, k ≤ m + 1 ∧ i = .int .i64 ((k : Nat) : Int) ∧ Hid (wr.ownsRow w.heap.size 3 1 (.slice (some ⟨w.heap.size + 1, 0, none⟩) (m + 1) (m + 1)) (m + 1) (ivs (Pa.dl l3 (m + 1) k))) ∧ Hid (Ch w1 wr (fun k => k = w.heap.size + 1))) (fun i _ => m + 1 - (intOf i).toNat)
  case atStart => exact ⟨0, by omega, rfl, HOW, Lib.hid (Ch.refl _ _)⟩
  case round =>
    clear HOW
    obtain ⟨k, hk, rfl, HO, HC⟩ := hrel
    by_cases hlt : k < m + 1
    · have hrw := (HC.out.block w.heap.size HZ.out (by omega)).trans HR1.out
      have p2 : wr.cell? ⟨w.heap.size, 2, none⟩ = some (.slice a3 30 c3) := by rw [cell_of_row _ _ _ _ _ (0, 0) hrw]; rfl
      have HDS := Lib.hid (distSymbol_any (k : Int) wr (by simp only [Lit.wf, IntKind.min, IntKind.max, IntKind.signed, IntKind.bits, Bool.and_eq_true, decide_eq_true_eq, if_true]; simp; omega))
      clear hrw
      go_wp2_with fail
      refine HDS.out.mono ?_
      rintro e w' ⟨⟨v, hv, rfl⟩, rfl⟩
      rcases ds_sym hv with ⟨hk0, rfl⟩ | ⟨hk1, hk2, rfl⟩
      · have hk0' : k = 0 := by omega
        have HO1 : Hid (wr.ownsRow w.heap.size 3 1 (.slice (some ⟨w.heap.size + 1, 0, none⟩) (m + 1) (m + 1)) (m + 1) (ivs (Pa.dl l3 (m + 1) (k + 1)))) := Lib.hid (by
          have := HO.out
          rw [hk0'] at this ⊢
          rw [Pa.dl_one]; exact this)
        clear hk0 hk0' hv HDS HO
        go_wp2
        go_roundw
        case rel => exact ⟨k + 1, by omega, by go_num, HO1, HC⟩
        case measure => simp [intOf]; omega
      · rw [Int.toNat_natCast]
        obtain ⟨b, off, rfl, hc3, hb3⟩ := HP1.out (Sy.dsy k) (dsy_lt k)
        have hcc : wr.cell? ⟨b, off + Sy.dsy k, none⟩ = some (.int .i64 (l3.getD (Sy.dsy k) 0)) := by
          rw [World.cell?_of_block (HC.out.block b (by have := HZ.out; omega) (by omega))]; exact hc3
        have h30 := dsy_lt k
        have hset := own_set HO.out k (l3.getD (Sy.dsy k) 0)
        rw [Pa.dl_set l3 (m + 1) k (by omega)] at hset
        have hkl := og_int HO.out k hlt
        have hfz := og_fz HO.out k
        have hcs := HC.out.set (p := ⟨w.heap.size + 1, k, none⟩) (.inl rfl) (.int .i64 (l3.getD (Sy.dsy k) 0))
        generalize Sy.dsy k = s at *
        generalize l3.getD s 0 = z at *
        have HS := Lib.hid (And.intro hset hcs)
        clear hset hcs hv HDS hc3 hb3 hk1 hk2 HO HC
        go_wp2
        go_roundw
        case rel => exact ⟨k + 1, by omega, by go_num, HS.out.1, HS.out.2⟩
        case measure => simp [intOf]; omega
    · obtain rfl : k = m + 1 := by omega
      go_wp2
      go_ret
      exact ⟨_, rfl, HO.out, HC.out.below (by have := HB1.out.size; omega) (fun k hk => by omega) |> fun h => HB1.out.trans h⟩
end
end Go.Proofs.YtdojhglpiejfjaaDoor
end

section
namespace Go.Proofs.YtdojhglpiejfjaaDoor
open Go.RowKit

theorem tks_set (l : List Tok) (p : Nat) (t : Tok) : ((tks l).set (p * 2) (.int .i64 t.1)).set (p * 2 + 1) (.int .i64 t.2) = tks (l.set p t) := by
  induction l generalizing p with
  | nil => rfl
  | cons a r ih =>
    cases p with
    | zero => rfl
    | succ p =>
      have e1 : (p + 1) * 2 = p * 2 + 1 + 1 := by omega
      have e2 : tks (a :: r) = .int .i64 a.1 :: .int .i64 a.2 :: tks r := rfl
      have e3 : tks ((a :: r).set (p + 1) t) = .int .i64 a.1 :: .int .i64 a.2 :: tks (r.set p t) := rfl
      rw [e1, e2, e3, ← ih p]
      simp
theorem og_tok {w : World} {base n cap g : Nat} {l : List Tok} (h : w.ownsRow base 46 2 (.slice (some ⟨g, 0, none⟩) n cap) n (tks l)) (j : Nat) (hj : j < n) :
    w.cell? ⟨g, j * 2, none⟩ = some (.int .i64 (l.getD j (0, 0)).1) ∧ w.cell? ⟨g, j * 2 + 1, none⟩ = some (.int .i64 (l.getD j (0, 0)).2) := by
  have hl : l.length = n := by have := h.1; rw [tks_length] at this; omega
  obtain ⟨h1, h2⟩ := tks_get l j (by omega)
  have hc := h.cells rfl
  have c1 := hc _ _ h1
  have c2 := hc _ _ h2
  rw [Addr.add_mid, Nat.zero_add] at c1 c2
  exact ⟨c1, c2⟩
theorem og_settok {w : World} {base n cap g : Nat} {l : List Tok} (h : w.ownsRow base 46 2 (.slice (some ⟨g, 0, none⟩) n cap) n (tks l)) (p : Nat) (t : Tok) :
    ((w.setCell ⟨g, p * 2, none⟩ (.int .i64 t.1)).setCell ⟨g, p * 2 + 1, none⟩ (.int .i64 t.2)).ownsRow base 46 2 (.slice (some ⟨g, 0, none⟩) n cap) n (tks (l.set p t)) := by
  rw [← tks_set]; exact ((h.stored (p * 2) _).1.stored (p * 2 + 1) _).1
end Go.Proofs.YtdojhglpiejfjaaDoor
end

section
namespace Go.Proofs.YtdojhglpiejfjaaDoor
open Go.RowKit
namespace Pz
theorem getD_set_ne' {α : Type} {l : List α} {s j : Nat} {z d : α} (h : s ≠ j) : (l.set s z).getD j d = l.getD j d := by
  simp [List.getD, List.getElem?_set, h]
theorem getD_set_eq' {α : Type} {l : List α} {s : Nat} {z d : α} (h : s < l.length) : (l.set s z).getD s d = z := by
  simp [List.getD, h]
/-- Filled in from a place on. -/
structure Dn (pr : Tok → Int) (b : Nat → Nat) (N : Nat) (R : Nat → List (Nat × Nat)) (f : Nat) (C : List Int) (T : List Tok) : Prop where
  lc : C.length = N + 1
  lt : T.length = N
  fin : C.getD N 0 = 0
  cho : ∀ p, f ≤ p → p < N → Cho b R p (T.getD p (0, 0))
  eq : ∀ p, f ≤ p → p < N → C.getD p 0 = pr (T.getD p (0, 0)) + C.getD (p + sp (T.getD p (0, 0))) 0
  le : ∀ p, f ≤ p → p < N → ∀ t, Cho b R p t → C.getD p 0 ≤ pr t + C.getD (p + sp t) 0
  rng : ∀ p, f ≤ p → p ≤ N → 0 ≤ C.getD p 0 ∧ C.getD p 0 ≤ 2097152 * ((N - p : Nat) : Int)
/-- At a place, the literal and the first nearest matches tried. -/
structure Md (pr : Tok → Int) (b : Nat → Nat) (N : Nat) (R : Nat → List (Nat × Nat)) (p : Nat) (pre : List (Nat × Nat)) (C : List Int) (T : List Tok) : Prop where
  dn : Dn pr b N R (p + 1) C T
  cho : Cho b R p (T.getD p (0, 0))
  eq : C.getD p 0 = pr (T.getD p (0, 0)) + C.getD (p + sp (T.getD p (0, 0))) 0
  lit : C.getD p 0 ≤ pr (0, (b p : Int)) + C.getD (p + 1) 0
  le : ∀ q ∈ pre, C.getD p 0 ≤ pr ((q.1 : Int), (q.2 : Int)) + C.getD (p + sp ((q.1 : Int), (q.2 : Int))) 0
variable {pr : Tok → Int} {b : Nat → Nat} {N : Nat} {R : Nat → List (Nat × Nat)}
theorem Dn.start (n : Nat) : Dn pr b n R n (List.replicate (n + 1) 0) (List.replicate n (0, 0)) :=
  ⟨by simp, by simp, by simp [List.getD, List.getElem?_replicate], fun p h1 h2 => by omega, fun p h1 h2 => by omega, fun p h1 h2 => by omega, fun p h1 h2 => by
    obtain rfl : p = n := by omega
    simp [List.getD, List.getElem?_replicate]⟩
theorem sp_pos (t : Tok) : 1 ≤ sp t := by unfold sp; omega
/-- What stands ahead may turn. -/
theorem Dn.set {p : Nat} {C : List Int} {T : List Tok} (h : Dn pr b N R (p + 1) C T) (hp : p < N) (z : Int) (t : Tok) : Dn pr b N R (p + 1) (C.set p z) (T.set p t) := by
  have c : ∀ j, p < j → (C.set p z).getD j 0 = C.getD j 0 := fun j hj => getD_set_ne' (by omega)
  have d : ∀ j, p < j → (T.set p t).getD j (0, 0) = T.getD j (0, 0) := fun j hj => getD_set_ne' (by omega)
  refine ⟨by rw [List.length_set]; exact h.lc, by rw [List.length_set]; exact h.lt, by rw [c N hp]; exact h.fin, fun q h1 h2 => by rw [d q (by omega)]; exact h.cho q h1 h2, fun q h1 h2 => ?_, fun q h1 h2 u hu => ?_, fun q h1 h2 => by rw [c q (by omega)]; exact h.rng q h1 h2⟩
  · rw [d q (by omega), c q (by omega), c _ (by have := sp_pos (T.getD q (0, 0)); omega)]; exact h.eq q h1 h2
  · rw [c q (by omega), c _ (by have := sp_pos u; omega)]; exact h.le q h1 h2 u hu
theorem Dn.setc {p : Nat} {C : List Int} {T : List Tok} (h : Dn pr b N R (p + 1) C T) (hp : p < N) (z : Int) : Dn pr b N R (p + 1) (C.set p z) T := by
  have := h.set hp z (T.getD p (0, 0))
  have e : T.set p (T.getD p (0, 0)) = T := by
    have hl := h.lt
    apply List.ext_getElem
    · simp
    · intro i h1 h2
      rw [List.getElem_set]
      split
      · rename_i e; subst e; simp [List.getD, List.getElem?_eq_getElem h2]
      · rfl
  rwa [e] at this
/-- The literal is taken. -/
theorem Md.start {p : Nat} {C : List Int} {T : List Tok} (h : Dn pr b N R (p + 1) C T) (hp : p < N) : Md pr b N R p [] (C.set p (pr (0, (b p : Int)) + C.getD (p + 1) 0)) (T.set p (0, (b p : Int))) := by
  have hl : p < C.length := by rw [h.lc]; omega
  have hm : p < T.length := by rw [h.lt]; exact hp
  have e1 := getD_set_eq' (d := 0) (z := pr (0, (b p : Int)) + C.getD (p + 1) 0) hl
  have e2 := getD_set_eq' (d := ((0, 0) : Tok)) (z := ((0, (b p : Int)) : Tok)) hm
  have e3 : (C.set p (pr (0, (b p : Int)) + C.getD (p + 1) 0)).getD (p + 1) 0 = C.getD (p + 1) 0 := getD_set_ne' (by omega)
  have es : sp ((0, (b p : Int)) : Tok) = 1 := rfl
  exact ⟨h.set hp _ _, by rw [e2]; exact .inl rfl, by rw [e2, e1, es, e3], by rw [e1, e3]; exact Int.le_refl _, fun q hq => by simp at hq⟩
theorem Md.take {p : Nat} {pre : List (Nat × Nat)} {C : List Int} {T : List Tok} {q : Nat × Nat} (h : Md pr b N R p pre C T) (hp : p < N) (hc : Cho b R p ((q.1 : Int), (q.2 : Int)))
    (hle : pr ((q.1 : Int), (q.2 : Int)) + C.getD (p + sp ((q.1 : Int), (q.2 : Int))) 0 ≤ C.getD p 0) :
    Md pr b N R p (pre ++ [q]) (C.set p (pr ((q.1 : Int), (q.2 : Int)) + C.getD (p + sp ((q.1 : Int), (q.2 : Int))) 0)) (T.set p ((q.1 : Int), (q.2 : Int))) := by
  have hl : p < C.length := by rw [h.dn.lc]; omega
  have hm : p < T.length := by rw [h.dn.lt]; exact hp
  have e1 := getD_set_eq' (d := 0) (z := pr ((q.1 : Int), (q.2 : Int)) + C.getD (p + sp ((q.1 : Int), (q.2 : Int))) 0) hl
  have e2 := getD_set_eq' (d := ((0, 0) : Tok)) (z := (((q.1 : Int), (q.2 : Int)) : Tok)) hm
  have e3 : ∀ j, p < j → (C.set p (pr ((q.1 : Int), (q.2 : Int)) + C.getD (p + sp ((q.1 : Int), (q.2 : Int))) 0)).getD j 0 = C.getD j 0 := fun j hj => getD_set_ne' (by omega)
  have s1 := sp_pos ((q.1 : Int), (q.2 : Int))
  refine ⟨h.dn.set hp _ _, by rw [e2]; exact hc, by rw [e2, e1, e3 _ (by omega)], by rw [e1, e3 _ (by omega)]; exact Int.le_trans hle h.lit, fun r hr => ?_⟩
  have s2 := sp_pos ((r.1 : Int), (r.2 : Int))
  rw [e1, e3 _ (by omega)]
  rcases List.mem_append.1 hr with hr | hr
  · exact Int.le_trans hle (h.le r hr)
  · simp only [List.mem_singleton] at hr
    subst hr
    exact Int.le_refl _
theorem Md.pass {p : Nat} {pre : List (Nat × Nat)} {C : List Int} {T : List Tok} {q : Nat × Nat} (h : Md pr b N R p pre C T)
    (hlt : C.getD p 0 < pr ((q.1 : Int), (q.2 : Int)) + C.getD (p + sp ((q.1 : Int), (q.2 : Int))) 0) : Md pr b N R p (pre ++ [q]) C T :=
  ⟨h.dn, h.cho, h.eq, h.lit, fun r hr => by
    rcases List.mem_append.1 hr with hr | hr
    · exact h.le r hr
    · simp only [List.mem_singleton] at hr
      subst hr
      omega⟩
theorem Md.done {p : Nat} {C : List Int} {T : List Tok} (ht : Txt b N R) (h : Md pr b N R p (Lz.near (R p)) C T) (hp : p < N) (hpr : ∀ t, 0 ≤ pr t ∧ pr t ≤ 2097152) : Dn pr b N R p C T := by
  have all : ∀ t, Cho b R p t → C.getD p 0 ≤ pr t + C.getD (p + sp t) 0 := fun t hc => by
    rcases hc with rfl | ⟨n, h3, hn, rfl⟩
    · exact h.lit
    · have hg := Lz.near_get (R p) (n - 3) (by omega)
      rw [show 3 + (n - 3) = n by omega] at hg
      exact h.le (n, Lz.far (R p) n) (List.mem_of_getElem? hg)
  refine ⟨h.dn.lc, h.dn.lt, h.dn.fin, fun q h1 h2 => ?_, fun q h1 h2 => ?_, fun q h1 h2 t hc => ?_, fun q h1 h2 => ?_⟩
  all_goals by_cases e : q = p
  all_goals try subst e
  · exact h.cho
  · exact h.dn.cho q (by omega) h2
  · exact h.eq
  · exact h.dn.eq q (by omega) h2
  · exact all t hc
  · exact h.dn.le q (by omega) h2 t hc
  · have hf := Cho.fits ht hp h.cho
    have r := h.dn.rng (q + sp (T.getD q (0, 0))) (by omega) hf.1
    have r1 := h.dn.rng (q + 1) (by omega) (by omega)
    have hl := h.lit
    have p1 := hpr (T.getD q (0, 0))
    have p2 := hpr (0, (b q : Int))
    rw [h.eq] at hl ⊢
    have e2 : ((N - q : Nat) : Int) = ((N - (q + 1) : Nat) : Int) + 1 := by omega
    rw [e2]
    omega
  · exact h.dn.rng q (by omega) h2
theorem Dn.least {C : List Int} {T : List Tok} (h : Dn pr b N R 0 C T) : Least pr b N R 0 (fun p => C.getD p 0) :=
  ⟨h.fin, fun p _ hp t hc => h.le p (Nat.zero_le _) hp t hc, fun p _ hp => ⟨_, h.cho p (Nat.zero_le _) hp, h.eq p (Nat.zero_le _) hp⟩⟩
end Pz
theorem tks_zero (n : Nat) : (madeCells #[.int .i64 0, .int .i64 0] (n * 2)).toList = tks (List.replicate n (0, 0)) := by
  rw [made_all #[.int .i64 0, .int .i64 0] (n * 2) (.int .i64 0) (by simp) (fun i hi => by
    have : i = 0 ∨ i = 1 := by simp at hi; omega
    rcases this with rfl | rfl <;> rfl)]
  induction n with
  | zero => rfl
  | succ n ih =>
    have e : tks (List.replicate (n + 1) (0, 0)) = .int .i64 0 :: .int .i64 0 :: tks (List.replicate n (0, 0)) := rfl
    rw [e, ← ih, show (n + 1) * 2 = n * 2 + 1 + 1 by omega]
    rfl
end Go.Proofs.YtdojhglpiejfjaaDoor
end

section
namespace Go.Proofs.YtdojhglpiejfjaaDoor
open Go.RowKit
namespace Pa
def fl1 (x : Int) (k : Nat) : List Int := List.replicate k x
def fl2 (x : Int) (k : Nat) : List Int := (List.range k).map fun n : Nat => x + (n : Int) % 7
def fl3 (x : Int) (k : Nat) : List Int := (List.range k).map fun n : Nat => x * (n : Int)
theorem fl1_next (x : Int) (k : Nat) : fl1 x (k + 1) = fl1 x k ++ [x] := by unfold fl1; rw [List.replicate_succ', ]
theorem fl2_next (x : Int) (k : Nat) : fl2 x (k + 1) = fl2 x k ++ [x + (k : Int) % 7] := by unfold fl2; rw [List.range_succ, List.map_append]; rfl
theorem fl3_next (x : Int) (k : Nat) : fl3 x (k + 1) = fl3 x k ++ [x * (k : Int)] := by unfold fl3; rw [List.range_succ, List.map_append]; rfl
end Pa
namespace Pa
def nl : Value := .slice none 0 0
/-- The prices as they grow. -/
structure Fq (w0 wr : World) (B : Nat) (cs : Array Value) : Prop where
  row : wr.heap[w0.heap.size + 1]? = some (.cells cs 36 (0, 0))
  res : wr.heap[w0.heap.size]? = some (.cells #[nl, nl, nl] 36 (0, 0))
  bel : Below w0.heap.size w0 wr
  b1 : w0.heap.size + 2 ≤ B
  b2 : B ≤ wr.heap.size
theorem Fq.up {w0 wr : World} {B B' : Nat} {cs : Array Value} (h : Fq w0 wr B cs) (h1 : B ≤ B') (h2 : B' ≤ wr.heap.size) : Fq w0 wr B' cs := ⟨h.row, h.res, h.bel, Nat.le_trans h.b1 h1, h2⟩
theorem fq_step {w0 wr w' : World} {B j m m' : Nat} {cs : Array Value} {v v' : Value} {l l' : List Value} {o : Obj} (h : Fq w0 wr B cs) (hv : wr.ownsRow B 3 1 v m l) (hg : (wr.alloc o).grownBy w' v.ownBlock) (hv' : w'.ownsRow B 3 1 v' m' l') :
    Fq w0 (w'.setCell ⟨w0.heap.size + 1, j, none⟩ v') B (cs.setIfInBounds j v') ∧ (w'.setCell ⟨w0.heap.size + 1, j, none⟩ v').ownsRow B 3 1 v' m' l' ∧
      ∀ {B0 : Nat} {u : Value} {n : Nat} {xs : List Value}, w0.heap.size + 2 ≤ B0 → wr.ownsRow B0 3 1 u n xs → (∀ b, u.ownBlock = some b → b < B) → (w'.setCell ⟨w0.heap.size + 1, j, none⟩ v').ownsRow B0 3 1 u n xs := by
  have hb1 := h.b1
  have hb2 := h.b2
  have hvb : ∀ k, k < B → some k ≠ v.ownBlock := fun k hk e => by have := (hv.lt k e.symm).1; omega
  have kp : ∀ k, k < B → w'.heap[k]? = wr.heap[k]? := fun k hk => (hg.block k (by simp; omega) (hvb k hk)).trans (Below.heap_alloc wr o k (by omega))
  have hr1 := (kp (w0.heap.size + 1) (by omega)).trans h.row
  have hr0 := (kp w0.heap.size (by omega)).trans h.res
  have hc : Ch w' (w'.setCell ⟨w0.heap.size + 1, j, none⟩ v') (fun k => k = w0.heap.size + 1) := (Ch.refl w' (fun k => k = w0.heap.size + 1)).set (.inl rfl) _
  have hsz : wr.heap.size ≤ w'.heap.size := Nat.le_trans (by simp) hg.size
  have hbw : Below w0.heap.size w0 w' := (h.bel.alloc h.bel.size o).grown hg (by simp; have := h.bel.size; omega) (fun k e => by have := (hv.lt k e).1; omega)
  refine ⟨⟨heap_setCell_same w' _ j _ _ _ hr1, (hc.block _ (Array.getElem?_eq_some_iff.1 hr0).1 (by omega)).trans hr0, hbw.setCell (p := ⟨w0.heap.size + 1, j, none⟩) (by show w0.heap.size ≤ w0.heap.size + 1; omega) _, hb1, Nat.le_trans (by omega) hc.size⟩, hc.own hv' (fun b e => by have := (hv'.lt b e).1; omega), @fun B0 u n xs hB0 hu hub => ?_⟩
  have h1 := own_below hu (below_alloc wr o)
  have h2 := h1.kept hg (by
    cases e : u.ownBlock with
    | none => exact .inl rfl
    | some b => exact .inr (hvb b (hub b e)))
  exact hc.own h2 (fun b e => by have := (hu.lt b e).1; omega)
end Pa
set_option maxRecDepth 100000 in
set_option maxHeartbeats 8000000 in
theorem flat_any (x1 x2 x3 : Nat) (w : World) (h1 : x1 ≤ 100000) (h2 : x2 ≤ 100000) (h3 : x3 ≤ 100000) :
    Calls Tryd.prog 22 #[.int .i64 (x1 : Nat), .int .i64 (x2 : Nat), .int .i64 (x3 : Nat)] w fun e w' => ∃ v1 v2 v3, e = .returned (.agg #[v1, v2, v3]) ∧ w'.ownsRow w.heap.size 3 1 v1 256 (ivs (Pa.fl1 x1 256)) ∧ w'.ownsRow w.heap.size 3 1 v2 259 (ivs (Pa.fl2 x2 259)) ∧ w'.ownsRow w.heap.size 3 1 v3 30 (ivs (Pa.fl3 x3 30)) ∧ Below w.heap.size w w' := by
  go_enter Tryd.func22, Tryd.ntmps22
  have hb0 := below_alloc2 w (.cells #[.slice none 0 0, .slice none 0 0, .slice none 0 0] 36) (.cells #[.slice none 0 0, .slice none 0 0, .slice none 0 0] 36)
  have HQ0 : Hid (Pa.Fq w ((w.alloc (.cells #[.slice none 0 0, .slice none 0 0, .slice none 0 0] 36)).alloc (.cells #[.slice none 0 0, .slice none 0 0, .slice none 0 0] 36)) (w.heap.size + 2) #[Pa.nl, Pa.nl, Pa.nl]) :=
    Lib.hid ⟨heap_alloc2_new w _ _, heap_alloc2_old w _ _, hb0, Nat.le_refl _, by simp⟩
  clear hb0
  go_wp2
  revert HQ0
  generalize (w.alloc (.cells #[.slice none 0 0, .slice none 0 0, .slice none 0 0] 36)).alloc (.cells #[.slice none 0 0, .slice none 0 0, .slice none 0 0] 36) = W0
  intro HQ0
  go_loopw [11] (fun i wr => ∃ k : Nat, k ≤ 256 ∧ i = .int .i64 ((k : Nat) : Int) ∧ Hid (∃ v1, Pa.Fq w wr (w.heap.size + 2) #[v1, Pa.nl, Pa.nl] ∧ wr.ownsRow (w.heap.size + 2) 3 1 v1 k (ivs (Pa.fl1 x1 k)))) (fun i _ => 256 - (intOf i).toNat)
  case atStart => exact ⟨0, by omega, rfl, Lib.hid ⟨Pa.nl, HQ0.out, World.ownsRow_nil _ _ _ _⟩⟩
  case round =>
    clear HQ0
    obtain ⟨k, hk, rfl, HQ⟩ := hrel
    obtain ⟨v1, hq, ho⟩ := HQ.out
    obtain ⟨va, vc, rfl⟩ : ∃ va vc, v1 = .slice va k vc := by
      rcases own_nil_or ho with ⟨h1, h2⟩ | ⟨g', cap', h1, _⟩
      · exact ⟨none, 0, by rw [h1, h2]⟩
      · exact ⟨_, _, h1⟩
    have hbz := hq.b2
    have hb1 := hq.b1
    have c0 : wr.cell? ⟨w.heap.size + 1, 0, none⟩ = some (.slice va k vc) := by rw [cell_of_row _ _ _ _ _ (0, 0) hq.row]; rfl
    by_cases hlt : k < 256
    · have d1 : decide ((k : Int) < 256) = true := by simp; omega
      have HNX : Hid (Pa.fl1 x1 (k + 1) = Pa.fl1 x1 k ++ [(x1 : Int)]) := Lib.hid (Pa.fl1_next _ _)
      skip
      go_wp2_with (at_builtin; refine wpl_append tyI rfl _ _ rfl (own_below ho (below_alloc wr _)) (src_int wr (x1 : Nat)) rfl rfl (by omega) (by omega) (by simp; omega) ?_)
      intro v' w' own' hg' _
      rw [← ivs_append, ← HNX.out] at own'
      obtain ⟨hq', ho', hkp⟩ := Pa.fq_step (j := 0) hq ho hg' own'
      obtain ⟨va', vc', rfl⟩ : ∃ va' vc', v' = .slice va' (k + 1) vc' := by
        rcases own_nil_or own' with ⟨h1, h2⟩ | ⟨g', cap', h1, _⟩
        · omega
        · exact ⟨_, _, h1⟩
      have hrw := hq'.row
      have HN : Hid (∃ v1, Pa.Fq w (w'.setCell ⟨w.heap.size + 1, 0, none⟩ (.slice va' (k + 1) vc')) (w.heap.size + 2) #[v1, Pa.nl, Pa.nl] ∧ (w'.setCell ⟨w.heap.size + 1, 0, none⟩ (.slice va' (k + 1) vc')).ownsRow (w.heap.size + 2) 3 1 v1 (k + 1) (ivs (Pa.fl1 x1 (k + 1)))) := Lib.hid ⟨_, hq', ho'⟩
      have hw0 : ∃ z, w'.cell? ⟨w.heap.size + 1, 0, none⟩ = some z ∧ w'.frozen? ⟨w.heap.size + 1, 0, none⟩ = false := by
        have e := (hg'.block (w.heap.size + 1) (by simp; omega) (fun e => by have := (ho.lt _ e.symm).1; omega)).trans ((Below.heap_alloc wr _ (w.heap.size + 1) (by omega)).trans hq.row)
        exact ⟨_, by rw [cell_of_row _ _ _ _ _ (0, 0) e]; rfl, frozen_of_row w' _ 0 _ _ e⟩
      obtain ⟨z0, z1, z2⟩ := hw0
      clear hq ho hg' own' hq' ho' hkp hrw c0 HQ
      go_wp2
      go_roundw
      case rel => exact ⟨k + 1, by omega, by go_num, HN⟩
      case measure => simp [intOf]; omega
    · have ek : k = 256 := by omega
      have d1 : decide ((k : Int) < 256) = false := by simp; omega
      have ho2 : wr.ownsRow (w.heap.size + 2) 3 1 (.slice va k vc) 256 (ivs (Pa.fl1 x1 256)) := by have h9 := ho; rw [ek] at h9 ⊢; exact h9
      obtain ⟨B2, hB2⟩ : ∃ B2, wr.heap.size = B2 := ⟨_, rfl⟩
      have HQ1 : Hid (Pa.Fq w wr B2 #[.slice va k vc, Pa.nl, Pa.nl] ∧ wr.ownsRow (w.heap.size + 2) 3 1 (.slice va k vc) 256 (ivs (Pa.fl1 x1 256))) := Lib.hid ⟨hq.up (by omega) (by omega), ho2⟩
      have HV1 : Hid (∀ b, (Value.slice va k vc).ownBlock = some b → b < B2) := Lib.hid (fun b e => by have := (ho.lt b e).2; omega)
      clear hq ho ho2 ek hk hlt c0 HQ hB2
      generalize Value.slice va k vc = v1 at *
      go_wp2
      go_loopw [20] (fun i wr => ∃ k : Nat, k ≤ 259 ∧ i = .int .i64 ((k : Nat) : Int) ∧ Hid (∃ v2, Pa.Fq w wr B2 #[v1, v2, Pa.nl] ∧ wr.ownsRow (w.heap.size + 2) 3 1 v1 256 (ivs (Pa.fl1 x1 256)) ∧ wr.ownsRow B2 3 1 v2 k (ivs (Pa.fl2 x2 k)))) (fun i _ => 259 - (intOf i).toNat)
      case atStart => exact ⟨0, by omega, rfl, Lib.hid ⟨Pa.nl, HQ1.out.1, HQ1.out.2, World.ownsRow_nil _ _ _ _⟩⟩
      case round =>
        clear HQ1
        obtain ⟨k, hk, rfl, HQ⟩ := hrel
        obtain ⟨v2, hq, hk1, ho⟩ := HQ.out
        obtain ⟨va, vc, rfl⟩ : ∃ va vc, v2 = .slice va k vc := by
          rcases own_nil_or ho with ⟨h1, h2⟩ | ⟨g', cap', h1, _⟩
          · exact ⟨none, 0, by rw [h1, h2]⟩
          · exact ⟨_, _, h1⟩
        have hbz := hq.b2
        have hb1 := hq.b1
        have c0 : wr.cell? ⟨w.heap.size + 1, 1, none⟩ = some (.slice va k vc) := by rw [cell_of_row _ _ _ _ _ (0, 0) hq.row]; rfl
        by_cases hlt : k < 259
        · have d1 : decide ((k : Int) < 259) = true := by simp; omega
          have HNX : Hid (Pa.fl2 x2 (k + 1) = Pa.fl2 x2 k ++ [(x2 : Int) + (k : Int) % 7]) := Lib.hid (Pa.fl2_next _ _)
          have hm7 : wrap64 ((x2 : Int) + (k : Int) % 7) = (x2 : Int) + (k : Int) % 7 := by rw [IntWalk.wrap64_in _ ⟨by omega, by omega⟩]
          go_wp2_with (at_builtin; refine wpl_append tyI rfl _ _ rfl (own_below ho (below_alloc wr _)) (src_int wr _) rfl rfl (by omega) (by omega) (by simp; omega) ?_)
          intro v' w' own' hg' _
          rw [← ivs_append, ← HNX.out] at own'
          obtain ⟨hq', ho', hkp⟩ := Pa.fq_step (j := 1) hq ho hg' own'
          obtain ⟨va', vc', rfl⟩ : ∃ va' vc', v' = .slice va' (k + 1) vc' := by
            rcases own_nil_or own' with ⟨h1, h2⟩ | ⟨g', cap', h1, _⟩
            · omega
            · exact ⟨_, _, h1⟩
          have hrw := hq'.row
          have HN : Hid (∃ v2, Pa.Fq w (w'.setCell ⟨w.heap.size + 1, 1, none⟩ (.slice va' (k + 1) vc')) B2 #[v1, v2, Pa.nl] ∧ (w'.setCell ⟨w.heap.size + 1, 1, none⟩ (.slice va' (k + 1) vc')).ownsRow (w.heap.size + 2) 3 1 v1 256 (ivs (Pa.fl1 x1 256)) ∧ (w'.setCell ⟨w.heap.size + 1, 1, none⟩ (.slice va' (k + 1) vc')).ownsRow B2 3 1 v2 (k + 1) (ivs (Pa.fl2 x2 (k + 1)))) := Lib.hid ⟨_, hq', hkp (by omega) hk1 HV1.out, ho'⟩
          have hw0 : ∃ z, w'.cell? ⟨w.heap.size + 1, 1, none⟩ = some z ∧ w'.frozen? ⟨w.heap.size + 1, 1, none⟩ = false := by
            have e := (hg'.block (w.heap.size + 1) (by simp; omega) (fun e => by have := (ho.lt _ e.symm).1; omega)).trans ((Below.heap_alloc wr _ (w.heap.size + 1) (by omega)).trans hq.row)
            exact ⟨_, by rw [cell_of_row _ _ _ _ _ (0, 0) e]; rfl, frozen_of_row w' _ 1 _ _ e⟩
          obtain ⟨z0, z1, z2⟩ := hw0
          clear hq ho hg' own' hq' ho' hkp hrw c0 HQ hk1
          go_wp2
          go_roundw
          case rel => exact ⟨k + 1, by omega, by go_num, HN⟩
          case measure => simp [intOf]; omega
        · have ek : k = 259 := by omega
          have d1 : decide ((k : Int) < 259) = false := by simp; omega
          have ho2 : wr.ownsRow B2 3 1 (.slice va k vc) 259 (ivs (Pa.fl2 x2 259)) := by have h9 := ho; rw [ek] at h9 ⊢; exact h9
          obtain ⟨B3, hB3⟩ : ∃ B3, wr.heap.size = B3 := ⟨_, rfl⟩
          have HQ2 : Hid (Pa.Fq w wr B3 #[v1, .slice va k vc, Pa.nl] ∧ wr.ownsRow (w.heap.size + 2) 3 1 v1 256 (ivs (Pa.fl1 x1 256)) ∧ wr.ownsRow B2 3 1 (.slice va k vc) 259 (ivs (Pa.fl2 x2 259))) := Lib.hid ⟨hq.up (by omega) (by omega), hk1, ho2⟩
          have HV2 : Hid (∀ b, (Value.slice va k vc).ownBlock = some b → b < B3) := Lib.hid (fun b e => by have := (ho.lt b e).2; omega)
          have HV13 : Hid (∀ b, v1.ownBlock = some b → b < B3) := Lib.hid (fun b e => by have := (hk1.lt b e).2; omega)
          have HBB : Hid (w.heap.size + 2 ≤ B2) := Lib.hid hb1
          clear hq ho ho2 ek hk hlt hk1 c0 HQ hB3
          generalize Value.slice va k vc = v2 at *
          go_wp2
          go_loopw [33] (fun i wr => ∃ k : Nat, k ≤ 30 ∧ i = .int .i64 ((k : Nat) : Int) ∧ Hid (∃ v3, Pa.Fq w wr B3 #[v1, v2, v3] ∧ wr.ownsRow (w.heap.size + 2) 3 1 v1 256 (ivs (Pa.fl1 x1 256)) ∧ wr.ownsRow B2 3 1 v2 259 (ivs (Pa.fl2 x2 259)) ∧ wr.ownsRow B3 3 1 v3 k (ivs (Pa.fl3 x3 k)))) (fun i _ => 30 - (intOf i).toNat)
          case atStart => exact ⟨0, by omega, rfl, Lib.hid ⟨Pa.nl, HQ2.out.1, HQ2.out.2.1, HQ2.out.2.2, World.ownsRow_nil _ _ _ _⟩⟩
          case round =>
            clear HQ2
            obtain ⟨k, hk, rfl, HQ⟩ := hrel
            obtain ⟨v3, hq, hk1, hk2, ho⟩ := HQ.out
            obtain ⟨va, vc, rfl⟩ : ∃ va vc, v3 = .slice va k vc := by
              rcases own_nil_or ho with ⟨h1, h2⟩ | ⟨g', cap', h1, _⟩
              · exact ⟨none, 0, by rw [h1, h2]⟩
              · exact ⟨_, _, h1⟩
            have hbz := hq.b2
            have hb1 := hq.b1
            have c0 : wr.cell? ⟨w.heap.size + 1, 2, none⟩ = some (.slice va k vc) := by rw [cell_of_row _ _ _ _ _ (0, 0) hq.row]; rfl
            by_cases hlt : k < 30
            · have d1 : decide ((k : Int) < 30) = true := by simp; omega
              have HNX : Hid (Pa.fl3 x3 (k + 1) = Pa.fl3 x3 k ++ [(x3 : Int) * (k : Int)]) := Lib.hid (Pa.fl3_next _ _)
              have hme : (x3 : Int) * (k : Int) = ((x3 * k : Nat) : Int) := by simp
              have hmn : x3 * k ≤ 100000 * 30 := Nat.mul_le_mul h3 (by omega)
              have hm : wrap64 ((x3 : Int) * (k : Int)) = (x3 : Int) * (k : Int) := by rw [IntWalk.wrap64_in _ ⟨by omega, by omega⟩]
              clear hme hmn
              go_wp2_with (at_builtin; refine wpl_append tyI rfl _ _ rfl (own_below ho (below_alloc wr _)) (src_int wr _) rfl rfl (by omega) (by omega) (by simp; omega) ?_)
              intro v' w' own' hg' _
              rw [← ivs_append, ← HNX.out] at own'
              obtain ⟨hq', ho', hkp⟩ := Pa.fq_step (j := 2) hq ho hg' own'
              obtain ⟨va', vc', rfl⟩ : ∃ va' vc', v' = .slice va' (k + 1) vc' := by
                rcases own_nil_or own' with ⟨h1, h2⟩ | ⟨g', cap', h1, _⟩
                · omega
                · exact ⟨_, _, h1⟩
              have hrw := hq'.row
              have HN : Hid (∃ v3, Pa.Fq w (w'.setCell ⟨w.heap.size + 1, 2, none⟩ (.slice va' (k + 1) vc')) B3 #[v1, v2, v3] ∧ (w'.setCell ⟨w.heap.size + 1, 2, none⟩ (.slice va' (k + 1) vc')).ownsRow (w.heap.size + 2) 3 1 v1 256 (ivs (Pa.fl1 x1 256)) ∧ (w'.setCell ⟨w.heap.size + 1, 2, none⟩ (.slice va' (k + 1) vc')).ownsRow B2 3 1 v2 259 (ivs (Pa.fl2 x2 259)) ∧ (w'.setCell ⟨w.heap.size + 1, 2, none⟩ (.slice va' (k + 1) vc')).ownsRow B3 3 1 v3 (k + 1) (ivs (Pa.fl3 x3 (k + 1)))) := Lib.hid ⟨_, hq', hkp (by omega) hk1 HV13.out, hkp (HBB.out) hk2 HV2.out, ho'⟩
              have hw0 : ∃ z, w'.cell? ⟨w.heap.size + 1, 2, none⟩ = some z ∧ w'.frozen? ⟨w.heap.size + 1, 2, none⟩ = false := by
                have e := (hg'.block (w.heap.size + 1) (by simp; omega) (fun e => by have := (ho.lt _ e.symm).1; omega)).trans ((Below.heap_alloc wr _ (w.heap.size + 1) (by omega)).trans hq.row)
                exact ⟨_, by rw [cell_of_row _ _ _ _ _ (0, 0) e]; rfl, frozen_of_row w' _ 2 _ _ e⟩
              obtain ⟨z0, z1, z2⟩ := hw0
              clear hq ho hg' own' hq' ho' hkp hrw c0 HQ hk1 hk2
              go_wp2
              go_roundw
              case rel => exact ⟨k + 1, by omega, by go_num, HN⟩
              case measure => simp [intOf]; omega
            · have ek : k = 30 := by omega
              have d1 : decide ((k : Int) < 30) = false := by simp; omega
              have ho2 : wr.ownsRow B3 3 1 (.slice va k vc) 30 (ivs (Pa.fl3 x3 30)) := by have h9 := ho; rw [ek] at h9 ⊢; exact h9
              obtain ⟨y1, z1, rfl⟩ : ∃ y1 z1, v1 = .slice (some ⟨y1, 0, none⟩) 256 z1 := by
                rcases own_nil_or hk1 with ⟨_, h2⟩ | ⟨g', cap', h1, _⟩
                · omega
                · exact ⟨_, _, h1⟩
              obtain ⟨y2, z2, rfl⟩ : ∃ y2 z2, v2 = .slice (some ⟨y2, 0, none⟩) 259 z2 := by
                rcases own_nil_or hk2 with ⟨_, h2⟩ | ⟨g', cap', h1, _⟩
                · omega
                · exact ⟨_, _, h1⟩
              have hbz2 := HBB.out
              have cp0 : wr.cell? ⟨w.heap.size + 1, 0, none⟩ = some (.slice (some ⟨y1, 0, none⟩) 256 z1) := by rw [cell_of_row _ _ _ _ _ (0, 0) hq.row]; rfl
              have cp1 : wr.cell? ⟨w.heap.size + 1, 1, none⟩ = some (.slice (some ⟨y2, 0, none⟩) 259 z2) := by rw [cell_of_row _ _ _ _ _ (0, 0) hq.row]; rfl
              have cr0 : wr.cell? ⟨w.heap.size, 0, none⟩ = some Pa.nl := by rw [cell_of_row _ _ _ _ _ (0, 0) hq.res]; rfl
              have cr1 : wr.cell? ⟨w.heap.size, 1, none⟩ = some Pa.nl := by rw [cell_of_row _ _ _ _ _ (0, 0) hq.res]; rfl
              have cr2 : wr.cell? ⟨w.heap.size, 2, none⟩ = some Pa.nl := by rw [cell_of_row _ _ _ _ _ (0, 0) hq.res]; rfl
              have fr0 := frozen_of_row wr w.heap.size 0 _ _ hq.res
              have fr1 := frozen_of_row wr w.heap.size 1 _ _ hq.res
              have fr2 := frozen_of_row wr w.heap.size 2 _ _ hq.res
              have HFIN := Lib.hid (And.intro hq (And.intro hk1 (And.intro hk2 ho2)))
              clear hq hk1 hk2 ho ho2 HQ ek hk hlt
              go_wp2
              obtain ⟨hq, hk1, hk2, ho⟩ := HFIN.out
              have r1 := heap_setCell_same wr w.heap.size 0 _ _ (.slice (some ⟨y1, 0, none⟩) 256 z1) hq.res
              have r2 := heap_setCell_same _ w.heap.size 1 _ _ (.slice (some ⟨y2, 0, none⟩) 259 z2) r1
              have r3 := heap_setCell_same _ w.heap.size 2 _ _ (.slice va k vc) r2
              have hc : Ch wr (((wr.setCell ⟨w.heap.size, 0, none⟩ (.slice (some ⟨y1, 0, none⟩) 256 z1)).setCell ⟨w.heap.size, 1, none⟩ (.slice (some ⟨y2, 0, none⟩) 259 z2)).setCell ⟨w.heap.size, 2, none⟩ (.slice va k vc)) (fun j => j = w.heap.size) :=
                (((Ch.refl wr (fun j => j = w.heap.size)).set (p := ⟨w.heap.size, 0, none⟩) (.inl rfl) _).set (p := ⟨w.heap.size, 1, none⟩) (.inl rfl) _).set (p := ⟨w.heap.size, 2, none⟩) (.inl rfl) _
              refine bodyPost_ret (results_cell_row (fn := Tryd.f22) (p := 6) rfl _ _ w.heap.size _ _ (0, 0) _ rfl r3 Tryd.underlying36 rfl (by kernel_rfl)) rfl ⟨_, _, _, rfl, ?_, ?_, ?_, hq.bel.trans (hc.below hq.bel.size (fun j hj => by rw [hj]; exact Nat.le_refl _))⟩
              · exact own_base (hc.own hk1 (fun b e => by have := (hk1.lt b e).1; omega)) (fun b e => by have := (hk1.lt b e).1; omega)
              · exact own_base (hc.own hk2 (fun b e => by have := (hk2.lt b e).1; omega)) (fun b e => by have := (hk2.lt b e).1; omega)
              · exact own_base (hc.own ho (fun b e => by have := (ho.lt b e).1; omega)) (fun b e => by have := (ho.lt b e).1; omega)
end Go.Proofs.YtdojhglpiejfjaaDoor
end

section
namespace Go.Proofs.YtdojhglpiejfjaaDoor
open Go.RowKit
namespace Pz
theorem pos_lt (F : Nat → Tok) {j k : Nat} (h : j < k) : pos F j < pos F k := by
  induction k with
  | zero => omega
  | succ k ih =>
    have h1 : pos F (k + 1) = pos F k + sp (F (pos F k)) := rfl
    have h2 := sp_pos (F (pos F k))
    rcases Nat.lt_succ_iff_lt_or_eq.1 h with h | rfl
    · have := ih h; omega
    · omega
theorem pos_one {F : Nat → Tok} {N K K' : Nat} (h : pos F K = N) (h' : pos F K' = N) : K = K' := by
  rcases Nat.lt_trichotomy K K' with hl | rfl | hl
  · have := pos_lt F hl; omega
  · rfl
  · have := pos_lt F hl; omega
theorem one_each {F : Nat → Tok} {K : Nat} (h : pos F K = K) : ∀ j, j ≤ K → pos F j = j := fun j hj => by
  have h1 := pos_ge F j
  have : ∀ d, j + d ≤ K → pos F j + d ≤ pos F (j + d) := fun d => by
    induction d with
    | zero => intro _; simp
    | succ d ih =>
      intro hd
      have h2 : pos F (j + (d + 1)) = pos F (j + d) + sp (F (pos F (j + d))) := rfl
      have := sp_pos (F (pos F (j + d)))
      have := ih (by omega)
      omega
  have := this (K - j) (by omega)
  rw [show j + (K - j) = K by omega, h] at this
  omega
theorem sm_le9 (l1 l2 l3 : List Int) {F : Nat → Tok} {c : Int} {K : Nat} (h : pos F K = K) (hF : ∀ p, p < K → Pa.pr l1 l2 l3 (F p) = c) : ∀ k, k ≤ K → Pa.sm l1 l2 l3 (toks F k) k = c * k
  | 0, _ => by simp [Pa.sm]
  | k + 1, hk => by
    rw [sm_next, sm_le9 l1 l2 l3 h hF k (by omega), one_each h k (by omega), hF k (by omega), Int.natCast_add, Int.mul_add]
    simp
end Pz
theorem ex_none : ∀ p, p < 3 → ∀ f, f < 3 → ¬ Lz.Mat (gb exl) 9 p 3 f := by decide +kernel
theorem ex_gr {Rs : List (List (Nat × Nat))} (h : Recs exl 9 9 Rs) : Pz.pos (Pz.gr (gb exl) (fun p => ra Rs (p : Int))) 4 = 9 ∧ (∀ j, j < 4 → Pz.pos (Pz.gr (gb exl) (fun p => ra Rs (p : Int))) j < 9) ∧ Pz.toks (Pz.gr (gb exl) (fun p => ra Rs (p : Int))) 4 = [(0, 97), (0, 98), (0, 99), (6, 3)] := by
  have htx := Pz.txt_of h
  have lit : ∀ p, p < 3 → Pz.gr (gb exl) (fun p => ra Rs (p : Int)) p = (0, (gb exl p : Int)) := fun p hp => by
    refine (Pz.gr_cho htx (by omega)).2.1 ?_
    rcases Nat.lt_or_ge (Lz.top (ra Rs (p : Int))) 3 with h3 | h3
    · omega
    · have hm := (Lz.far_some (htx.recs p (by omega)) (Nat.le_refl 3) h3).1
      have hf := hm.2.1
      exact absurd hm (ex_none p hp _ (by omega))
  have h3 : Pz.gr (gb exl) (fun p => ra Rs (p : Int)) 3 = (6, 3) := by
    have e := ex_lastT (htx.recs 3 (by omega))
    have := (Pz.gr_cho htx (p := 3) (by omega)).2.2 (by rw [e.2.1]; omega)
    rw [this, e.2.1, e.2.2]; rfl
  have l0 := lit 0 (by omega)
  have l1 := lit 1 (by omega)
  have l2 := lit 2 (by omega)
  generalize Pz.gr (gb exl) (fun p => ra Rs (p : Int)) = F at *
  have s1 : ∀ y, Pz.sp ((0 : Int), y) = 1 := fun y => rfl
  have s6 : Pz.sp ((6 : Int), (3 : Int)) = 6 := rfl
  have q0 : Pz.pos F 0 = 0 := rfl
  have q1 : Pz.pos F 1 = 1 := by show 0 + Pz.sp (F 0) = 1; rw [l0, s1]
  have q2 : Pz.pos F 2 = 2 := by show Pz.pos F 1 + Pz.sp (F (Pz.pos F 1)) = 2; rw [q1, l1, s1]
  have q3 : Pz.pos F 3 = 3 := by show Pz.pos F 2 + Pz.sp (F (Pz.pos F 2)) = 3; rw [q2, l2, s1]
  have q4 : Pz.pos F 4 = 9 := by show Pz.pos F 3 + Pz.sp (F (Pz.pos F 3)) = 9; rw [q3, h3, s6]
  refine ⟨q4, fun j hj => ?_, ?_⟩
  · rcases (show j = 0 ∨ j = 1 ∨ j = 2 ∨ j = 3 by omega) with rfl | rfl | rfl | rfl <;> omega
  · have t : Pz.toks F 4 = [F (Pz.pos F 0), F (Pz.pos F 1), F (Pz.pos F 2), F (Pz.pos F 3)] := rfl
    rw [t, q0, q1, q2, q3, l0, l1, l2, h3]
    rfl
abbrev ex1 : List Int := Pa.fl1 ((9 : Nat) : Int) 256
abbrev ex2 : List Int := Pa.fl2 ((3 : Nat) : Int) 259
abbrev ex3 : List Int := Pa.fl3 ((1 : Nat) : Int) 30
theorem ex_price : Pa.good ex1 ex2 ex3 = true ∧ Pa.sm ex1 ex2 ex3 [(0, 97), (0, 98), (0, 99), (6, 3)] 4 = 38 ∧ ∀ x, x < 256 → Pa.pr ex1 ex2 ex3 (0, ((x : Nat) : Int)) = 9 := by decide +kernel
theorem ex_cheap {Rs : List (List (Nat × Nat))} (h : Recs exl 9 9 Rs) {C : List Int} {T : List Tok} (hd : Pz.Dn (Pa.pr ex1 ex2 ex3) (gb exl) 9 (fun p => ra Rs (p : Int)) 0 C T) {K : Nat} (hK : Pz.pos (fun p => T.getD p (0, 0)) K = 9) (hj : ∀ j, j < K → Pz.pos (fun p => T.getD p (0, 0)) j < 9) :
    0 < K ∧ K < 9 := by
  have htx := Pz.txt_of h
  obtain ⟨g1, g2, g3⟩ := ex_gr h
  have hle := Pz.cost_le htx hd.least (F := Pz.gr (gb exl) (fun p => ra Rs (p : Int))) (fun p hp => (Pz.gr_cho htx hp).1) 4 g2
  rw [g1, g3, ex_price.2.1] at hle
  have heq := Pz.cost_eq (l1 := ex1) (l2 := ex2) (l3 := ex3) (C := fun p => C.getD p 0) (F := fun p => T.getD p (0, 0)) (N := 9) (fun p hp => hd.eq p (Nat.zero_le _) hp) K hj
  have hfin : C.getD 9 0 = 0 := hd.fin
  rw [hK, hfin] at heq
  rw [hfin] at hle
  have h9 := Pz.pos_ge (fun p => T.getD p (0, 0)) K
  rw [hK] at h9
  refine ⟨?_, ?_⟩
  · rcases Nat.eq_zero_or_pos K with rfl | h0
    · simp [Pz.pos] at hK
    · exact h0
  · rcases Nat.lt_or_ge K 9 with h | h
    · exact h
    · obtain rfl : K = 9 := by omega
      have hl : ∀ p, p < 9 → Pa.pr ex1 ex2 ex3 ((fun p => T.getD p (0, 0)) p) = 9 := fun p hp => by
        have hp1 := Pz.one_each hK (p + 1) (by omega)
        have hp0 := Pz.one_each hK p (by omega)
        have hs : Pz.pos (fun p => T.getD p (0, 0)) (p + 1) = Pz.pos (fun p => T.getD p (0, 0)) p + Pz.sp ((fun p => T.getD p (0, 0)) (Pz.pos (fun p => T.getD p (0, 0)) p)) := rfl
        rw [hp1, hp0] at hs
        rcases hd.cho p (Nat.zero_le _) hp with e | ⟨n, h3, hn, e⟩
        · show Pa.pr ex1 ex2 ex3 (T.getD p (0, 0)) = 9
          rw [e]; exact ex_price.2.2 _ (gb_lt _ _)
        · have e2 : Pz.sp ((fun p => T.getD p (0, 0)) p) = n := by
            show Pz.sp (T.getD p (0, 0)) = n
            rw [e]; unfold Pz.sp; simp; omega
          omega
      have := Pz.sm_le9 ex1 ex2 ex3 hK hl 9 (Nat.le_refl _)
      omega
end Go.Proofs.YtdojhglpiejfjaaDoor
end
