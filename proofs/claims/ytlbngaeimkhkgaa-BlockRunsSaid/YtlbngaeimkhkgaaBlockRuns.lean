/- For all lengths (at most 3000, as the law itself asks): block.Runs tells runs that come to the lengths by the document's definition, no more of them than lengths, or refuses lengths that are none; its argument is left as it was. No conditions but those of the law itself. -/
import Derived.Test.YtlbngaeimkhkgaaRows
import Derived.Test.YtlbngaeimkhkgaaOpen
import Derived.Test.YtlbngaeimkhkgaaBlkRuns
import Derived.Test.YtlbngaeimkhkgaaBlkBack
import Derived.Test.YtlbngaeimkhkgaaBlkRefUn
import Derived.Test.YtlbngaeimkhkgaaNumInts
import Derived.Test.YtlbngaeimkhkgaaNumIs
import Derived.Test.YtlbngaeimkhkgaaStepApp
namespace Go.Proofs.Ytlbngaeimkhkgaa.BlockRuns
open Go.ChangeShapes Go.WideShapes Go.ChangeAt Go.RowKit
open Go.ChangeMaps (open_string shut_string)
set_option linter.unusedVariables false
theorem own : ownKnob Try.prog.godebug = none := by kernel_rfl
theorem laidOut : laidOutB Try.prog = true := by kernel_rfl
theorem own_ints0 (w : World) (base : Nat) (hb : base ≤ w.heap.size) : (w.alloc (.cells #[] 3)).ownsRow base 3 1 (.slice (some ⟨w.heap.size, 0, none⟩) 0 0) 0 (ivs []) :=
  ⟨by simp [ivs], .inr ⟨w.heap.size, 0, #[], rfl, hb, heap_alloc_last w _, by omega, by unfold maxLen; omega, rfl, rfl⟩⟩
/-- Two rows of numbers of the call's own: the runs' symbols, and their extras. -/
structure SE (w0 : World) (B : Nat) (wr : World) (sv ev : Value) (k j : Nat) (rs : List Tok) : Prop where
  os : wr.ownsRow B 3 1 sv k (ivs ((rs.take k).map (·.1)))
  oe : wr.ownsRow B 3 1 ev j (ivs ((rs.take j).map (·.2)))
  ne : ∀ b, sv.ownBlock = some b → ev.ownBlock ≠ some b
  bel : Below B w0 wr
  hB : B ≤ w0.heap.size
theorem SE.al {w0 : World} {B : Nat} {u : World} {sv ev : Value} {k j : Nat} {rs : List Tok} (h : SE w0 B u sv ev k j rs) {u' : World} (hb : Below u.heap.size u u') : SE w0 B u' sv ev k j rs :=
  ⟨own_below h.os hb, own_below h.oe hb, h.ne, h.bel.trans (hb.mono (Nat.le_trans h.hB h.bel.size)), h.hB⟩
theorem own_next {u u' : World} {v v' : Value} {b : Nat} (st : Step u u' v v') (hb : v'.ownBlock = some b) : v.ownBlock = some b ∨ u.heap.size ≤ b := by
  rcases st with ⟨g, n, cap, n', rfl, rfl, _⟩ | ⟨⟨g, hg, hge⟩, _⟩
  · exact .inl hb
  · rw [hg] at hb
    obtain rfl := Option.some.inj hb
    exact .inr hge
theorem take1 (rs : List Tok) (k : Nat) (h : k < rs.length) (f : Tok → Int) : (rs.take (k + 1)).map f = (rs.take k).map f ++ [f (rs.getD k (0, 0))] := by
  rw [List.take_succ_eq_append_getElem h, List.map_append]; simp [List.getD, List.getElem?_eq_getElem h]
theorem SE.p1 {w0 : World} {B : Nat} {u u' : World} {sv sv' ev : Value} {k j : Nat} {rs : List Tok} {x : Int} (h : SE w0 B u sv ev k j rs) (hx : (rs.take (k + 1)).map (·.1) = (rs.take k).map (·.1) ++ [x])
    (own : u'.ownsRow B 3 1 sv' (k + 1) (ivs ((rs.take k).map (·.1)) ++ ivs [x])) (st : Step u u' sv sv') : SE w0 B u' sv' ev (k + 1) j rs := by
  have c := Ch.step st
  refine ⟨by rw [hx, ivs_append]; exact own, c.own h.oe (fun g hg hb => h.ne g hb hg), fun b hb he => ?_, st.below h.bel (Nat.le_trans h.hB h.bel.size) (fun g hg => (h.os.lt g hg).1), h.hB⟩
  rcases own_next st hb with h1 | h1
  · exact h.ne b h1 he
  · have := (h.oe.lt b he).2
    omega
theorem SE.p2 {w0 : World} {B : Nat} {u u' : World} {sv ev ev' : Value} {k j : Nat} {rs : List Tok} {x : Int} (h : SE w0 B u sv ev k j rs) (hx : (rs.take (j + 1)).map (·.2) = (rs.take j).map (·.2) ++ [x])
    (own : u'.ownsRow B 3 1 ev' (j + 1) (ivs ((rs.take j).map (·.2)) ++ ivs [x])) (st : Step u u' ev ev') : SE w0 B u' sv ev' k (j + 1) rs := by
  have c := Ch.step st
  refine ⟨c.own h.os (fun g hg hb => h.ne g hg hb), by rw [hx, ivs_append]; exact own, fun b hb he => ?_, st.below h.bel (Nat.le_trans h.hB h.bel.size) (fun g hg => (h.oe.lt g hg).1), h.hB⟩
  rcases own_next st he with h1 | h1
  · exact h.ne b hb h1
  · have := (h.os.lt b hb).2
    omega
/-- .. beside the box of the run that is added. -/
structure SB (w0 : World) (B : Nat) (u : World) (sv ev : Value) (k j : Nat) (rs : List Tok) (q : Nat) (x y : Int) : Prop where
  se : SE w0 B u sv ev k j rs
  c0 : u.cell? ⟨q, 0, none⟩ = some (.int .i64 x)
  c1 : u.cell? ⟨q, 1, none⟩ = some (.int .i64 y)
  hq : q < u.heap.size
  nq : sv.ownBlock ≠ some q
  mq : ev.ownBlock ≠ some q
theorem SB.al {w0 : World} {B : Nat} {u : World} {sv ev : Value} {k j q : Nat} {rs : List Tok} {x y : Int} (h : SB w0 B u sv ev k j rs q x y) {u' : World} (hb : Below u.heap.size u u') : SB w0 B u' sv ev k j rs q x y :=
  ⟨h.se.al hb, (hb.cell (p := ⟨q, 0, none⟩) h.hq).trans h.c0, (hb.cell (p := ⟨q, 1, none⟩) h.hq).trans h.c1, Nat.lt_of_lt_of_le h.hq hb.size, h.nq, h.mq⟩
theorem SB.p1 {w0 : World} {B : Nat} {u u' : World} {sv sv' ev : Value} {k j q : Nat} {rs : List Tok} {x y : Int} (h : SB w0 B u sv ev k j rs q x y) (hx : (rs.take (k + 1)).map (·.1) = (rs.take k).map (·.1) ++ [x])
    (own : u'.ownsRow B 3 1 sv' (k + 1) (ivs ((rs.take k).map (·.1)) ++ ivs [x])) (st : Step u u' sv sv') : SB w0 B u' sv' ev (k + 1) j rs q x y := by
  have hbq := (Ch.step st).block q h.hq h.nq
  exact ⟨h.se.p1 hx own st, (World.cell?_of_block hbq).trans h.c0, (World.cell?_of_block hbq).trans h.c1, Nat.lt_of_lt_of_le h.hq st.size, fun e => (own_next st e).elim h.nq (fun h1 => by have := h.hq; omega), h.mq⟩
theorem SB.p2 {w0 : World} {B : Nat} {u u' : World} {sv ev ev' : Value} {k j q : Nat} {rs : List Tok} {x y : Int} (h : SB w0 B u sv ev k j rs q x y) (hx : (rs.take (j + 1)).map (·.2) = (rs.take j).map (·.2) ++ [y])
    (own : u'.ownsRow B 3 1 ev' (j + 1) (ivs ((rs.take j).map (·.2)) ++ ivs [y])) (st : Step u u' ev ev') : SB w0 B u' sv ev' k (j + 1) rs q x y := by
  have hbq := (Ch.step st).block q h.hq h.mq
  exact ⟨h.se.p2 hx own st, (World.cell?_of_block hbq).trans h.c0, (World.cell?_of_block hbq).trans h.c1, Nat.lt_of_lt_of_le h.hq st.size, h.nq, fun e => (own_next st e).elim h.mq (fun h1 => by have := h.hq; omega)⟩
theorem src_at (w : World) (q : Nat) (hq : q = w.heap.size) (n : Int) : SrcRow (w.alloc (.cells #[Value.int .i64 n] 3)) (some ⟨q, 0, none⟩) 1 1 (ivs [n]) 1 := by
  subst hq; exact src_int w n
theorem src_st {u u' : World} {v v' : Value} {q m c sz : Nat} {news : List Value} (h : SrcRow u (some ⟨q, 0, none⟩) m c news sz) (st : Step u u' v v') (hq : q < u.heap.size) (hv : v.ownBlock ≠ some q) : SrcRow u' (some ⟨q, 0, none⟩) m c news sz :=
  ⟨h.hl, h.hnone, fun ad e j x hx => by
    have h1 := h.hc ad e j x hx
    obtain rfl := Option.some.inj e
    rw [Addr.add_mid] at h1 ⊢
    rw [World.cell?_of_block ((Ch.step st).block q hq hv)]; exact h1, h.h1⟩
theorem map_wf (f : Tok → Int) (rs : List Tok) (hg : Bl.Rg rs) (h : ∀ t : Tok, (0 ≤ t.1 ∧ t.1 ≤ 18 ∧ 0 ≤ t.2 ∧ t.2 ≤ 127) → 0 ≤ f t ∧ f t ≤ 127) : Wf (rs.map f) := by
  intro n hn
  obtain ⟨t, ht, rfl⟩ := List.mem_map.1 hn
  have := h t (hg t ht)
  simp only [Lit.wf, IntKind.min, IntKind.max, IntKind.signed, IntKind.bits, Bool.and_eq_true, decide_eq_true_eq, if_true]
  simp; omega
theorem dn_below (w : World) : Below w.heap.size w w.drew := ⟨rfl, rfl, rfl, Nat.le_refl _, fun _ _ => rfl⟩
theorem src_yx {w0 u w' : World} {v v' : Value} {x y : Int} (st : Step u w' v v') (hv : v.ownBlock = some w0.heap.size → False) (hu : u = ((w0.alloc (.cells #[Value.int .i64 y] 3)).alloc (.cells #[Value.int .i64 x] 3)).drew) : SrcRow w' (some ⟨w0.heap.size, 0, none⟩) 1 1 (ivs [y]) 1 := by
  subst hu
  refine src_st ((src_at w0 _ rfl y).mono (below_alloc _ (.cells #[Value.int .i64 x] 3)).drew) st (by simp; omega) hv
theorem src_xy {w0 u w' : World} {v v' : Value} {x y : Int} (st : Step u w' v v') (hv : v.ownBlock = some (w0.heap.size + 1) → False) (hu : u = ((w0.alloc (.cells #[Value.int .i64 x] 3)).alloc (.cells #[Value.int .i64 y] 3)).drew) : SrcRow w' (some ⟨w0.heap.size + 1, 0, none⟩) 1 1 (ivs [y]) 1 := by
  subst hu
  have h : w0.heap.size + 1 = (w0.alloc (.cells #[Value.int .i64 x] 3)).heap.size := by simp
  refine src_st ((src_at (w0.alloc (.cells #[Value.int .i64 x] 3)) _ h y).mono (dn_below _)) st (by simp) hv
theorem wf_nine : Wf [0, 0, 0, 0, 5, 5, 5, 5, 5] := by
  intro n hn
  simp only [List.mem_cons, List.not_mem_nil, or_false] at hn
  have h : n = 0 ∨ n = 5 := by omega
  rcases h with rfl | rfl <;> rfl
set_option maxRecDepth 100000 in
set_option maxHeartbeats 4000000 in
theorem walk (a : Option Addr) (len cap : Nat) (l : List Int) (w : World) (h : Is .i64 w a len cap l) (hr : cap * 8 ≤ 140737488351232) :
    Calls Try.prog 3 #[.slice a len cap] w fun e w' => e = .returned (.bool true) ∧ Below w.heap.size w w' := by
  have hle := h.hle
  have H := Lib.hid h
  clear h
  have HX := Lib.hid (is_lit w [0, 0, 0, 0, 5, 5, 5, 5, 5] 9 3 #[.int .i64 0, .int .i64 0, .int .i64 0, .int .i64 0, .int .i64 5, .int .i64 5, .int .i64 5, .int .i64 5, .int .i64 5] rfl rfl wf_nine)
  have HXB := Lib.hid (below_alloc w (.cells #[.int .i64 0, .int .i64 0, .int .i64 0, .int .i64 0, .int .i64 5, .int .i64 5, .int .i64 5, .int .i64 5, .int .i64 5] 3))
  go_enter Try.func3, Try.ntmps3
  go_wp2_with fail
  refine (runs_any _ 9 9 [0, 0, 0, 0, 5, 5, 5, 5, 5] _ HX.out (by omega)).mono ?_
  intro e w1 hp
  rw [Bl.ru_ex] at hp
  obtain ⟨hb, v, rfl, own⟩ := hp
  have own : w1.ownsRow (w.alloc (.cells #[.int .i64 0, .int .i64 0, .int .i64 0, .int .i64 0, .int .i64 5, .int .i64 5, .int .i64 5, .int .i64 5, .int .i64 5] 3)).heap.size 29 2 v 3 (tks [(17, 1), (5, 0), (16, 1)]) := own
  obtain ⟨g, vc, rfl, _⟩ : ∃ g vc, v = .slice (some ⟨g, 0, none⟩) 3 vc ∧ 3 ≤ vc := by
    rcases own_nil_or own with ⟨_, h0⟩ | ⟨g, cap, h0, h1, _⟩
    · simp at h0
    · exact ⟨g, cap, h0, h1⟩
  have e0 : w1.cell? ⟨g, 0, none⟩ = some (.int .i64 17) := own.cellAt 0 (by omega)
  have e1 : w1.cell? ⟨g, 1, none⟩ = some (.int .i64 1) := own.cellAt 1 (by omega)
  have e4 : w1.cell? ⟨g, 4, none⟩ = some (.int .i64 16) := own.cellAt 4 (by omega)
  have e5 : w1.cell? ⟨g, 5, none⟩ = some (.int .i64 1) := own.cellAt 5 (by omega)
  have HB1 := Lib.hid (below_then HXB.out hb)
  clear own hb HX HXB
  by_cases c1 : 3000 < len
  · have d1 : decide ((3000 : Int) < (len : Int)) = true := decide_eq_true (by omega)
    clear c1
    go_wp2
    go_ret
    exact ⟨rfl, HB1.out⟩
  have d1 : decide ((3000 : Int) < (len : Int)) = false := decide_eq_false (by omega)
  have hl3 : len ≤ 3000 := by omega
  clear c1
  have HCP := Lib.hid (copyI_any a len cap l w1 (H.out.mono HB1.out) (by omega))
  go_wp2_with fail
  refine HCP.out.mono ?_
  rintro e w2 ⟨gc, rfl, own2, hb2⟩
  have hlen := H.out.hlen
  have hwf : Wf l := H.out.wf
  have hcp := is_of_own own2 (l := l ++ [-77]) (wf_mark hwf) 0 len (len + 1) (by omega) (by omega)
  rw [List.drop_zero, List.take_append_of_le_length (by omega), List.take_of_length_le (by omega)] at hcp
  have HB2 := Lib.hid (below_then HB1.out hb2)
  have HO2 := Lib.hid own2
  have HRU := Lib.hid (runs_any _ len (len + 1) l w2 hcp hl3)
  have HBK := Lib.hid (Bl.ru_back l)
  have HK : Hid (∀ w', Below w2.heap.size w2 w' → Calls Try.prog 6 #[.slice (some ⟨gc, 0, none⟩) len (len + 1), .slice a len cap] w' fun e w'' => e = .returned (.bool true) ∧ ∃ n, w'' = w'.drewN n) :=
    Lib.hid (fun w' hb => keptI_any gc len a cap l w' _ (by omega) hwf (own_below own2 hb) (H.out.mono (below_then HB2.out hb)))
  have HLL := Lib.hid hlen
  clear own2 hb2 hcp HCP hlen hwf e0 e1 e4 e5
  go_wp2_with fail
  refine HRU.out.mono ?_
  intro e w3 hp
  cases hc : Bl.ru [] l with
  | none =>
    rw [hc] at hp
    have hbk := HBK.out
    rw [hc] at hbk
    obtain ⟨hb3, rfl⟩ := hp
    obtain ⟨x, hx, hbad⟩ := hbk
    have HBD : Hid (¬ ∀ i, i < len → 0 ≤ l.getD i 0 ∧ l.getD i 0 ≤ 15) := Lib.hid (fun hall => by
      obtain ⟨i, hi, rfl⟩ := List.getElem_of_mem hx
      have := hall i (by rw [← HLL.out]; exact hi)
      rw [List.getD, List.getElem?_eq_getElem hi] at this
      exact hbad this)
    have HB3 := Lib.hid (below_then HB2.out hb3)
    have HK3 := Lib.hid (HK.out w3 hb3)
    clear hb3 hx hbad HRU HBK HK hc HO2
    go_wp2_with fail
    refine HK3.out.mono ?_
    rintro e w4 ⟨rfl, d4, rfl⟩
    have HB4 := Lib.hid (below_then HB3.out (drewN_is w3 d4))
    revert HB4
    generalize World.drewN _ _ = w4
    intro HB4
    have H4 := Lib.hid (H.out.mono HB4.out)
    clear HK3 H
    go_wp2
    go_loop [58] (fun iv => ∃ k : Nat, k ≤ len ∧ iv = .int .i64 k ∧ Hid (∀ i, i < k → 0 ≤ l.getD i 0 ∧ l.getD i 0 ≤ 15)) (fun iv => len - (intOf iv).toNat)
    case atStart => exact ⟨0, by omega, rfl, Lib.hid (fun i hi => by omega)⟩
    case round =>
      obtain ⟨k, hk, rfl, HA⟩ := hrel
      by_cases hlt : k < len
      · obtain ⟨b1, off1, rfl, _, t1⟩ := H4.out.at' k hlt
        have HN : Hid (0 ≤ l.getD k 0 ∧ l.getD k 0 ≤ 15 → ∀ i, i < k + 1 → 0 ≤ l.getD i 0 ∧ l.getD i 0 ≤ 15) := Lib.hid (fun h i hi => by
          rcases Nat.lt_succ_iff_lt_or_eq.1 hi with h1 | rfl
          · exact HA.out i h1
          · exact h)
        clear HA
        generalize l.getD k 0 = z at *
        by_cases h1 : z < 0
        · have d5 : decide (z < 0) = true := decide_eq_true h1
          clear HN
          go_wp2_with fail
          refine (is_yes 6 rfl _).mono ?_
          rintro e w8 ⟨rfl, rfl⟩
          go_wp2
          go_ret
          exact ⟨rfl, HB4.out⟩
        · have d5 : decide (z < 0) = false := decide_eq_false h1
          by_cases h2 : 15 < z
          · have d6 : decide (15 < z) = true := decide_eq_true h2
            clear HN
            go_wp2_with fail
            refine (is_yes 6 rfl _).mono ?_
            rintro e w8 ⟨rfl, rfl⟩
            go_wp2
            go_ret
            exact ⟨rfl, HB4.out⟩
          · have d6 : decide (15 < z) = false := decide_eq_false h2
            have HN2 := Lib.hid (HN.out (by omega))
            clear HN h1 h2
            go_wp2
            go_round
            case rel => exact ⟨k + 1, by omega, by go_num, HN2⟩
            case measure => simp [intOf]; omega
      · obtain rfl : len = k := by omega
        exact absurd HA.out HBD.out
  | some rs =>
    rw [hc] at hp
    have hbk := HBK.out
    rw [hc] at hbk
    obtain ⟨hb3, v3, rfl, own3⟩ := hp
    obtain ⟨hin, hun, hle3, hrg⟩ := hbk
    obtain ⟨a3, c3, rfl, hts⟩ := own_rs2 own3 (fun i hi => wf_rg _ (hrg (rs.getD i (0, 0)) (by simp [List.getD, List.getElem?_eq_getElem hi])))
    have hlt3 : rs.length ≤ len := by rw [← HLL.out]; exact hle3
    have HIN : Hid (∀ i, 0 ≤ l.getD i 0 ∧ l.getD i 0 ≤ 15) := Lib.hid (fun i => hin.get i)
    have HUN := Lib.hid hun
    have HRG := Lib.hid hrg
    have HT3 := Lib.hid hts
    have HB3 := Lib.hid (below_then HB2.out hb3)
    have HK3 := Lib.hid (HK.out w3 hb3)
    have HLW := Lib.hid hin.wf
    clear hb3 HRU HBK HK hc HO2 own3 hin hun hle3 hrg hts
    go_wp2_with fail
    refine HK3.out.mono ?_
    rintro e w4 ⟨rfl, d4, rfl⟩
    have HB4 := Lib.hid (below_then HB3.out (drewN_is w3 d4))
    have HT4 := Lib.hid (HT3.out.mono (drewN_is w3 d4))
    revert HB4 HT4
    generalize World.drewN _ _ = w4
    intro HB4 HT4
    have H4 := Lib.hid (H.out.mono HB4.out)
    clear HK3 H HT3 HB3
    go_wp2
    go_loop [58] (fun iv => ∃ k : Nat, k ≤ len ∧ iv = .int .i64 k) (fun iv => len - (intOf iv).toNat)
    case atStart => exact ⟨0, by omega, rfl⟩
    case round =>
      obtain ⟨k, hk, rfl⟩ := hrel
      by_cases hlt : k < len
      · obtain ⟨b1, off1, rfl, _, t1⟩ := H4.out.at' k hlt
        have hz := HIN.out k
        generalize l.getD k 0 = z at *
        have d5 : decide (z < 0) = false := decide_eq_false (by omega)
        have d6 : decide (15 < z) = false := decide_eq_false (by omega)
        go_wp2
        go_round
        case rel => exact ⟨k + 1, by omega, by go_num⟩
        case measure => simp [intOf]; omega
      · obtain rfl : len = k := by omega
        go_wp2
        have HOS := Lib.hid (own_below (own_ints0 w4 w4.heap.size (Nat.le_refl _)) (below_alloc (w4.alloc (.cells #[] 3)) (.cells #[] 3)))
        have HOE := Lib.hid (own_ints0 (w4.alloc (.cells #[] 3)) w4.heap.size (by simp))
        have hbq := (below_alloc w4 (.cells #[] 3)).trans ((below_alloc (w4.alloc (.cells #[] 3)) (.cells #[] 3)).mono (by simp))
        have HBQ := Lib.hid hbq
        have hsz : (w4.alloc (.cells #[] 3)).heap.size = w4.heap.size + 1 := by simp
        rw [hsz] at HOE
        clear hbq hsz HIN
        revert HOS HOE HBQ
        generalize ((w4.alloc (.cells #[] 3)).alloc (.cells #[] 3)) = w5
        intro HOS HOE HBQ
        go_loopw [10, 11, 80] (fun sv ev iv wr => ∃ k : Nat, k ≤ rs.length ∧ iv = .int .i64 k ∧ Hid (SE w4 w4.heap.size wr sv ev k k rs)) (fun _ _ iv _ => rs.length - (intOf iv).toNat)
        case atStart => exact ⟨0, by omega, rfl, Lib.hid ⟨HOS.out, HOE.out, fun b hb he => by simp [Value.ownBlock] at hb he; omega, HBQ.out, Nat.le_refl _⟩⟩
        case round =>
          obtain ⟨k, hk, rfl, HS⟩ := hrel
          by_cases hlt : k < rs.length
          · obtain ⟨bt, ot, rfl, _, t0, t1⟩ := (HT4.out.mono HS.out.bel).at' k hlt
            have HN1 := Lib.hid (take1 rs k hlt (·.1))
            have HN2 := Lib.hid (take1 rs k hlt (·.2))
            generalize rs.getD k (0, 0) = t at *
            obtain ⟨x, y⟩ := t
            simp only at t0 t1 HN1 HN2
            clear HOS HOE HBQ
            go_wp2_with fail
            have hal := below_alloc wr (.cells #[.int .i64 x, .int .i64 y] 29)
            have x0 : (wr.alloc (.cells #[.int .i64 x, .int .i64 y] 29)).cell? ⟨wr.heap.size, 0, none⟩ = some (.int .i64 x) := by rw [cell_of_row _ _ _ _ _ (0, 0) (heap_alloc_last wr _)]; rfl
            have x1 : (wr.alloc (.cells #[.int .i64 x, .int .i64 y] 29)).cell? ⟨wr.heap.size, 1, none⟩ = some (.int .i64 y) := by rw [cell_of_row _ _ _ _ _ (0, 0) (heap_alloc_last wr _)]; rfl
            have HX : Hid (SB w4 w4.heap.size (wr.alloc (.cells #[.int .i64 x, .int .i64 y] 29)) u10 u11 k k rs wr.heap.size x y) := Lib.hid ⟨HS.out.al hal, x0, x1, by simp, fun e => by have := (HS.out.os.lt _ e).2; omega, fun e => by have := (HS.out.oe.lt _ e).2; omega⟩
            have hz1 : w4.heap.size ≤ (wr.alloc (.cells #[.int .i64 x, .int .i64 y] 29)).heap.size := HX.out.se.bel.size
            have hq1 : wr.heap.size < (wr.alloc (.cells #[.int .i64 x, .int .i64 y] 29)).heap.size := HX.out.hq
            clear hal HS t0 t1
            revert HX x0 x1 hz1 hq1
            generalize hw1 : (wr.alloc (.cells #[.int .i64 x, .int .i64 y] 29)) = w0
            clear hw1
            generalize wr.heap.size = q
            intro x0 x1 HX hz1 hq1
            go_region_law (
              (first
              | (refine step_app tyI rfl (.tmp 84) (.tmp 87) rfl (base := w4.heap.size) (n := k) (v := u10) (xs := ivs ((rs.take k).map (·.1))) (by first | exact (HX.out.al (below_alloc _ _).drew).se.os | exact ((HX.out.al (below_alloc _ _)).al (below_alloc _ _).drew).se.os) (m := 1) (c := 1) (news := ivs [x]) (by first | (exact (src_at _ _ rfl x).mono (dn_below _)) | (exact (src_at _ _ (by simp) x).mono (dn_below _)) | (exact (src_at _ _ rfl x).mono (below_alloc _ _).drew)) rfl rfl (by omega) (by omega) (by omega) (by first | omega | (simp; omega) | (simp; exact hz1)) ?_; intro v' w' own' st'; have HW1 := Lib.hid ((by first | exact (HX.out.al (below_alloc _ _).drew) | exact ((HX.out.al (below_alloc _ _)).al (below_alloc _ _).drew) : SB w4 w4.heap.size _ u10 u11 k k rs q x y).p1 HN1.out own' st'); have z0 := HW1.out.c0; have z1 := HW1.out.c1; have hsz5 := HW1.out.se.bel.size; first | (have HY := Lib.hid (src_yx (w0 := w0) (x := x) (y := y) st' (fun e => by have := (HX.out.se.os.lt _ e).2; omega) rfl)) | (have HY := Lib.hid (src_xy (w0 := w0) (x := x) (y := y) st' (fun e => by have := (HX.out.se.os.lt _ e).2; omega) rfl)) | skip; clear own')
              | (refine step_app tyI rfl (.tmp 89) (.tmp 92) rfl (base := w4.heap.size) (n := k) (v := u11) (xs := ivs ((rs.take k).map (·.2))) (by first | exact HW1.out.se.oe | exact (HW1.out.al (below_alloc _ _)).se.oe) (m := 1) (c := 1) (news := ivs [y]) (by first | (exact HY.out) | (have h := HY.out; simp only [World.alloc_size] at h; exact h) | (have h := HY.out; simp at h; exact h) | (exact src_at _ _ rfl y) | (exact src_at _ _ (by simp) y)) rfl rfl (by omega) (by omega) (by omega) (by first | omega | (simp; omega) | (simp; exact hsz5)) ?_; intro v' w' own' st'; have HE := Lib.hid ((by first | exact HW1.out | exact (HW1.out.al (below_alloc _ _)) : SB w4 w4.heap.size _ _ u11 (k + 1) k rs q x y).p2 HN2.out own' st'); clear own')))
            all_goals
              clear x0 x1 hz1 hq1 z0 z1 hsz5 HX HW1 HN1 HN2
              try clear HY
              go_wp2
              go_roundw
              case rel => exact ⟨k + 1, by omega, by go_num, Lib.hid HE.out.se⟩
              case measure => simp [intOf]; omega
          · obtain ⟨n, hn, hkn⟩ : ∃ n, n = rs.length ∧ k = n := ⟨_, rfl, by omega⟩
            subst hkn
            have hr3 : rs.length ≤ 3000 := by omega
            have HRU2 : Hid (Calls Try.prog 8 #[u10, u11] wr (Bl.UnrPost wr (some l))) := Lib.hid (by
              have hs := HS.out.os
              have he := HS.out.oe
              have hbt := HS.out.bel
              rw [hn, List.take_of_length_le (Nat.le_refl _)] at hs he
              obtain ⟨a5, c5, rfl, i5⟩ := own_is hs (map_wf _ _ HRG.out (fun t h => by have := h; omega))
              obtain ⟨a6, c6, rfl, i6⟩ := own_is he (map_wf _ _ HRG.out (fun t h => by have := h; omega))
              have hc := refUnr_any a5 a6 rs.length c5 rs.length c6 _ _ wr i5 i6 (Nat.le_refl _) hr3 (fun k => rs.getD k (0, 0)) (fun j hj => by
                simp [List.getD, List.getElem?_eq_getElem hj])
              rw [Bl.unr_getD, HUN.out] at hc
              exact hc)
            have HBW := Lib.hid (below_then HB4.out HS.out.bel)
            have HIW := Lib.hid (H4.out.mono HS.out.bel)
            clear HS HOS HOE HBQ HRG HUN hn
            go_wp2_with fail
            refine HRU2.out.mono ?_
            rintro e w7 ⟨hb7, v7, rfl, own7⟩
            obtain ⟨a7, c7, rfl, i7⟩ := own_is own7 HLW.out
            have HI7 : Hid (Calls Try.prog 9 #[.slice a7 l.length c7, .slice a len cap] w7 fun e w' => e = .returned (.bool true) ∧ ∃ n, w' = w7.drewN n) := Lib.hid ((ints_any a7 a l.length c7 len cap l l w7 i7 (HIW.out.mono hb7) (by rw [HLL.out]; omega) (by omega)).mono (by
              rintro e w' ⟨h1, h2⟩
              exact ⟨by rw [h1, decide_eq_true rfl], h2⟩))
            have HB7 := Lib.hid (below_then HBW.out hb7)
            clear hb7 own7 i7 HRU2
            go_wp2_with fail
            refine HI7.out.mono ?_
            rintro e w8 ⟨rfl, d8, rfl⟩
            have HB8 := Lib.hid (below_drewN HB7.out d8)
            have dle : decide (rs.length ≤ len) = true := decide_eq_true hlt3
            go_wp2
            go_ret
            exact ⟨rfl, HB8.out⟩
set_option maxRecDepth 100000 in
theorem lifted (os : Os) (started : os.Started) (H : Type) (enc : TypeId × Value → H) :
    ReturnsInHanded {} Try.checked os 3 .any (Rows.blockRunsSpec.pre6 enc Try.prog Try.f3 Rows.blockRunsRow.domain false) (Rows.blockRunsSpec.post enc Try.prog Try.f3 false true false false) := by
  refine returnsInHanded_of_change_sized (C := Try.checked) own started (by kernel_rfl) Try.func3
    (ChangeSpec.witness6 (enc := enc) (C := Try.checked) false ⟨#[], #[.slice none 0 0], []⟩ 8 (by kernel_rfl) (by kernel_rfl) (by kernel_rfl) (by kernel_rfl)) ?_
  intro W base args ds gs before hval0 hW _ hsz0 _
  have hval : ∀ (j : Nat) t v, Try.f3.params[j]? = some t → args[j]? = some v → Value.okWide Try.prog W .any base t v := hval0
  have hsz : (DataW.weightsEach Try.prog (Try.f3.params.toList ++ Rows.blockRunsSpec.plain.varTypes Try.prog) (ds ++ gs)).all (· ≤ reachBytes) = true := hsz0
  have hW' := hW
  obtain ⟨p, q, hA0, hV, rfl, hfz, hnd⟩ := hW
  have hA : DataW.TrodAll enc Try.prog W 0 (fun _ => true) true Try.f3.params.toList args.toList ds p := hA0
  rw [Try.params3] at hA hval hsz
  obtain ⟨v0, vs0, d0, ds0, p0, q0, hargs, rfl, rfl, h0, r0⟩ := trodAll_cons hA
  obtain ⟨rfl, rfl, rfl⟩ := trodAll_nil r0
  obtain rfl : args = #[v0] := by cases args; simp_all
  obtain ⟨rfl, rfl⟩ := trodVars_none hV
  clear hsz0
  obtain ⟨a0, len0, cap0, rfl⟩ := okWide_slice Try.underlying22 (hval 0 22 v0 rfl rfl)
  have k0 := h0
  have lt0 : ∀ x ∈ p0, x.block < W.heap.size := by obtain ⟨m, hm⟩ := k0; exact DataW.trod_lt m _ _ _ hm
  obtain ⟨l0, w0, c0⟩ := open_is (by' := 8) Try.underlying22 Try.underlying3 (by kernel_rfl) (by kernel_rfl) h0 hsz 0 rfl rfl
  clear hA0 hval0 hsz
  refine (walk a0 len0 cap0 l0 W w0 c0).mono fun e W' ⟨he, bel⟩ => ?_
  subst he
  exact ⟨_, rfl, _, _, _, [], _, [], hW', trodAll_mk1 (shut_bool Try.underlying4 _), (trodAll_cons_mk (Below.trod laidOut (by kernel_rfl) (of_decide_eq_true (by kernel_rfl)) k0 bel lt0) trodAll_mk0), rfl, bel.frame _, fun h => by cases h⟩

theorem proved : Rows.BlockRunsSaid :=
  OpenClaim.holds_of_wide 3 Try.f3 rfl rfl rfl rfl rfl rfl rfl ⟨rfl, rfl, rfl, rfl, rfl⟩ rfl rfl rfl rfl rfl (by kernel_rfl) Try.func3 (by kernel_rfl)
    (of_decide_eq_true (by kernel_rfl)) (by unfold Func.isWrapper; first | (rw [if_pos (by decide +kernel)]; kernel_rfl) | (rw [if_neg (by decide +kernel)]; exact ⟨rfl, rfl⟩))
    (fun os started H enc _ => lifted os started H enc)
#print axioms proved
end Go.Proofs.Ytlbngaeimkhkgaa.BlockRuns
