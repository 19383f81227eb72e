/- For all lengths and symbols (of at most 600 and 300, as the law itself asks), in both orders: symbols that are written are read, and others are refused. No conditions. -/
import Derived.Test.YtnlbomijnldlmaaRows
import Derived.Test.YtnlbomijnldlmaaOpen
import Derived.Test.YtnlbomijnldlmaaLawCanon
import Derived.Test.YtnlbomijnldlmaaBookWrite
import Derived.Test.YtnlbomijnldlmaaBookTake
import Derived.Test.YtnlbomijnldlmaaBitsLen
import Derived.Test.YtnlbomijnldlmaaBitsBytes
import Derived.Test.YtnlbomijnldlmaaBitsNewW
import Derived.Test.YtnlbomijnldlmaaBitsNewR
import Derived.Test.YtnlbomijnldlmaaNumIs
namespace Go.Proofs.Ytnlbomijnldlmaa.CanonBack
open Go.ChangeShapes Go.WideShapes Go.ChangeAt Go.RowKit
open Go.ChangeMaps (open_string shut_string)
set_option linter.unusedVariables false
theorem own : ownKnob Try.prog.godebug = none := by kernel_rfl
theorem laidOut : laidOutB Try.prog = true := by kernel_rfl
open Bk
theorem wr_wt_ge {w : World} {B g : Nat} {h : Bool} {v : Value} {l : List Bool} (H : Wr w B g h v l) {k : Nat} (hk : Wt g v k) : B ≤ k := hk.elim (fun e => e ▸ H.hg) (fun e => (H.own.lt k e).1)
/-- The bits of codes, and their symbols. -/
def bitsY (ys : List It) : List Bool := ys.flatMap It.bits
def symY (ys : List It) : List Int := ys.map fun x => (x.s : Int)
theorem bitsY_append (a b : List It) : bitsY (a ++ b) = bitsY a ++ bitsY b := by simp [bitsY]
theorem bitsY_cons (x : It) (b : List It) : bitsY (x :: b) = x.bits ++ bitsY b := by simp [bitsY]
theorem bitsY_snoc (ys : List It) (x : It) : bitsY (ys ++ [x]) = bitsY ys ++ Bt.dg true x.c x.n := by simp [bitsY, It.bits]
theorem symY_snoc (ys : List It) (x : It) : symY (ys ++ [x]) = symY ys ++ [(x.s : Int)] := by simp [symY]
/-- A writer, and the list of the symbols that were written. -/
structure KB (w wx : World) (g : Nat) (h : Bool) (v vp : Value) (ys : List It) : Prop where
  bel : Below w.heap.size w wx
  wr : Wr wx w.heap.size g h v (bitsY ys)
  lo : wx.ownsRow w.heap.size 3 1 vp ys.length (ivs (symY ys))
  n1 : vp.ownBlock ≠ some g
  n2 : ∀ k, v.ownBlock = some k → vp.ownBlock ≠ some k
theorem KB.mono {w wx wy : World} {g : Nat} {h : Bool} {v vp : Value} {ys : List It} (H : KB w wx g h v vp ys) (hb : Below wx.heap.size wx wy) : KB w wy g h v vp ys :=
  ⟨H.bel.trans (hb.mono H.bel.size), H.wr.mono hb, own_below H.lo hb, H.n1, H.n2⟩
/-- The writer has gone on, the list not yet. -/
structure KC (w wx : World) (g : Nat) (h : Bool) (v vp : Value) (ys : List It) (zs : List It) : Prop where
  bel : Below w.heap.size w wx
  wr : Wr wx w.heap.size g h v (bitsY zs)
  lo : wx.ownsRow w.heap.size 3 1 vp ys.length (ivs (symY ys))
  n1 : vp.ownBlock ≠ some g
  n2 : ∀ k, v.ownBlock = some k → vp.ownBlock ≠ some k
theorem KC.mono {w wx wy : World} {g : Nat} {h : Bool} {v vp : Value} {ys zs : List It} (H : KC w wx g h v vp ys zs) (hb : Below wx.heap.size wx wy) : KC w wy g h v vp ys zs :=
  ⟨H.bel.trans (hb.mono H.bel.size), H.wr.mono hb, own_below H.lo hb, H.n1, H.n2⟩
theorem KB.put {w wx wy : World} {g : Nat} {h : Bool} {v v' vp : Value} {ys zs : List It} (H : KB w wx g h v vp ys) (r : Wr wy w.heap.size g h v' (bitsY zs)) (c : Ch wx wy (Wt g v)) (f : ∀ k, v'.ownBlock = some k → v.ownBlock = some k ∨ wx.heap.size ≤ k) : KC w wy g h v' vp ys zs :=
  ⟨H.bel.trans (c.below H.bel.size (fun k hk => wr_wt_ge H.wr hk)), r, c.own H.lo (fun k hk hw => hw.elim (fun e => H.n1 (e ▸ hk)) (fun e => H.n2 k e hk)), H.n1,
    fun k hk he => (f k hk).elim (fun e => H.n2 k e he) (fun e => by have := (H.lo.lt k he).2; omega)⟩
theorem KC.list {w wx wy : World} {g : Nat} {h : Bool} {v vp vp' : Value} {ys zs : List It} (H : KC w wx g h v vp ys zs) (o : wy.ownsRow w.heap.size 3 1 vp' zs.length (ivs (symY zs))) (c : Ch wx wy (fun k => vp.ownBlock = some k)) (f : ∀ k, vp'.ownBlock = some k → vp.ownBlock = some k ∨ wx.heap.size ≤ k) : KB w wy g h v vp' zs :=
  ⟨H.bel.trans (c.below H.bel.size (fun k hk => (H.lo.lt k hk).1)), H.wr.kept c H.n1 (fun k hk he => H.n2 k hk he), o,
    fun he => (f g he).elim H.n1 (fun e => by have := H.wr.lt; omega), fun k hk he => (f k he).elim (fun e => H.n2 k hk e) (fun e => by have := (H.wr.own.lt k hk).2; omega)⟩
theorem ex_word6 : wAt (wsOf (seq (rowsL Cn.ex) 17) Cn.ex.length) 6 = (14, 4) := by decide
/-- A symbol that has a code. -/
def okS (l : List Int) (s : Int) : Prop := 0 ≤ s ∧ s < l.length ∧ 0 < l.getD s.toNat 0
theorem w_bad (l : List Int) (h : Cn.freeB l = true) (s : Int) (hs : ¬ okS l s) : (wAt (wsOf (seq (rowsL l) 17) l.length) s).2 = 0 := by
  have h1 := h
  simp only [Cn.freeB, Bool.and_eq_true] at h1
  have hf := Cn.form_mem l h1.1
  unfold wAt
  by_cases h0 : 0 ≤ s
  · rw [if_pos h0]
    by_cases hl : s.toNat < l.length
    · have e : (wsOf (seq (rowsL l) 17) l.length).getD s.toNat (0, 0) = Bk.look (seq (rowsL l) 17) s.toNat := by simp [wsOf, List.getD, List.getElem?_range hl]
      have h2 := (hf (l.getD s.toNat 0) (by simp [List.getD, List.getElem?_eq_getElem hl])).1
      have hz : l.getD s.toNat 0 = 0 := by
        have : ¬ 0 < l.getD s.toNat 0 := fun hp => hs ⟨h0, by omega, hp⟩
        omega
      rw [e, look_none l _ (.inl hz)]
    · have e : (wsOf (seq (rowsL l) 17) l.length).getD s.toNat (0, 0) = (0, 0) := by rw [List.getD, List.getElem?_eq_none (by rw [wsOf_length]; omega)]; rfl
      rw [e]
  · rw [if_neg h0]
theorem w_good (l : List Int) (h : Cn.freeB l = true) (s : Nat) (hs : s < l.length) (hp : 0 < l.getD s 0) : ∃ m i, m < 17 ∧ i < (rowsL l m).length ∧ (it (rowsL l) m i).s = s ∧ l.getD s 0 = (m : Int) ∧ 0 < m ∧ wAt (wsOf (seq (rowsL l) 17) l.length) (s : Int) = ((it (rowsL l) m i).c, m) := by
  have h1 := h
  simp only [Cn.freeB, Bool.and_eq_true] at h1
  have hf := (Cn.form_mem l h1.1 (l.getD s 0) (by simp [List.getD, List.getElem?_eq_getElem hs])).2
  obtain ⟨m, i, hm, hi, e1, e2, e3⟩ := look_some l s hs ⟨hp, hf⟩
  refine ⟨m, i, hm, hi, e1, e2, by omega, ?_⟩
  unfold wAt
  rw [if_pos (by omega), Int.toNat_natCast]
  have e : (wsOf (seq (rowsL l) 17) l.length).getD s (0, 0) = Bk.look (seq (rowsL l) 17) s := by simp [wsOf, List.getD, List.getElem?_range hs]
  rw [e, e3]; rfl
theorem rd_at (R : Nat → List Nat) (hG : Bk.Good R) (ys : List It) (hy : ∀ x ∈ ys, x ∈ seq R 17) (pad : List Bool) (k : Nat) (hk : k < ys.length) :
    Cn.rd (ks R) ((bitsY ys ++ pad).drop (bitsY (ys.take k)).length) = ((((ys.getD k default).s : Nat) : Int), (ys.getD k default).n, 0) ∧ (bitsY (ys.take (k + 1))).length = (bitsY (ys.take k)).length + (ys.getD k default).n ∧ (bitsY (ys.take k)).length ≤ (bitsY ys).length := by
  have hx : ys.getD k default = ys[k] := by simp [List.getD, List.getElem?_eq_getElem hk]
  rw [hx]
  obtain ⟨m, i, hm, hi, hit⟩ := (mem_seq R 17 ys[k]).1 (hy _ (List.getElem_mem hk))
  have e1 : bitsY ys = bitsY (ys.take k) ++ (ys[k].bits ++ bitsY (ys.drop (k + 1))) := by
    have h0 : ys = ys.take k ++ (ys[k] :: ys.drop (k + 1)) := by rw [← List.drop_eq_getElem_cons hk, List.take_append_drop]
    have h1 : bitsY ys = bitsY (ys.take k ++ (ys[k] :: ys.drop (k + 1))) := congrArg bitsY h0
    rw [h1, bitsY_append, bitsY_cons]
  have e2 : bitsY (ys.take (k + 1)) = bitsY (ys.take k) ++ ys[k].bits := by
    rw [List.take_succ_eq_append_getElem hk, bitsY_append, bitsY_cons]; simp [bitsY]
  have e3 : ys[k].bits.length = ys[k].n := Bt.dg_length _ _ _
  refine ⟨?_, by rw [e2, List.length_append, e3], by rw [e1, List.length_append]; omega⟩
  rw [e1, List.append_assoc, List.drop_left]
  have hn : ys[k].n = m := by rw [hit]; rfl
  have hs : ys[k].s = (R m).getD i 0 := by rw [hit]; rfl
  rw [hs, hn]
  refine rd_code R hG m i hm hi _ ?_ (by rw [List.append_assoc, List.length_append, e3, hn]; omega)
  rw [List.append_assoc, List.take_append_of_le_length (by rw [e3, hn]; exact Nat.le_refl _), List.take_of_length_le (by rw [e3, hn]; exact Nat.le_refl _), hit]
theorem symY_wf (l : List Int) (ys : List It) (h : ∀ x ∈ ys, x.s < 1000) : Wf (symY ys) := wf_small (fun z hz => by
  simp only [symY, List.mem_map] at hz
  obtain ⟨x, hx, rfl⟩ := hz
  have := h x hx
  omega)
theorem symY_get (ys : List It) (k : Nat) (hk : k < ys.length) : (symY ys).getD k 0 = (((ys.getD k default).s : Nat) : Int) := by simp [symY, List.getD, List.getElem?_eq_getElem hk]
set_option maxRecDepth 100000 in
set_option maxHeartbeats 4000000 in
theorem walk (a : Option Addr) (len cap : Nat) (l : List Int) (a1 : Option Addr) (len1 cap1 : Nat) (l1 : List Int) (hi : Bool) (w : World) (h : Is .i64 w a len cap l) (hr : cap * 8 ≤ 140737488351232) (h1 : Is .i64 w a1 len1 cap1 l1) (hr1 : cap1 * 8 ≤ 140737488351232) :
    Calls Try.prog 6 #[.slice a len cap, .slice a1 len1 cap1, .bool hi] w fun e w' => e = .returned (.bool true) ∧ Below w.heap.size w w' := by
  have hle := h.hle
  have hle1 := h1.hle
  have HL := Lib.hid h.hlen
  have HL1 := Lib.hid h1.hlen
  have H := Lib.hid h
  have H1 := Lib.hid h1
  clear h h1
  by_cases hbig : 600 < len
  · have d1 : decide ((600 : Int) < ↑len) = true := by simp; omega
    go_enter Try.func6, Try.ntmps6
    go_wp2
    go_ret
    exact ⟨rfl, Below.refl _ _⟩
  have d1 : decide ((600 : Int) < ↑len) = false := by simp; omega
  by_cases hbig2 : 300 < len1
  · have d2 : decide ((300 : Int) < ↑len1) = true := by simp; omega
    go_enter Try.func6, Try.ntmps6
    go_wp2
    go_ret
    exact ⟨rfl, Below.refl _ _⟩
  have d2 : decide ((300 : Int) < ↑len1) = false := by simp; omega
  go_enter Try.func6, Try.ntmps6
  go_wp2_with fail
  refine (book_any a len cap l _ H.out (by omega)).mono ?_
  rintro e w2 (⟨hf, g, rfl, hbk, hb2, _⟩ | ⟨hf, rfl, hb2⟩)
  rotate_left
  · have HB2 := Lib.hid hb2
    clear hb2 hf
    go_wp2_with fail
    refine (example_any _).mono ?_
    rintro e w3 ⟨ea, ec, rfl, hex, hb3, _⟩
    go_wp2_with fail
    refine (book_any ea 8 ec Cn.ex _ hex (by omega)).mono ?_
    rintro e w4 (⟨_, g4, rfl, hbk, hb4, _⟩ | ⟨hf, _⟩)
    rotate_left
    · rw [ex_free] at hf; cases hf
    have HB4 := Lib.hid (below_then (below_then HB2.out hb3) hb4)
    have hwl := length_any w4 w4.heap.size g4 _ _ hbk (by rw [wsOf_length]; decide) 6
    rw [ex_word6] at hwl
    have HWL := Lib.hid hwl
    clear hbk hb3 hb4 hex hwl HB2
    go_wp2_with fail
    refine HWL.out.mono ?_
    rintro e w5 ⟨rfl, hb5⟩
    have HB5 := Lib.hid (below_then HB4.out hb5)
    clear hb5 HB4 HWL
    go_wp2
    go_ret
    exact ⟨rfl, HB5.out⟩
  have HF := Lib.hid hf
  have hG := good_of l hf
  have hl5 : len ≤ 512 := by
    have h1 := hf
    simp only [Cn.freeB, Cn.formB, Bool.and_eq_true, decide_eq_true_eq] at h1
    have := h1.1.1; rw [HL.out] at this; exact this
  have HBK := Lib.hid hbk
  have HB2 := Lib.hid hb2
  clear hf hbk hb2
  go_wp2_with fail
  refine (newWriter_any hi w2.heap.size w2 (Nat.le_refl _)).mono ?_
  rintro e w3 ⟨rfl, hwr, hb3⟩
  have S2 : Hid (KB w2 (w3.alloc (.cells #[] 3)) w2.heap.size hi (.slice none 0 0) (.slice (some ⟨w3.heap.size, 0, none⟩) 0 0) []) := Lib.hid
    ⟨hb3.alloc hb3.size _, hwr.mono (below_alloc w3 _), World.ownsRow_made w3 #[] 0 hb3.size (by unfold maxLen; omega) rfl, fun e => by have := hwr.lt; simp [Value.ownBlock] at e; omega, fun k hk => by simp [Value.ownBlock] at hk⟩
  clear hwr hb3
  generalize hgw : w2.heap.size = gw at *
  have HGW := Lib.hid hgw
  clear hgw
  go_wp2
  go_loopw [12, 13, 57] (fun pv sv iv wr => ∃ (k : Nat) (ys : List It) (v vp : Value), k ≤ len1 ∧ iv = .int .i64 k ∧ pv = vp ∧ sv = .int .i64 ((bitsY ys).length : Nat) ∧ ys.length ≤ k ∧ (bitsY ys).length ≤ 16 * k ∧ Hid (∀ x ∈ ys, x ∈ seq (rowsL l) 17) ∧ Hid (KB w2 wr gw hi v vp ys)) (fun _ _ i _ => len1 - (intOf i).toNat)
  case atStart => exact ⟨0, [], _, _, by omega, rfl, rfl, rfl, by simp, by simp [bitsY], Lib.hid (fun x hx => by simp at hx), S2⟩
  case round =>
    obtain ⟨k, ys, v, vp, hk, rfl, rfl, rfl, hyl, hbl, HY, HS⟩ := hrel
    by_cases hlt : k < len1
    · obtain ⟨b3, o3, rfl, _, c1⟩ := (H1.out.mono (below_then HB2.out HS.out.bel)).at' k hlt
      have hwf := H1.out.getW k hlt
      generalize l1.getD k 0 = s at *
      have hws : -9223372036854775808 ≤ s ∧ s ≤ 9223372036854775807 := by simpa [Lit.wf, IntKind.min, IntKind.max, IntKind.signed, IntKind.bits] using hwf
      have hsb : (bitsY ys).length ≤ 4800 := by omega
      by_cases hok : okS l s
      · obtain ⟨h0, hsl, hp⟩ := hok
        obtain ⟨sn, rfl⟩ := Int.eq_ofNat_of_zero_le h0
        rw [Int.toNat_natCast] at hp
        have hsn : sn < len := by rw [← HL.out]; omega
        obtain ⟨m, i, hm, hi', hsym, hlen, hm0, hwa⟩ := w_good l HF.out sn (by omega) hp
        have hclt := it_lt (rowsL l) hG m i (by omega) hi'
        have HWO := Lib.hid (write_ok wr gw g (rowsL l) _ (HBK.out.mono HS.out.bel) (by rw [wsOf_length, HL.out]; omega) (sn : Int) _ m hwa hm0 (by omega) hclt w2.heap.size gw hi v (bitsY ys) HS.out.wr HS.out.bel.size (by omega))
        have hmem : it (rowsL l) m i ∈ seq (rowsL l) 17 := (mem_seq _ _ _).2 ⟨m, i, hm, hi', rfl⟩
        obtain ⟨x, hx⟩ : ∃ x, x = it (rowsL l) m i := ⟨_, rfl⟩
        have hxn : x.n = m := by rw [hx]; rfl
        have hbs := bitsY_snoc ys x
        have hss := symY_snoc ys x
        rw [← hx] at HWO hmem hsym
        rw [hsym] at hss
        rw [hxn] at hbs
        have hbl2 : (bitsY (ys ++ [x])).length = (bitsY ys).length + m := by rw [hbs, List.length_append, Bt.dg_length]
        have HBS := Lib.hid hbs
        have HSS := Lib.hid hss
        have HBL := Lib.hid hbl2
        have HY2 : Hid (∀ y ∈ ys ++ [x], y ∈ seq (rowsL l) 17) := Lib.hid (fun y hy => by
          rcases List.mem_append.1 hy with h | h
          · exact HY.out y h
          · simp only [List.mem_singleton] at h; subst h; exact hmem)
        obtain ⟨b4, o4, rfl, _, c2⟩ := H.out.at' sn hsn
        rw [hlen] at c2
        have HC2 : Hid (∀ wy, Below w.heap.size w wy → wy.cell? ⟨b4, o4 + sn, none⟩ = some (.int .i64 (m : Nat))) := Lib.hid (fun wy hb => by
          obtain ⟨b5, o5, e5, hbl5, c5⟩ := (H.out.mono hb).at' sn hsn
          simp only [Option.some.injEq, Addr.mk.injEq, and_true] at e5
          obtain ⟨rfl, rfl⟩ := e5
          rw [c5, hlen])
        have dm : decide ((0 : Int) < (m : Int)) = true := by simp; omega
        have dm2 : decide (0 < m) = true := by simp; omega
        have dsl : decide (sn < len) = true := by simpa using hsn
        clear hwa hclt hmem hx hxn hbs hss hbl2 hsym hp hsl h0 hwf hws c2 hlen hi'
        go_wp2_with fail
        refine HWO.out.mono ?_
        rintro e w5 ⟨rfl, v5, hwr5, hch5, hf5⟩
        rw [← HBS.out] at hwr5
        have HK5 := Lib.hid (HS.out.put hwr5 hch5 hf5)
        have hc5 := HC2.out w5 (below_then HB2.out HK5.out.bel)
        clear hwr5 hch5 hf5 HWO HS c1
        have HK6 := Lib.hid (HK5.out.mono (below_alloc w5 (.cells #[Value.int .i64 (sn : Nat)] 3)))
        have hsrc := src_int w5 (sn : Nat)
        have hbb : w2.heap.size ≤ (w5.alloc (.cells #[Value.int .i64 (sn : Nat)] 3)).heap.size := HK6.out.bel.size
        go_wp2_with (at_builtin; refine wpl_append3 tyI rfl _ _ rfl HK6.out.lo hsrc rfl rfl (by omega) (by omega) hbb ?_)
        intro v6 w6 own6 c6 f6
        rw [← ivs_append, ← HSS.out] at own6
        have HK7 := Lib.hid (HK6.out.list (by rw [List.length_append]; exact own6) c6 (by simpa using f6))
        have hc7 := HC2.out w6 (below_then HB2.out HK7.out.bel)
        clear own6 c6 f6 hsrc HK6 HK5 hc5 hbb
        go_wp2
        go_roundw
        case rel => exact ⟨k + 1, ys ++ [x], v5, _, by omega, by go_num, rfl, int_eq (by rw [HBL.out]; omega), by rw [List.length_append]; simp; omega, by rw [HBL.out]; omega, HY2, HK7⟩
        case measure => simp [intOf]; omega
      · have hwb := w_bad l HF.out s hok
        have HWN := Lib.hid (write_no wr gw g (rowsL l) _ (HBK.out.mono HS.out.bel) (by rw [wsOf_length, HL.out]; omega) s (.pointer (some ⟨gw, 0, none⟩)) (.inl hwb) (.inr ⟨gw, rfl⟩))
        clear hwb
        by_cases h0 : s < 0
        · have ds : decide (0 ≤ s) = false := by simp; omega
          clear hok
          go_wp2_with fail
          refine HWN.out.mono ?_
          rintro e w5 ⟨rfl, hb5⟩
          have HK5 := Lib.hid (HS.out.mono hb5)
          clear hb5 HS c1
          go_wp2_with fail
          refine (is_yes 6 rfl _).mono ?_
          rintro e w9 ⟨rfl, rfl⟩
          go_wp2
          go_roundw
          case rel => exact ⟨k + 1, ys, v, _, by omega, by go_num, rfl, rfl, by omega, by omega, HY, HK5⟩
          case measure => simp [intOf]; omega
        · obtain ⟨sn, rfl⟩ := Int.eq_ofNat_of_zero_le (show 0 ≤ s by omega)
          by_cases hsn : sn < len
          · have dsl : decide (sn < len) = true := by simpa using hsn
            obtain ⟨b4, o4, rfl, _, c2⟩ := H.out.at' sn hsn
            have hz : ¬ 0 < l.getD sn 0 := fun hp => hok ⟨by omega, by rw [HL.out]; omega, by rw [Int.toNat_natCast]; exact hp⟩
            have HC2 : Hid (∀ wy, Below w.heap.size w wy → wy.cell? ⟨b4, o4 + sn, none⟩ = some (.int .i64 (l.getD sn 0))) := Lib.hid (fun wy hb => by
              obtain ⟨b5, o5, e5, hbl5, c5⟩ := (H.out.mono hb).at' sn hsn
              simp only [Option.some.injEq, Addr.mk.injEq, and_true] at e5
              obtain ⟨rfl, rfl⟩ := e5
              exact c5)
            have dz : decide (0 < l.getD sn 0) = false := by simpa using hz
            generalize l.getD sn 0 = z at *
            clear hok hz h0 c2 hwf hws
            go_wp2_with fail
            refine HWN.out.mono ?_
            rintro e w5 ⟨rfl, hb5⟩
            have HK5 := Lib.hid (HS.out.mono hb5)
            have hc5 := HC2.out w5 (below_then HB2.out HK5.out.bel)
            clear hb5 HS c1
            go_wp2_with fail
            refine (is_yes 6 rfl _).mono ?_
            rintro e w9 ⟨rfl, rfl⟩
            go_wp2
            go_roundw
            case rel => exact ⟨k + 1, ys, v, _, by omega, by go_num, rfl, rfl, by omega, by omega, HY, HK5⟩
            case measure => simp [intOf]; omega
          · have dsl : decide (sn < len) = false := by simpa using hsn
            clear hok h0 hwf hws
            go_wp2_with fail
            refine HWN.out.mono ?_
            rintro e w5 ⟨rfl, hb5⟩
            have HK5 := Lib.hid (HS.out.mono hb5)
            clear hb5 HS c1
            go_wp2_with fail
            refine (is_yes 6 rfl _).mono ?_
            rintro e w9 ⟨rfl, rfl⟩
            go_wp2
            go_roundw
            case rel => exact ⟨k + 1, ys, v, _, by omega, by go_num, rfl, rfl, by omega, by omega, HY, HK5⟩
            case measure => simp [intOf]; omega
    · obtain rfl : len1 = k := by omega
      have hsb : (bitsY ys).length ≤ 4800 := by omega
      go_wp2_with fail
      refine (len_any wr w2.heap.size gw hi v (bitsY ys) HS.out.wr).mono ?_
      rintro e w' ⟨rfl, rfl⟩
      go_wp2_with fail
      refine (bytes_any wr w2.heap.size gw hi v (bitsY ys) HS.out.wr (by omega)).mono ?_
      rintro e w5 ⟨v5, rfl, own5, hb5⟩
      have hpl : ((bitsY ys).length + 7) / 8 ≤ 1000 := by omega
      obtain ⟨a5, c5, rfl, hbs⟩ := own_bs own5 (by omega)
      have HBS := Lib.hid hbs
      have hsw : Wf (symY ys) := symY_wf l ys (fun x hx => by have := (seq_len l x (HY.out x hx)).1; rw [HL.out] at this; omega)
      obtain ⟨ap, cp, rfl, hip⟩ := own_is HS.out.lo hsw
      have HIP := Lib.hid (hip.mono hb5)
      have HB5 := Lib.hid (show Below w2.heap.size w2 w5 from HS.out.bel.trans (hb5.mono HS.out.bel.size))
      have HYL := Lib.hid (show (symY ys).length = ys.length by simp [symY])
      clear own5 hbs hip hb5 hsw HS S2
      go_wp2_with fail
      refine (newReader_any hi a5 _ c5 _ w5 HBS.out (by omega)).mono ?_
      rintro e w6 ⟨gr, v6, rfl, hrd6, hb6⟩
      have hrb := Bt.rbits_packs hi hi (bitsY ys)
      have hpk := Bt.packs_length hi hi (bitsY ys)
      have HRB := Lib.hid hrb
      have HPK := Lib.hid hpk
      have HST : Hid (Below w5.heap.size w5 w6 ∧ Rd w6 w5.heap.size gr hi v6 (Bt.packs hi hi (bitsY ys)) (bitsY (ys.take 0)).length) := Lib.hid ⟨hb6, hrd6⟩
      have HGR : Hid (w5.heap.size ≤ gr) := Lib.hid hrd6.hg
      have HAT := Lib.hid (fun k hk => rd_at (rowsL l) hG ys HY.out (List.replicate ((8 - (bitsY ys).length % 8) % 8) hi) k hk)
      rw [← hrb] at HAT
      clear hrd6 hb6 hrb hpk HBS
      go_wp2
      go_loopw [116] (fun iv wx => ∃ k : Nat, k ≤ ys.length ∧ iv = .int .i64 k ∧ Hid (Below w5.heap.size w5 wx ∧ Rd wx w5.heap.size gr hi v6 (Bt.packs hi hi (bitsY ys)) (bitsY (ys.take k)).length)) (fun i _ => ys.length - (intOf i).toNat)
      case atStart => exact ⟨0, by omega, rfl, HST⟩
      case round =>
        obtain ⟨k, hk, rfl, HX⟩ := hrel
        by_cases hlt : k < ys.length
        · obtain ⟨b7, o7, rfl, _, c7⟩ := (HIP.out.mono HX.out.1).at' k hlt
          rw [symY_get ys k hlt] at c7
          obtain ⟨hr1, hr2, hr3⟩ := HAT.out k hlt
          have HRA := Lib.hid (read_any wr gw g (rowsL l) _ (HBK.out.mono (HB5.out.trans (HX.out.1.mono HB5.out.size))) hG w5.heap.size gr hi v6 _ _ HX.out.2 HX.out.1.size (by have := HGR.out; have := HB5.out.size; have := HGW.out; omega) (by rw [HPK.out]; omega) (by rw [HPK.out]; omega))
          unfold ReadPost at HRA
          rw [hr1] at HRA
          have HR2 := Lib.hid hr2
          clear hr1 hr2 hr3
          generalize ((ys.getD k default).s : Nat) = xs at *
          generalize ((ys.getD k default).n : Nat) = xn at *
          have herr : errV 0 = .nilIface := rfl
          simp only [herr] at HRA
          clear herr
          go_wp2_with fail
          refine HRA.out.mono ?_
          rintro e w8 ⟨rfl, hrd8, hch8⟩
          rw [← HR2.out] at hrd8
          have HX2 : Hid (Below w5.heap.size w5 w8 ∧ Rd w8 w5.heap.size gr hi v6 (Bt.packs hi hi (bitsY ys)) (bitsY (ys.take (k + 1))).length) := Lib.hid ⟨HX.out.1.trans (hch8.below HX.out.1.size (fun j hj => hj ▸ HGR.out)), hrd8⟩
          clear hrd8 hch8 HRA HX c7
          go_wp2
          go_roundw
          case rel => exact ⟨k + 1, by omega, by go_num, HX2⟩
          case measure => simp [intOf]; omega
        · obtain rfl : ys.length = k := by omega
          have HB8 := Lib.hid (below_then HB2.out (HB5.out.trans (HX.out.1.mono HB5.out.size)))
          clear HX HIP HAT HST
          go_wp2_with fail
          refine (example_any _).mono ?_
          rintro e w9 ⟨ea, ec, rfl, hex, hb9, _⟩
          go_wp2_with fail
          refine (book_any ea 8 ec Cn.ex _ hex (by omega)).mono ?_
          rintro e w10 (⟨_, g10, rfl, hbk, hb10, _⟩ | ⟨hf, _⟩)
          rotate_left
          · rw [ex_free] at hf; cases hf
          have HB10 := Lib.hid (below_then (below_then HB8.out hb9) hb10)
          have hwl := length_any w10 w10.heap.size g10 _ _ hbk (by rw [wsOf_length]; decide) 6
          rw [ex_word6] at hwl
          have HWL := Lib.hid hwl
          clear hbk hb9 hb10 hex hwl HB8
          go_wp2_with fail
          refine HWL.out.mono ?_
          rintro e w11 ⟨rfl, hb11⟩
          have HB11 := Lib.hid (below_then HB10.out hb11)
          clear hb11 HB10 HWL
          go_wp2
          go_ret
          exact ⟨rfl, HB11.out⟩
set_option maxRecDepth 100000 in
theorem lifted (os : Os) (started : os.Started) (H : Type) (enc : TypeId × Value → H) :
    ReturnsInHanded {} Try.checked os 6 .any (Rows.canonBackSpec.pre6 enc Try.prog Try.f6 Rows.canonBackRow.domain false) (Rows.canonBackSpec.post enc Try.prog Try.f6 false true false false) := by
  refine returnsInHanded_of_change_sized (C := Try.checked) own started (by kernel_rfl) Try.func6
    (ChangeSpec.witness6 (enc := enc) (C := Try.checked) false ⟨#[], #[.slice none 0 0, .slice none 0 0, .bool false], []⟩ 8 (by kernel_rfl) (by kernel_rfl) (by kernel_rfl) (by kernel_rfl)) ?_
  intro W base args ds gs before hval0 hW _ hsz0 _
  have hval : ∀ (j : Nat) t v, Try.f6.params[j]? = some t → args[j]? = some v → Value.okWide Try.prog W .any base t v := hval0
  have hsz : (DataW.weightsEach Try.prog (Try.f6.params.toList ++ Rows.canonBackSpec.plain.varTypes Try.prog) (ds ++ gs)).all (· ≤ reachBytes) = true := hsz0
  have hW' := hW
  obtain ⟨p, q, hA0, hV, rfl, hfz, hnd⟩ := hW
  have hA : DataW.TrodAll enc Try.prog W 0 (fun _ => true) true Try.f6.params.toList args.toList ds p := hA0
  rw [Try.params6] at hA hval hsz
  obtain ⟨v0, vs0, d0, ds0, p0, q0, hargs, rfl, rfl, h0, r0⟩ := trodAll_cons hA
  obtain ⟨v1, vs1, d1, ds1, p1, q1, rfl, rfl, rfl, h1, r1⟩ := trodAll_cons r0
  obtain ⟨v2, vs2, d2, ds2, p2, q2, rfl, rfl, rfl, h2, r2⟩ := trodAll_cons r1
  obtain ⟨rfl, rfl, rfl⟩ := trodAll_nil r2
  obtain rfl : args = #[v0, v1, v2] := by cases args; simp_all
  obtain ⟨rfl, rfl⟩ := trodVars_none hV
  clear hsz0
  obtain ⟨a0, len0, cap0, rfl⟩ := okWide_slice Try.underlying22 (hval 0 22 v0 rfl rfl)
  have k0 := h0
  have lt0 : ∀ x ∈ p0, x.block < W.heap.size := by obtain ⟨m, hm⟩ := k0; exact DataW.trod_lt m _ _ _ hm
  obtain ⟨l0, w0, c0⟩ := open_is (by' := 8) Try.underlying22 Try.underlying3 (by kernel_rfl) (by kernel_rfl) h0 hsz 0 rfl rfl
  obtain ⟨a1, len1, cap1, rfl⟩ := okWide_slice Try.underlying22 (hval 1 22 v1 rfl rfl)
  have k1 := h1
  have lt1 : ∀ x ∈ p1, x.block < W.heap.size := by obtain ⟨m, hm⟩ := k1; exact DataW.trod_lt m _ _ _ hm
  obtain ⟨l1, w1, c1⟩ := open_is (by' := 8) Try.underlying22 Try.underlying3 (by kernel_rfl) (by kernel_rfl) h1 hsz 1 rfl rfl
  obtain ⟨a2, rfl, rfl, rfl⟩ := open_bool Try.underlying4 (hval 2 4 v2 rfl rfl) h2
  clear hA0 hval0 hsz
  refine (walk a0 len0 cap0 l0 a1 len1 cap1 l1 a2 W w0 c0 w1 c1).mono fun e W' ⟨he, bel⟩ => ?_
  subst he
  exact ⟨_, rfl, _, _, _, [], _, [], hW', trodAll_mk1 (shut_bool Try.underlying4 _), (trodAll_cons_mk (Below.trod laidOut (by kernel_rfl) (of_decide_eq_true (by kernel_rfl)) k0 bel lt0) (trodAll_cons_mk (Below.trod laidOut (by kernel_rfl) (of_decide_eq_true (by kernel_rfl)) k1 bel lt1) (trodAll_cons_mk (shut_bool Try.underlying4 _) trodAll_mk0))), rfl, bel.frame _, fun h => by cases h⟩

theorem proved : Rows.CanonBackSaid :=
  OpenClaim.holds_of_wide 6 Try.f6 rfl rfl rfl rfl rfl rfl rfl ⟨rfl, rfl, rfl, rfl, rfl⟩ rfl rfl rfl rfl rfl (by kernel_rfl) Try.func6 (by kernel_rfl)
    (of_decide_eq_true (by kernel_rfl)) (by unfold Func.isWrapper; first | (rw [if_pos (by decide +kernel)]; kernel_rfl) | (rw [if_neg (by decide +kernel)]; exact ⟨rfl, rfl⟩))
    (fun os started H enc _ => lifted os started H enc)
#print axioms proved
end Go.Proofs.Ytnlbomijnldlmaa.CanonBack
