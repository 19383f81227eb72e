/- (*reader).sizes, isSparse, literalBook, distBook: their contracts. (*reader).sequence: its contract. (*sequence).run: its contract. -/
import Derived.Test.YtfgpmccmalddjaaDoorZ17
set_option linter.unusedSimpArgs false
set_option linter.unusedVariables false
section
namespace Go.Proofs.YtfgpmccmalddjaaDoor
open Go.RowKit
attribute [local go_sem] Oper.semAt_some

/-- What sizes answers. -/
def SzPost (w : World) (D : Nat → Prop) (B gr gb : Nat) (p5 p6 : Value) (bs : List UInt8) (most : Nat) (ls : Bool) (s : Unp) (r : Ip.Rs (Nat × Nat)) (e : Ending) (w' : World) : Prop :=
  match r with
  | .ok a q => e = .returned (.tuple #[.int .i64 (a.1 : Nat), .int .i64 (a.2 : Nat), .nilIface]) ∧ Ir w' D B gr gb p5 p6 bs q most ls s ∧ Ch w w' (fun k => ¬ D k)
  | .err n => (n == 0) = false ∧ e = .returned (.tuple #[.int .i64 0, .int .i64 0, .iface 39 (.int .i64 n)]) ∧ Ch w w' (fun k => ¬ D k)
section
variable {w : World} {D : Nat → Prop} {B gr gb p most : Nat} {p5 p6 : Value} {bs : List UInt8} {ls : Bool} {s : Unp}
set_option maxRecDepth 100000 in
theorem sizes_any (h : Ir w D B gr gb p5 p6 bs p most ls s) :
    Calls Tryd.prog 97 #[.pointer (some ⟨gr, 0, none⟩)] w (SzPost w D B gr gb p5 p6 bs most ls s (Ip.sizesP (lob bs) p)) := by
  have g0 := h.cell
  have HT := Lib.hid (irTake h 5 (by omega))
  have HSP : Hid (Ip.sizesP (lob bs) p = Ip.bind (Ip.take 5) (fun n => if 286 < n + 257 then Ip.fail 2 else Ip.bind (Ip.take 5) fun m => if 30 < m + 1 then Ip.fail 2 else Ip.pure (n + 257, m + 1)) (lob bs) p) := Lib.hid rfl
  clear h
  go_enter Tryd.func97, Tryd.ntmps97
  go_wp2_with fail
  refine HT.out.mono ?_
  cases h1 : Ip.take 5 (lob bs) p with
  | err n =>
    rintro e w1 ⟨hn, ⟨x, rfl⟩, hch⟩
    have HP : Hid (SzPost w D B gr gb p5 p6 bs most ls s (Ip.sizesP (lob bs) p) (.returned (.tuple #[.int .i64 0, .int .i64 0, .iface 39 (.int .i64 n)])) w1) := Lib.hid (by
      rw [HSP.out, Ip.bind_err h1]; exact ⟨hn, rfl, hch⟩)
    clear hn hch h1 HT HSP
    go_wp2
    go_ret3
    exact HP.out
  | ok n q =>
    rintro e w1 ⟨rfl, hir, hch⟩
    have hn := Ip.take_lt h1
    rw [show (2 : Nat) ^ 5 = 32 from rfl] at hn
    have HS1 : Hid (Ip.sizesP (lob bs) p = (if 286 < n + 257 then Ip.fail 2 else Ip.bind (Ip.take 5) fun m => if 30 < m + 1 then Ip.fail 2 else Ip.pure (n + 257, m + 1) : Ip.Pr (Nat × Nat)) (lob bs) q) := Lib.hid (by rw [HSP.out, Ip.bind_ok h1])
    have g1 := hir.cell
    have HT1 := Lib.hid (irTake hir 5 (by omega))
    have HC1 := Lib.hid hch
    clear h1 HSP HT hir hch g0
    by_cases hf : 286 < n + 257
    · have hd : decide ((286 : Int) < (n : Int) + 257) = true := by simp; omega
      have HP : Hid (SzPost w D B gr gb p5 p6 bs most ls s (Ip.sizesP (lob bs) p) (.returned (.tuple #[.int .i64 0, .int .i64 0, .iface 39 (.int .i64 2)])) w1) := Lib.hid (by
        rw [HS1.out, if_pos hf]; exact ⟨by decide, rfl, HC1.out⟩)
      clear hf HS1 HT1
      go_wp2
      go_ret3
      exact HP.out
    · have hd : decide ((286 : Int) < (n : Int) + 257) = false := by simp; omega
      have HS2 : Hid (Ip.sizesP (lob bs) p = Ip.bind (Ip.take 5) (fun m => if 30 < m + 1 then Ip.fail 2 else Ip.pure (n + 257, m + 1)) (lob bs) q) := Lib.hid (by rw [HS1.out, if_neg hf])
      clear hf HS1
      go_wp2_with fail
      refine HT1.out.mono ?_
      cases h2 : Ip.take 5 (lob bs) q with
      | err k =>
        rintro e w2 ⟨hk, ⟨x, rfl⟩, hch⟩
        have HP : Hid (SzPost w D B gr gb p5 p6 bs most ls s (Ip.sizesP (lob bs) p) (.returned (.tuple #[.int .i64 0, .int .i64 0, .iface 39 (.int .i64 k)])) w2) := Lib.hid (by
          rw [HS2.out, Ip.bind_err h2]; exact ⟨hk, rfl, HC1.out.trans hch (fun n hn => .inl hn)⟩)
        clear hk hch h2 HT1 HS2
        go_wp2
        go_ret3
        exact HP.out
      | ok m r =>
        rintro e w2 ⟨rfl, hir, hch⟩
        have hm := Ip.take_lt h2
        rw [show (2 : Nat) ^ 5 = 32 from rfl] at hm
        by_cases hf : 30 < m + 1
        · have hd2 : decide ((30 : Int) < (m : Int) + 1) = true := by simp; omega
          have HP : Hid (SzPost w D B gr gb p5 p6 bs most ls s (Ip.sizesP (lob bs) p) (.returned (.tuple #[.int .i64 0, .int .i64 0, .iface 39 (.int .i64 2)])) w2) := Lib.hid (by
            rw [HS2.out, Ip.bind_ok h2, if_pos hf]; exact ⟨by decide, rfl, HC1.out.trans hch (fun n hn => .inl hn)⟩)
          clear hf h2 hir hch HT1 HS2
          go_wp2
          go_ret3
          exact HP.out
        · have hd2 : decide ((30 : Int) < (m : Int) + 1) = false := by simp; omega
          have HP : Hid (SzPost w D B gr gb p5 p6 bs most ls s (Ip.sizesP (lob bs) p) (.returned (.tuple #[.int .i64 ((n : Int) + 257), .int .i64 ((m : Int) + 1), .nilIface])) w2) := Lib.hid (by
            rw [HS2.out, Ip.bind_ok h2, if_neg hf]; exact ⟨rfl, hir, HC1.out.trans hch (fun n hn => .inl hn)⟩)
          clear hf h2 hir hch HT1 HS2
          go_wp2
          go_ret3
          exact HP.out
end
theorem isSparse_any (a : Option Addr) (len cap : Nat) (l : List Int) (w : World) (h : Is .i64 w a len cap l) (hl : len ≤ 1000) (hw : ∀ x ∈ l, 0 ≤ x ∧ x ≤ 1000000) :
    Calls Tryd.prog 111 #[.slice a len cap] w fun e w' => e = .returned (.bool (decide (l.sum ≤ 1))) ∧ w = w' := by
  have HL := Lib.hid h.hlen
  have H := Lib.hid h
  have hle := h.hle
  have HB : Hid (∀ k, k ≤ len → 0 ≤ (l.take k).sum ∧ (l.take k).sum ≤ k * 1000000) := Lib.hid (fun k hk => by
    induction k with
    | zero => simp
    | succ k ih =>
      have hk2 : k < l.length := by rw [HL.out]; omega
      have := ih (by omega)
      have hx := hw _ (List.getElem_mem hk2)
      rw [List.take_succ_eq_append_getElem hk2, List.sum_append]
      simp only [List.sum_cons, List.sum_nil]
      omega)
  have HN : Hid (∀ k, k < len → (l.take (k + 1)).sum = (l.take k).sum + l.getD k 0) := Lib.hid (fun k hk => by
    have hk2 : k < l.length := by rw [HL.out]; omega
    rw [List.take_succ_eq_append_getElem hk2, List.sum_append, List.getD, List.getElem?_eq_getElem hk2]
    simp)
  clear h hw
  go_enter Tryd.func111, Tryd.ntmps111
  go_wp2
  go_loop [3, 8] (fun v i => ∃ (k : Nat) (x : Int), k ≤ len ∧ i = .int .i64 k ∧ v = .int .i64 x ∧ Hid (x = (l.take k).sum)) (fun _ i => len - (intOf i).toNat)
  case atStart => exact ⟨0, 0, by omega, rfl, rfl, Lib.hid (by simp)⟩
  case round =>
    obtain ⟨k, x, hk, rfl, rfl, HX⟩ := hrel
    by_cases hkl : k < len
    · obtain ⟨b, off, rfl, hb, hcell⟩ := H.out.at' k hkl
      have hb0 := HB.out k hk
      have hb1 := HB.out (k + 1) (by omega)
      rw [HN.out k hkl] at hb1
      rw [← HX.out] at hb0 hb1
      have HN1 : Hid (x + l.getD k 0 = (l.take (k + 1)).sum) := Lib.hid (by rw [HN.out k hkl, HX.out])
      generalize l.getD k 0 = y at *
      have hx1 : -1000000000000 ≤ x ∧ x ≤ 1000000000000 := by omega
      have hx2 : -1000000000000 ≤ x + y ∧ x + y ≤ 1000000000000 := by omega
      clear hb0 hb1
      go_wp2
      go_round
      case rel => exact ⟨k + 1, x + y, by omega, by go_num, rfl, HN1⟩
      case measure => simp [intOf]; omega
    · obtain rfl : len = k := by omega
      have HE : Hid (x = l.sum) := Lib.hid (by rw [HX.out, List.take_of_length_le (by rw [HL.out]; exact Nat.le_refl _)])
      clear HB HN HX
      by_cases h1 : x ≤ 1
      · have d1 : decide (x ≤ 1) = true := by simpa using h1
        clear h1
        go_wp2
        go_ret
        exact ⟨by rw [← HE.out, d1]; rfl, rfl⟩
      · have d1 : decide (x ≤ 1) = false := by simpa using h1
        clear h1
        go_wp2
        go_ret
        exact ⟨by rw [← HE.out, d1]; rfl, rfl⟩
/-- What a book's maker answers, in new memory: nothing older changes. -/
def BkPost (w : World) (l : List Int) (ok : Bool) (e : Ending) (w' : World) : Prop :=
  if ok = true then ∃ g, e = .returned (.tuple #[.pointer (some ⟨g, 0, none⟩), .nilIface]) ∧ Bz w' (fun k => w.heap.size ≤ k ∧ k < w'.heap.size) g (Bk.rowsL l) ∧ Below w.heap.size w w'
  else e = .returned (.tuple #[.pointer none, .iface 39 (.int .i64 2)]) ∧ Below w.heap.size w w'
theorem free_yes2 (a : Option Addr) (len cap : Nat) (l : List Int) (w : World) (h : Is .i64 w a len cap l) (hr : len ≤ 512) (hf : Cn.freeB l = true) (n : Int) (hn : 65536 - (Cn.sum l : Int) = n) :
    Calls Tryd.prog 104 #[.slice a len cap] w fun e w' => e = .returned (.tuple #[.int .i64 n, .nilIface]) ∧ w = w' := by
  refine (free_any a len cap l w h (by omega)).mono ?_
  intro e w' hp
  unfold FreePost at hp
  rw [hf, hn] at hp
  exact hp
theorem free_no2 (a : Option Addr) (len cap : Nat) (l : List Int) (w : World) (h : Is .i64 w a len cap l) (hr : len ≤ 512) (hf : Cn.freeB l = false) :
    Calls Tryd.prog 104 #[.slice a len cap] w fun e w' => e = .returned (.tuple #[.int .i64 0, .iface 39 (.int .i64 6)]) ∧ w = w' := by
  refine (free_any a len cap l w h (by omega)).mono ?_
  intro e w' hp
  unfold FreePost at hp
  rw [hf] at hp
  exact hp
theorem free_sum {l : List Int} (hf : Cn.freeB l = true) : Cn.sum l ≤ 65536 := by
  unfold Cn.freeB at hf
  simp only [Bool.and_eq_true, decide_eq_true_eq] at hf
  exact hf.2
theorem bk_no {w : World} {l : List Int} {ok : Bool} (h : ok = false) : BkPost w l ok (.returned (.tuple #[.pointer none, .iface 39 (.int .i64 2)])) w := by
  subst h; exact ⟨rfl, Below.refl _ _⟩
theorem bk_yes {w w' : World} {l : List Int} {ok : Bool} {g : Nat} (h : ok = true) (hz : Bz w' (fun k => w.heap.size ≤ k ∧ k < w'.heap.size) g (Bk.rowsL l)) (hb : Below w.heap.size w w') : BkPost w l ok (.returned (.tuple #[.pointer (some ⟨g, 0, none⟩), .nilIface])) w' := by
  subst h; exact ⟨g, rfl, hz, hb⟩
theorem literalBook_any (a : Option Addr) (len cap : Nat) (l : List Int) (w : World) (h : Is .i64 w a len cap l) (h0 : 257 ≤ len) (hl : len ≤ 512) :
    Calls Tryd.prog 100 #[.slice a len cap] w (BkPost w l (Ip.litOk l)) := by
  obtain ⟨b, off, rfl, hb, hcell⟩ := h.at' 256 (by omega)
  have hle := h.hle
  by_cases hfr : Cn.freeB l = true
  · have HB := Lib.hid (fix_book w _ len cap l h hfr hl)
    obtain ⟨n, hn⟩ : ∃ n, 65536 - (Cn.sum l : Int) = n := ⟨_, rfl⟩
    have HF := Lib.hid (free_yes2 _ len cap l w h hl hfr n hn)
    have hs := free_sum hfr
    by_cases hw : Cn.sum l = 65536
    · have d1 : decide ((0 : Int) < n) = false := by simp; omega
      by_cases hz : l.getD 256 0 = 0
      · have dz : (l.getD 256 0 == 0) = true := by simpa using hz
        have HP := Lib.hid (bk_no (w := w) (l := l) (ok := Ip.litOk l) (by unfold Ip.litOk; rw [hz]; simp))
        generalize l.getD 256 0 = x at *
        clear h hn hs hw hz hfr HB
        go_enter Tryd.func100, Tryd.ntmps100
        go_wp2_with fail
        refine HF.out.mono ?_
        rintro e w' ⟨rfl, rfl⟩
        go_wp2
        go_ret2
        exact HP.out
      · have dz : (l.getD 256 0 == 0) = false := by simpa using hz
        have HK := Lib.hid (fun (w' : World) (g : Nat) => bk_yes (w := w) (w' := w') (l := l) (g := g) (ok := Ip.litOk l) (by simp [Ip.litOk, Ip.whole, hfr, hw]; simpa using hz))
        generalize l.getD 256 0 = x at *
        clear h hn hs hw hz hfr
        go_enter Tryd.func100, Tryd.ntmps100
        go_wp2_with fail
        refine HF.out.mono ?_
        rintro e w' ⟨rfl, rfl⟩
        go_wp2_with fail
        refine HB.out.mono ?_
        rintro e w2 ⟨g, rfl, hbz, hbl⟩
        have HP := Lib.hid (HK.out w2 g hbz hbl)
        clear hbz hbl HB HK
        go_wp2
        go_ret2
        exact HP.out
    · have d1 : decide ((0 : Int) < n) = true := by simp; omega
      have HP := Lib.hid (bk_no (w := w) (l := l) (ok := Ip.litOk l) (by simp [Ip.litOk, Ip.whole, hw]))
      clear h hn hs hw hfr HB hcell
      go_enter Tryd.func100, Tryd.ntmps100
      go_wp2_with fail
      refine HF.out.mono ?_
      rintro e w' ⟨rfl, rfl⟩
      go_wp2
      go_ret2
      exact HP.out
  · have hfr : Cn.freeB l = false := by simpa using hfr
    have HF := Lib.hid (free_no2 _ len cap l w h hl hfr)
    have HP := Lib.hid (bk_no (w := w) (l := l) (ok := Ip.litOk l) (by simp [Ip.litOk, Ip.whole, hfr]))
    clear h hfr hcell
    go_enter Tryd.func100, Tryd.ntmps100
    go_wp2_with fail
    refine HF.out.mono ?_
    rintro e w' ⟨rfl, rfl⟩
    go_wp2
    go_ret2
    exact HP.out
theorem distBook_any (a : Option Addr) (len cap : Nat) (l : List Int) (w : World) (h : Is .i64 w a len cap l) (hl : len ≤ 512) (hx : ∀ x ∈ l, 0 ≤ x ∧ x ≤ 1000000) :
    Calls Tryd.prog 101 #[.slice a len cap] w (BkPost w l (Ip.distOk l)) := by
  have hle := h.hle
  by_cases hfr : Cn.freeB l = true
  · have HB := Lib.hid (fix_book w _ len cap l h hfr hl)
    obtain ⟨n, hn⟩ : ∃ n, 65536 - (Cn.sum l : Int) = n := ⟨_, rfl⟩
    have HF := Lib.hid (free_yes2 _ len cap l w h hl hfr n hn)
    have HS := Lib.hid (isSparse_any a len cap l w h (by omega) hx)
    have hs := free_sum hfr
    by_cases hw : Cn.sum l = 65536
    · have d1 : decide ((0 : Int) < n) = false := by simp; omega
      have HK := Lib.hid (fun (w' : World) (g : Nat) => bk_yes (w := w) (w' := w') (l := l) (g := g) (ok := Ip.distOk l) (by simp [Ip.distOk, hfr, hw]))
      clear h hn hs hw hfr hx HS
      go_enter Tryd.func101, Tryd.ntmps101
      go_wp2_with fail
      refine HF.out.mono ?_
      rintro e w' ⟨rfl, rfl⟩
      go_wp2_with fail
      refine HB.out.mono ?_
      rintro e w2 ⟨g, rfl, hbz, hbl⟩
      have HP := Lib.hid (HK.out w2 g hbz hbl)
      clear hbz hbl HB HK
      go_wp2
      go_ret2
      exact HP.out
    · have d1 : decide ((0 : Int) < n) = true := by simp; omega
      by_cases h1 : l.sum ≤ 1
      · have d2 : decide (l.sum ≤ 1) = true := by simpa using h1
        rw [d2] at HS
        have HK := Lib.hid (fun (w' : World) (g : Nat) => bk_yes (w := w) (w' := w') (l := l) (g := g) (ok := Ip.distOk l) (by simp [Ip.distOk, hfr, h1]))
        clear h hn hs hw hfr hx h1 d2
        go_enter Tryd.func101, Tryd.ntmps101
        go_wp2_with fail
        refine HF.out.mono ?_
        rintro e w' ⟨rfl, rfl⟩
        go_wp2_with fail
        refine HS.out.mono ?_
        rintro e w' ⟨rfl, rfl⟩
        go_wp2_with fail
        refine HB.out.mono ?_
        rintro e w2 ⟨g, rfl, hbz, hbl⟩
        have HP := Lib.hid (HK.out w2 g hbz hbl)
        clear hbz hbl HB HK
        go_wp2
        go_ret2
        exact HP.out
      · have d2 : decide (l.sum ≤ 1) = false := by simpa using h1
        rw [d2] at HS
        have HP := Lib.hid (bk_no (w := w) (l := l) (ok := Ip.distOk l) (by simp [Ip.distOk, hw]; intro _; simpa using h1))
        clear h hn hs hw hfr hx h1 d2 HB
        go_enter Tryd.func101, Tryd.ntmps101
        go_wp2_with fail
        refine HF.out.mono ?_
        rintro e w' ⟨rfl, rfl⟩
        go_wp2_with fail
        refine HS.out.mono ?_
        rintro e w' ⟨rfl, rfl⟩
        go_wp2
        go_ret2
        exact HP.out
  · have hfr : Cn.freeB l = false := by simpa using hfr
    have HF := Lib.hid (free_no2 _ len cap l w h hl hfr)
    have HP := Lib.hid (bk_no (w := w) (l := l) (ok := Ip.distOk l) (by simp [Ip.distOk, hfr]))
    clear h hfr hx
    go_enter Tryd.func101, Tryd.ntmps101
    go_wp2_with fail
    refine HF.out.mono ?_
    rintro e w' ⟨rfl, rfl⟩
    go_wp2
    go_ret2
    exact HP.out
end Go.Proofs.YtfgpmccmalddjaaDoor
end

section
namespace Go.Proofs.YtfgpmccmalddjaaDoor
open Go.RowKit
attribute [local go_sem] Oper.semAt_some

/-- A sequence in memory: its reader, its book, the lengths so far, how many there are to be. What F keeps stays as it is. -/
structure Sq (w : World) (F D : Nat → Prop) (B gr gb gs gk : Nat) (p5 p6 : Value) (bs : List UInt8) (p most : Nat) (ls : Bool) (s : Unp) (R : Nat → List Nat) (v : Value) (l : List Int) (size : Nat) : Prop where
  ir : Ir w D B gr gb p5 p6 bs p most ls s
  row : w.heap[gs]? = some (.cells #[.pointer (some ⟨gr, 0, none⟩), .pointer (some ⟨gk, 0, none⟩), v, .int .i64 (size : Nat)] 176 (0, 0))
  dg : D gs
  fd : ∀ k, F k → D k ∧ k ≠ gs ∧ v.ownBlock ≠ some k
  bz : Bz w F gk R
  own : w.ownsRow B 3 1 v l.length (ivs l)
  vd : ∀ k, v.ownBlock = some k → D k ∧ k ≠ gs
  wf : ∀ x ∈ l, 0 ≤ x ∧ x ≤ 1000000
/-- What sequence answers. -/
def SqPost (w : World) (D : Nat → Prop) (B gr gb : Nat) (p5 p6 : Value) (bs : List UInt8) (most : Nat) (ls : Bool) (s : Unp) (size : Nat) (r : Ip.Rs (List Int)) (e : Ending) (w' : World) : Prop :=
  match r with
  | .ok l q => ∃ gs gk F D', e = .returned (.tuple #[.pointer (some ⟨gs, 0, none⟩), .nilIface]) ∧ (∀ k, D k → F k) ∧ (∀ k, D' k → D k ∨ w.heap.size ≤ k) ∧ w.heap.size ≤ gs ∧ Sq w' F D' B gr gb gs gk p5 p6 bs q most ls s (Bk.rowsL l) (.slice none 0 0) [] size ∧ Bk.Good (Bk.rowsL l) ∧ (∀ c ∈ Bk.ks (Bk.rowsL l), 0 ≤ c.1 ∧ c.1 ≤ 1000000) ∧ Ch w w' (fun k => ¬ D k)
  | .err n => (n == 0) = false ∧ e = .returned (.tuple #[.pointer none, .iface 39 (.int .i64 n)]) ∧ Ch w w' (fun k => ¬ D k)
theorem ks_small (l : List Int) (h : l.length ≤ 1000) : ∀ c ∈ Bk.ks (Bk.rowsL l), 0 ≤ c.1 ∧ c.1 ≤ 1000000 := by
  intro c hc
  unfold Bk.ks at hc
  obtain ⟨x, hx, rfl⟩ := List.mem_map.1 hc
  have := (Bk.seq_len l x hx).1
  dsimp only
  omega
theorem rep_own (w : World) (c : Int) (n : Nat) (hn : n ≤ 1000000) (hc : (Lit.int .i64 c).wf = true) :
    Calls Tryd.prog 91 #[.slice (some ⟨w.heap.size, 0, none⟩) 1 1, .int .i64 (n : Nat)] (w.alloc (.cells #[.int .i64 c] 3)) (fun e w' => ∃ a cap, e = .returned (.slice a n cap) ∧ Is .i64 w' a n cap (List.replicate n c) ∧ Below w.heap.size w w' ∧ ∀ ad, a = some ad → w.heap.size ≤ ad.block) := by
  have hb := below_alloc w (.cells #[.int .i64 c] 3)
  refine (repeat_any w.heap.size c n _ (by rw [cell_of_row _ _ _ _ _ (0, 0) (heap_alloc_last w _)]; rfl) (by simp) hn).mono ?_
  rintro e w' ⟨v, rfl, hown, hb2⟩
  obtain ⟨a, cap, rfl, hI⟩ := own_is hown (by intro m hm; rw [List.eq_of_mem_replicate hm]; exact hc)
  refine ⟨a, cap, rfl, hI, below_then hb hb2, fun ad e => ?_⟩
  have h1 := (hown.lt ad.block (by rw [e]; rfl)).1
  have h2 : w.heap.size + 1 = (w.alloc (.cells #[.int .i64 c] 3)).heap.size := by simp
  omega
theorem nis_get (own : List Nat) (j : Nat) : (nis own).getD j 0 = ((own.getD j 0 : Nat) : Int) := by
  unfold nis
  simp only [List.getD, List.getElem?_map]
  cases own[j]? <;> rfl
theorem own_free {w : World} {base n cap g : Nat} {l : List Int} (h : w.ownsRow base 3 1 (.slice (some ⟨g, 0, none⟩) n cap) n (ivs l)) (j : Nat) : w.frozen? ⟨g, j, none⟩ = false := by
  rcases h.2 with ⟨h1, _⟩ | ⟨g2, cap2, cur, h1, _, hg, _⟩
  · simp at h1
  · simp only [Value.slice.injEq, Option.some.injEq, Addr.mk.injEq, and_true, true_and] at h1
    obtain ⟨rfl, rfl⟩ := h1
    exact frozen_of_row _ _ _ _ _ hg
section
variable {w : World} {D : Nat → Prop} {B gr gb p most : Nat} {p5 p6 : Value} {bs : List UInt8} {ls : Bool} {s : Unp}
set_option maxRecDepth 100000 in
set_option maxHeartbeats 4000000 in
theorem sequence_any (h : Ir w D B gr gb p5 p6 bs p most ls s) (hlo : Lo w) (h0 : D 1) (size : Nat) (hsz : size ≤ 1000) :
    Calls Tryd.prog 98 #[.pointer (some ⟨gr, 0, none⟩), .int .i64 (size : Nat)] w (SqPost w D B gr gb p5 p6 bs most ls s size (Ip.seqP (lob bs) p)) := by
  have g0 := h.cell
  have HT := Lib.hid (irTake h 4 (by omega))
  have HSP : Hid (Ip.seqP (lob bs) p = Ip.bind (Ip.take 4) (fun n => Ip.bind (Ip.numbers (List.replicate (n + 4) 3)) fun own => if Ip.whole (Ip.place own own.length) = true then Ip.pure (Ip.place own own.length) else Ip.fail 2) (lob bs) p) := Lib.hid rfl
  have hw0 : 1 < w.heap.size := by
    obtain ⟨vb, cs, v, vl, k⟩ := h
    exact (k.nd 1 h0).1
  have HDW : Hid (∀ k, D k → k < w.heap.size) := Lib.hid (by
    obtain ⟨vb, cs, v, vl, k⟩ := h
    exact fun j hj => (k.nd j hj).1)
  have HLO := Lib.hid hlo
  have HD0 := Lib.hid h0
  clear h hlo h0
  go_enter Tryd.func98, Tryd.ntmps98
  go_wp2_with fail
  refine HT.out.mono ?_
  cases h1 : Ip.take 4 (lob bs) p with
  | err n =>
    rintro e w1 ⟨hn, ⟨x, rfl⟩, hch⟩
    have HP : Hid (SqPost w D B gr gb p5 p6 bs most ls s size (Ip.seqP (lob bs) p) (.returned (.tuple #[.pointer none, .iface 39 (.int .i64 n)])) w1) := Lib.hid (by
      rw [HSP.out, Ip.bind_err h1]; exact ⟨hn, rfl, hch⟩)
    clear hn hch h1 HT HSP
    go_wp2
    go_ret2
    exact HP.out
  | ok n q =>
    rintro e w1 ⟨rfl, hir, hch⟩
    have hn := Ip.take_lt h1
    rw [show (2 : Nat) ^ 4 = 16 from rfl] at hn
    have HS1 : Hid (Ip.seqP (lob bs) p = Ip.bind (Ip.numbers (List.replicate (n + 4) 3)) (fun own => if Ip.whole (Ip.place own own.length) = true then Ip.pure (Ip.place own own.length) else Ip.fail 2) (lob bs) q) := Lib.hid (by rw [HSP.out, Ip.bind_ok h1])
    have HI1 := Lib.hid hir
    have HC1 := Lib.hid hch
    clear h1 HSP HT hir hch g0
    have HRP := Lib.hid (rep_own w1 3 (n + 4) (by omega) (by decide +kernel))
    rw [show ((n + 4 : Nat) : Int) = (n : Int) + 4 by omega] at HRP
    go_wp2_with fail
    refine HRP.out.mono ?_
    rintro e w2 ⟨a2, c2, rfl, his2, hb2, hag2⟩
    have HI2 := Lib.hid (HI1.out.mono hb2)
    have HN := Lib.hid (irNums HI2.out (cnts := List.replicate (n + 4) 3) (by
      have e8 : List.replicate (n + 4) (3 : Int) = nis (List.replicate (n + 4) 3) := by unfold nis; rw [List.map_replicate]; rfl
      rw [← e8]; exact his2) (by
      intro ad e hh
      have hx := hag2 ad e
      have hgb : gb < w1.heap.size := by
        obtain ⟨vb, cs, v, vl, k⟩ := HI1.out
        exact k.rd.lt
      omega) (by omega) (by intro c hc; rw [List.eq_of_mem_replicate hc]; omega))
    have HC2 : Hid (Ch w w2 (fun k => ¬ D k)) := Lib.hid (HC1.out.trans (Ch.of_below (T := fun _ => False) hb2) (fun n hn => hn.elim))
    clear his2 hb2 hag2 HRP HI1 HC1
    go_wp2_with fail
    refine HN.out.mono ?_
    cases h2 : Ip.numbers (List.replicate (n + 4) 3) (lob bs) q with
    | err k =>
      rintro e w3 ⟨hk, rfl, hch3⟩
      have HP : Hid (SqPost w D B gr gb p5 p6 bs most ls s size (Ip.seqP (lob bs) p) (.returned (.tuple #[.pointer none, .iface 39 (.int .i64 k)])) w3) := Lib.hid (by
        rw [HS1.out, Ip.bind_err h2]; exact ⟨hk, rfl, HC2.out.trans hch3 (fun n hn => .inl hn)⟩)
      clear hk hch3 h2 HN HS1
      go_wp2
      go_ret2
      exact HP.out
    | ok own r =>
      rintro e w3 ⟨v3, rfl, hown3, hir3, hch3⟩
      have hlen := Ip.numbers_length _ _ _ _ _ h2
      rw [List.length_replicate] at hlen
      have hlt := Ip.numbers_lt 3 _ _ _ _ _ (by intro c hc; rw [List.eq_of_mem_replicate hc]; omega) h2
      rw [show (2 : Nat) ^ 3 = 8 from rfl] at hlt
      have HS2 : Hid (Ip.seqP (lob bs) p = (if Ip.whole (Ip.place own own.length) = true then Ip.pure (Ip.place own own.length) else Ip.fail 2 : Ip.Pr (List Int)) (lob bs) r) := Lib.hid (by rw [HS1.out, Ip.bind_ok h2])
      have HC3 : Hid (Ch w w3 (fun k => ¬ D k)) := Lib.hid (HC2.out.trans hch3 (fun n hn => .inl hn))
      have hwf3 : ∀ m ∈ nis own, (Lit.int .i64 m).wf = true := by
        intro m hm
        unfold nis at hm
        obtain ⟨x, hx, rfl⟩ := List.mem_map.1 hm
        have := hlt x hx
        exact wf_int (by omega)
      have hv3 := fun k hk => (hown3.lt k hk).1
      obtain ⟨a3, c3, rfl, his3⟩ := own_is hown3 hwf3
      obtain ⟨D3, hD3⟩ : ∃ D3 : Nat → Prop, D3 = fun k => D k ∨ (Value.slice a3 own.length c3).ownBlock = some k := ⟨_, rfl⟩
      rw [← hD3] at hir3
      have HD3 : Hid ((∀ k, D k → D3 k) ∧ (∀ k, D3 k → D k ∨ w.heap.size ≤ k) ∧ (∀ ad, a3 = some ad → D3 ad.block)) := Lib.hid (by
        rw [hD3]
        refine ⟨fun k hk => .inl hk, fun k hk => hk.imp id (fun e => ?_), fun ad e => .inr (by rw [e]; rfl)⟩
        have x1 := hv3 k e
        have x2 := HC2.out.size
        omega)
      have HI3 := Lib.hid (And.intro hir3 his3)
      have HOW : Hid (own.length = n + 4 ∧ ∀ x ∈ own, x < 8) := Lib.hid ⟨hlen, hlt⟩
      have hol : own.length ≤ 19 := by omega
      have HLO3 := Lib.hid (HLO.out.kept HC3.out (fun hn => hn HD0.out) hw0)
      clear h2 hown3 hir3 his3 hch3 hlen hlt hwf3 hD3 hv3 HN HS1 HC2 HI2 HLO
      go_wp2_with (at_make; refine wpl_make_full tyI rfl _ _ rfl w3.heap.size .i64 .i64 _ _ 19 rfl rfl rfl rfl (by omega) (by omega) (Nat.le_refl _) ?_)
      intro w4 own4 hg4
      have hb4 : Below w3.heap.size w3 w4 := (Below.refl _ _).grown hg4 (Nat.le_refl _) (by simp)
      have hw30 : 1 < w3.heap.size := Nat.lt_of_lt_of_le hw0 HC3.out.size
      have hz34 : w3.heap.size < w4.heap.size := (own4.lt w3.heap.size rfl).2
      have own4b : w4.ownsRow w3.heap.size 3 1 (.slice (some ⟨w3.heap.size, 0, none⟩) 19 19) 19 (ivs (Ip.place own 0)) := by
        have e2 := made_ints1 19
        rw [Nat.mul_one] at e2
        rw [show Ip.place own 0 = List.replicate 19 0 from rfl, ← e2]; exact own4
      obtain ⟨D4, hD4⟩ : ∃ D4 : Nat → Prop, D4 = fun k => D3 k ∨ (w3.heap.size ≤ k ∧ k < w4.heap.size) := ⟨_, rfl⟩
      have hir4 := HI3.out.1.new hb4
      rw [← hD4] at hir4
      have HD4 : Hid ((∀ k, D k → D4 k) ∧ (∀ k, D4 k → D k ∨ w.heap.size ≤ k) ∧ D4 w3.heap.size) := Lib.hid (by
        rw [hD4]
        refine ⟨fun k hk => .inl (HD3.out.1 k hk), fun k hk => ?_, .inr ⟨Nat.le_refl _, hz34⟩⟩
        rcases hk with hk | ⟨hk, _⟩
        · exact HD3.out.2.1 k hk
        · exact .inr (Nat.le_trans HC3.out.size hk))
      have HI4 := Lib.hid (And.intro hir4 (HI3.out.2.mono hb4))
      have HC4 : Hid (Ch w w4 (fun k => ¬ D k)) := Lib.hid (HC3.out.trans (Ch.of_below (T := fun _ => False) hb4) (fun n hn => hn.elim))
      have HLO4 := Lib.hid (HLO3.out.kept (Ch.of_below (T := fun _ => False) hb4) (fun hn => hn) hw30)
      have HOWN := Lib.hid own4b
      have hag3 : ∀ ad, a3 = some ad → 0 < own.length → ad.block < w3.heap.size := fun ad e hp => HI3.out.2.blk hp ad e
      have HAG3 := Lib.hid hag3
      have hgl : w3.heap.size ≠ 1 := by omega
      have HWW := Lib.hid (show w.heap.size ≤ w3.heap.size from HC3.out.size)
      clear own4 own4b hg4 hb4 hir4 hD4 hag3 HI3 HC3 HLO3 HD3
      generalize w3.heap.size = gl at *
      go_wp2
      go_loopw [41] (fun i wr => ∃ j : Nat, j ≤ own.length ∧ i = .int .i64 j ∧ Hid (wr.ownsRow gl 3 1 (.slice (some ⟨gl, 0, none⟩) 19 19) 19 (ivs (Ip.place own j)) ∧ Ch w4 wr (fun k => k = gl))) (fun i _ => own.length - (intOf i).toNat)
      case atStart => exact ⟨0, by omega, rfl, Lib.hid ⟨HOWN.out, Ch.refl _ _⟩⟩
      case round =>
        obtain ⟨j, hj, rfl, HX⟩ := hrel
        by_cases hjl : j < own.length
        · have hi3 : Is .i64 wr a3 own.length c3 (nis own) := HI4.out.2.kept HX.out.2 (fun ad e hh => by have := HAG3.out ad e (by omega); omega)
          obtain ⟨b, off, rfl, hb, hcell⟩ := hi3.at' j hjl
          have hlo := (HLO4.out.kept HX.out.2 (fun hh => hgl hh.symm) (by omega)) j (by omega)
          have ho := Ip.order_lt j (by omega)
          have hpl := Ip.place_length own j
          obtain ⟨z, k1⟩ : ∃ z, wr.cell? ⟨gl, Ip.order.getD j 0, none⟩ = some z := ⟨_, (HX.out.1.cellAt (Ip.order.getD j 0) (by omega)).trans (by rw [ivs_get _ _ (by omega)])⟩
          have f1 := own_free HX.out.1 (Ip.order.getD j 0)
          have HX2 : Hid ((wr.setCell ⟨gl, Ip.order.getD j 0, none⟩ (.int .i64 ((own.getD j 0 : Nat) : Int))).ownsRow gl 3 1 (.slice (some ⟨gl, 0, none⟩) 19 19) 19 (ivs (Ip.place own (j + 1))) ∧ Ch w4 (wr.setCell ⟨gl, Ip.order.getD j 0, none⟩ (.int .i64 ((own.getD j 0 : Nat) : Int))) (fun k => k = gl)) := Lib.hid
            ⟨own_set HX.out.1 (Ip.order.getD j 0) _, HX.out.2.set (p := ⟨gl, Ip.order.getD j 0, none⟩) (.inl rfl) _⟩
          rw [nis_get] at hcell
          clear hi3 HX hpl
          generalize Ip.order.getD j 0 = o at *
          generalize own.getD j 0 = x at *
          have hLn : Hid (own.length = own.length) := Lib.hid rfl
          go_wp2
          go_roundw
          case rel => exact ⟨j + 1, by omega, by go_num, HX2⟩
          case measure => simp [intOf]; omega
        · obtain rfl : j = own.length := by omega
          have hl := Ip.place_length own own.length
          have hpm := Ip.place_mem own 7 (fun x hx => by have := HOW.out.2 x hx; omega) (by omega) own.length (Nat.le_refl _)
          obtain ⟨l, hle⟩ : ∃ l, Ip.place own own.length = l := ⟨_, rfl⟩
          rw [hle] at HX HS2 hl hpm
          have hI : ∃ a cap, Value.slice (some ⟨gl, 0, none⟩) 19 19 = .slice a 19 cap ∧ Is .i64 wr a 19 cap l := own_is HX.out.1 (fun m hm => wf_int (by have := hpm m hm; omega))
          obtain ⟨al, cl, e1, hI⟩ := hI
          simp only [Value.slice.injEq, true_and] at e1
          obtain ⟨rfl, rfl⟩ := e1
          have HCR : Hid (Ch w wr (fun k => ¬ D k)) := Lib.hid (HC4.out.trans HX.out.2 (fun n hn => .inr (by have := HWW.out; omega)))
          have HIR := Lib.hid (HI4.out.1.touch HX.out.2 HD4.out.2.2)
          have herr : Ip.whole l = false → Hid (SqPost w D B gr gb p5 p6 bs most ls s size (Ip.seqP (lob bs) p) (.returned (.tuple #[.pointer none, .iface 39 (.int .i64 2)])) wr) := fun hw => Lib.hid (by
            rw [HS2.out, hw]; exact ⟨by decide, rfl, HCR.out⟩)
          by_cases hfr : Cn.freeB l = true
          · obtain ⟨m, hm⟩ : ∃ m, 65536 - (Cn.sum l : Int) = m := ⟨_, rfl⟩
            have HF := Lib.hid (free_yes2 _ 19 19 l wr hI (by omega) hfr m hm)
            have hs := free_sum hfr
            by_cases hw : Cn.sum l = 65536
            · have d1 : decide ((0 : Int) < m) = false := by simp; omega
              have HB := Lib.hid (fix_book wr _ 19 19 l hI hfr (by omega))
              have HW : Hid (Ip.seqP (lob bs) p = .ok l r) := Lib.hid (by
                rw [HS2.out, show Ip.whole l = true by simp [Ip.whole, hfr, hw]]; rfl)
              have HG := Lib.hid (And.intro (Bk.good_of l hfr) (ks_small l (by omega)))
              clear herr hle hm hs hw hfr hI hl hpm HX HS2 HOWN HLO4 HAG3 HI4 HC4 HOW
              go_wp2_with fail
              refine HF.out.mono ?_
              rintro e w' ⟨rfl, rfl⟩
              go_wp2_with fail
              refine HB.out.mono ?_
              rintro e w6 ⟨gk, rfl, hbz, hb6⟩
              have hb7 := below_alloc w6 (.cells #[.pointer (some ⟨gr, 0, none⟩), .pointer (some ⟨gk, 0, none⟩), .slice none 0 0, .int .i64 (size : Nat)] 176)
              have HP : Hid (SqPost w D B gr gb p5 p6 bs most ls s size (Ip.seqP (lob bs) p) (.returned (.tuple #[.pointer (some ⟨w6.heap.size, 0, none⟩), .nilIface])) (w6.alloc (.cells #[.pointer (some ⟨gr, 0, none⟩), .pointer (some ⟨gk, 0, none⟩), .slice none 0 0, .int .i64 (size : Nat)] 176))) := Lib.hid (by
                rw [HW.out]
                have z0 := HCR.out.size
                have z6 := hb6.size
                have hbw : Below wr.heap.size wr (w6.alloc (.cells #[.pointer (some ⟨gr, 0, none⟩), .pointer (some ⟨gk, 0, none⟩), .slice none 0 0, .int .i64 (size : Nat)] 176)) := below_then hb6 hb7
                have z7 : (w6.alloc (.cells #[.pointer (some ⟨gr, 0, none⟩), .pointer (some ⟨gk, 0, none⟩), .slice none 0 0, .int .i64 (size : Nat)] 176)).heap.size = w6.heap.size + 1 := by simp
                refine ⟨w6.heap.size, gk, fun k => D k ∨ (wr.heap.size ≤ k ∧ k < w6.heap.size), fun k => D4 k ∨ (wr.heap.size ≤ k ∧ k < (w6.alloc (.cells #[.pointer (some ⟨gr, 0, none⟩), .pointer (some ⟨gk, 0, none⟩), .slice none 0 0, .int .i64 (size : Nat)] 176)).heap.size), rfl, fun k hk => .inl hk, fun k hk => ?_, by omega, ⟨HIR.out.new hbw, heap_alloc_last w6 _, .inr ⟨by omega, by omega⟩, fun k hk => ?_, ?_, ?_, fun k hk => by simp [Value.ownBlock] at hk, fun x hx => by simp at hx⟩, HG.out.1, HG.out.2, ?_⟩
                · rcases hk with hk | ⟨hk, _⟩
                  · exact HD4.out.2.1 k hk
                  · exact .inr (by omega)
                · rcases hk with hk | ⟨hk, hk2⟩
                  · exact ⟨.inl (HD4.out.1 k hk), by have := HDW.out k hk; omega, by simp [Value.ownBlock]⟩
                  · exact ⟨.inr ⟨hk, by omega⟩, by omega, by simp [Value.ownBlock]⟩
                · exact (hbz.kept (Ch.of_below (T := fun _ => False) hb7) (fun _ _ h => h)).wide (fun k hk => .inr hk)
                · exact World.ownsRow_nil _ _ _ _
                · exact HCR.out.trans (Ch.of_below (T := fun _ => False) hbw) (fun n hn => hn.elim))
              clear hbz hb6 hb7 HB HF HCR HIR
              go_wp2
              go_ret2
              exact HP.out
            · have d1 : decide ((0 : Int) < m) = true := by simp; omega
              have HP := herr (by simp [Ip.whole, hw])
              clear herr hle hm hs hw hfr hI hl hpm HX
              go_wp2_with fail
              refine HF.out.mono ?_
              rintro e w' ⟨rfl, rfl⟩
              go_wp2
              go_ret2
              exact HP.out
          · have hfr : Cn.freeB l = false := by simpa using hfr
            have HF := Lib.hid (free_no2 _ 19 19 l wr hI (by omega) hfr)
            have HP := herr (by simp [Ip.whole, hfr])
            clear herr hle hfr hI hl hpm HX
            go_wp2_with fail
            refine HF.out.mono ?_
            rintro e w' ⟨rfl, rfl⟩
            go_wp2
            go_ret2
            exact HP.out
end
end Go.Proofs.YtfgpmccmalddjaaDoor
end

section
namespace Go.Proofs.YtfgpmccmalddjaaDoor
open Go.RowKit
attribute [local go_sem] Oper.semAt_some

/-- What run answers: a length, and how often. -/
def RnPost (w : World) (D : Nat → Prop) (B gr gb : Nat) (p5 p6 : Value) (bs : List UInt8) (most : Nat) (ls : Bool) (s : Unp) (r : Ip.Rs (Int × Nat)) (e : Ending) (w' : World) : Prop :=
  match r with
  | .ok a q => e = .returned (.tuple #[.int .i64 a.1, .int .i64 (a.2 : Nat), .nilIface]) ∧ Ir w' D B gr gb p5 p6 bs q most ls s ∧ Ch w w' (fun k => ¬ D k)
  | .err n => (n == 0) = false ∧ (∃ x y, e = .returned (.tuple #[x, y, .iface 39 (.int .i64 n)])) ∧ Ch w w' (fun k => ¬ D k)
section
variable {w : World} {F D : Nat → Prop} {B gr gb gs gk p most : Nat} {p5 p6 : Value} {bs : List UInt8} {ls : Bool} {s : Unp} {R : Nat → List Nat} {v : Value} {l : List Int} {size : Nat}
theorem Sq.cells (h : Sq w F D B gr gb gs gk p5 p6 bs p most ls s R v l size) : w.cell? ⟨gs, 0, none⟩ = some (.pointer (some ⟨gr, 0, none⟩)) ∧ w.cell? ⟨gs, 1, none⟩ = some (.pointer (some ⟨gk, 0, none⟩)) ∧ w.cell? ⟨gs, 2, none⟩ = some v ∧ w.cell? ⟨gs, 3, none⟩ = some (.int .i64 (size : Nat)) := by
  refine ⟨?_, ?_, ?_, ?_⟩ <;> rw [cell_of_row _ _ _ _ _ (0, 0) h.row] <;> rfl
/-- The reader has gone on. -/
theorem Sq.next {w' : World} {q : Nat} {s' : Unp} (h : Sq w F D B gr gb gs gk p5 p6 bs p most ls s R v l size) (hir : Ir w' D B gr gb p5 p6 bs q most ls s') (c : Ch w w' (fun k => ¬ D k)) : Sq w' F D B gr gb gs gk p5 p6 bs q most ls s' R v l size :=
  ⟨hir, (c.block gs (Array.getElem?_eq_some_iff.1 h.row).1 (fun hn => hn h.dg)).trans h.row, h.dg, h.fd, h.bz.kept c (fun k hk hn => hn (h.fd k hk).1), c.own h.own (fun k hk hn => hn (h.vd k hk).1), h.vd, h.wf⟩
theorem Sq.mono {w' : World} (h : Sq w F D B gr gb gs gk p5 p6 bs p most ls s R v l size) (hb : Below w.heap.size w w') : Sq w' F D B gr gb gs gk p5 p6 bs p most ls s R v l size :=
  h.next (h.ir.mono hb) (Ch.of_below hb)
set_option maxRecDepth 100000 in
theorem run_zeros (h : Sq w F D B gr gb gs gk p5 p6 bs p most ls s R v l size) (y : Int) (hy : y = 17 ∨ y = 18) :
    Calls Tryd.prog 110 #[.pointer (some ⟨gs, 0, none⟩), .int .i64 y] w (RnPost w D B gr gb p5 p6 bs most ls s (Ip.runP y l (lob bs) p)) := by
  have c0 := h.cells.1
  rcases hy with rfl | rfl
  · have HA := Lib.hid (above_any h.ir 3 3 true (by omega) (by omega))
    have HSP : Hid (Ip.runP 17 l (lob bs) p = Ip.bind (Ip.aboveP 3 3 true) (fun c => Ip.pure (0, c)) (lob bs) p) := Lib.hid rfl
    clear h
    go_enter Tryd.func110, Tryd.ntmps110
    go_wp2_with fail
    refine HA.out.mono ?_
    cases h1 : Ip.aboveP 3 3 true (lob bs) p with
    | err n =>
      rintro e w1 ⟨hn, ⟨x, rfl⟩, hch⟩
      have HP : Hid (RnPost w D B gr gb p5 p6 bs most ls s (Ip.runP 17 l (lob bs) p) (.returned (.tuple #[.int .i64 0, x, .iface 39 (.int .i64 n)])) w1) := Lib.hid (by
        rw [HSP.out, Ip.bind_err h1]; exact ⟨hn, ⟨_, _, rfl⟩, hch⟩)
      clear hn hch h1 HA HSP
      go_wp2
      go_ret3
      exact HP.out
    | ok c q =>
      rintro e w1 ⟨rfl, hir, hch⟩
      have HP : Hid (RnPost w D B gr gb p5 p6 bs most ls s (Ip.runP 17 l (lob bs) p) (.returned (.tuple #[.int .i64 0, .int .i64 (c : Nat), .nilIface])) w1) := Lib.hid (by
        rw [HSP.out, Ip.bind_ok h1]; exact ⟨rfl, hir, hch⟩)
      clear hir hch h1 HA HSP
      go_wp2
      go_ret3
      exact HP.out
  · have HA := Lib.hid (above_any h.ir 11 7 true (by omega) (by omega))
    have HSP : Hid (Ip.runP 18 l (lob bs) p = Ip.bind (Ip.aboveP 11 7 true) (fun c => Ip.pure (0, c)) (lob bs) p) := Lib.hid rfl
    clear h
    go_enter Tryd.func110, Tryd.ntmps110
    go_wp2_with fail
    refine HA.out.mono ?_
    cases h1 : Ip.aboveP 11 7 true (lob bs) p with
    | err n =>
      rintro e w1 ⟨hn, ⟨x, rfl⟩, hch⟩
      have HP : Hid (RnPost w D B gr gb p5 p6 bs most ls s (Ip.runP 18 l (lob bs) p) (.returned (.tuple #[.int .i64 0, x, .iface 39 (.int .i64 n)])) w1) := Lib.hid (by
        rw [HSP.out, Ip.bind_err h1]; exact ⟨hn, ⟨_, _, rfl⟩, hch⟩)
      clear hn hch h1 HA HSP
      go_wp2
      go_ret3
      exact HP.out
    | ok c q =>
      rintro e w1 ⟨rfl, hir, hch⟩
      have HP : Hid (RnPost w D B gr gb p5 p6 bs most ls s (Ip.runP 18 l (lob bs) p) (.returned (.tuple #[.int .i64 0, .int .i64 (c : Nat), .nilIface])) w1) := Lib.hid (by
        rw [HSP.out, Ip.bind_ok h1]; exact ⟨rfl, hir, hch⟩)
      clear hir hch h1 HA HSP
      go_wp2
      go_ret3
      exact HP.out
theorem run_one (h : Sq w F D B gr gb gs gk p5 p6 bs p most ls s R v l size) (y : Int) (h6 : y ≠ 16) (h7 : y ≠ 17) (h8 : y ≠ 18) :
    Calls Tryd.prog 110 #[.pointer (some ⟨gs, 0, none⟩), .int .i64 y] w (RnPost w D B gr gb p5 p6 bs most ls s (Ip.runP y l (lob bs) p)) := by
  have d6 : (y == 16) = false := by simpa using h6
  have d7 : (y == 17) = false := by simpa using h7
  have d8 : (y == 18) = false := by simpa using h8
  have HP : Hid (RnPost w D B gr gb p5 p6 bs most ls s (Ip.runP y l (lob bs) p) (.returned (.tuple #[.int .i64 y, .int .i64 1, .nilIface])) w) := Lib.hid (by
    unfold Ip.runP
    rw [if_neg h6, if_neg h7, if_neg h8]
    exact ⟨rfl, h.ir, Ch.refl _ _⟩)
  clear h h6 h7 h8
  go_enter Tryd.func110, Tryd.ntmps110
  go_wp2
  go_ret3
  exact HP.out
theorem own_slice0 {w : World} {base n : Nat} {v : Value} {l : List Int} (h : w.ownsRow base 3 1 v n (ivs l)) : ∃ a cap, v = .slice a n cap := by
  rcases own_nil_or h with ⟨rfl, rfl⟩ | ⟨g, cap, rfl, _⟩
  · exact ⟨none, 0, rfl⟩
  · exact ⟨_, cap, rfl⟩
theorem run_none (h : Sq w F D B gr gb gs gk p5 p6 bs p most ls s R v [] size) :
    Calls Tryd.prog 110 #[.pointer (some ⟨gs, 0, none⟩), .int .i64 16] w (RnPost w D B gr gb p5 p6 bs most ls s (Ip.runP 16 [] (lob bs) p)) := by
  have c2 := h.cells.2.2.1
  obtain ⟨a, cap, rfl⟩ := own_slice0 h.own
  have e0 : ([] : List Int).length = 0 := rfl
  rw [e0] at c2
  have HP : Hid (RnPost w D B gr gb p5 p6 bs most ls s (Ip.runP 16 [] (lob bs) p) (.returned (.tuple #[.int .i64 0, .int .i64 0, .iface 39 (.int .i64 2)])) w) := Lib.hid ⟨by decide, ⟨_, _, rfl⟩, Ch.refl _ _⟩
  clear h e0
  go_enter Tryd.func110, Tryd.ntmps110
  go_wp2
  go_ret3
  exact HP.out
set_option maxRecDepth 100000 in
theorem run_again (h : Sq w F D B gr gb gs gk p5 p6 bs p most ls s R v l size) (n : Nat) (hn : l.length = n + 1) (hn2 : n ≤ 1000000) :
    Calls Tryd.prog 110 #[.pointer (some ⟨gs, 0, none⟩), .int .i64 16] w (RnPost w D B gr gb p5 p6 bs most ls s (Ip.runP 16 l (lob bs) p)) := by
  have c0 := h.cells.1
  have c2 := h.cells.2.2.1
  have HA := Lib.hid (above_any h.ir 3 2 true (by omega) (by omega))
  have HSP : Hid (Ip.runP 16 l (lob bs) p = Ip.bind (Ip.aboveP 3 2 true) (fun c => Ip.pure (l.getD n 0, c)) (lob bs) p) := Lib.hid (by
    unfold Ip.runP
    rw [if_pos rfl, if_neg (by intro e; rw [e] at hn; simp at hn), hn]; rfl)
  obtain ⟨g, cap, hv, hcp⟩ : ∃ g cap, v = .slice (some ⟨g, 0, none⟩) (n + 1) cap ∧ n + 1 ≤ cap := by
    rcases own_nil_or h.own with ⟨_, h0⟩ | ⟨g, cap, h0, h1, _⟩
    · rw [hn] at h0; simp at h0
    · rw [hn] at h0 h1; exact ⟨g, cap, h0, h1⟩
  subst hv
  have HSQ := Lib.hid h
  have HN := Lib.hid hn
  clear h hn
  go_enter Tryd.func110, Tryd.ntmps110
  go_wp2_with fail
  refine HA.out.mono ?_
  intro e w1 hp
  have hch : Ch w w1 (fun k => ¬ D k) := by
    unfold VPost at hp
    split at hp
    · exact hp.2.2
    · exact hp.2.2
  have k0 : w1.heap[gs]? = some (.cells #[.pointer (some ⟨gr, 0, none⟩), .pointer (some ⟨gk, 0, none⟩), .slice (some ⟨g, 0, none⟩) (n + 1) cap, .int .i64 (size : Nat)] 176 (0, 0)) := (hch.block gs (Array.getElem?_eq_some_iff.1 HSQ.out.row).1 (fun hn => hn HSQ.out.dg)).trans HSQ.out.row
  have k2 : w1.cell? ⟨gs, 2, none⟩ = some (.slice (some ⟨g, 0, none⟩) (n + 1) cap) := by rw [cell_of_row _ _ _ _ _ (0, 0) k0]; rfl
  have ko := hch.own HSQ.out.own (fun k hk hn => hn (HSQ.out.vd k hk).1)
  have kl : w1.cell? ⟨g, n, none⟩ = some (.int .i64 (l.getD n 0)) := by
    have hln := HN.out
    rw [hln] at ko
    exact (ko.cellAt n (by omega)).trans (by rw [ivs_get _ _ (by omega)])
  generalize l.getD n 0 = z at *
  clear ko k0 c0 c2 HSQ HN
  cases h1 : Ip.aboveP 3 2 true (lob bs) p with
  | err m =>
    rw [h1] at hp
    obtain ⟨hm, ⟨x, rfl⟩, _⟩ := hp
    have HP : Hid (∀ nq, RnPost w D B gr gb p5 p6 bs most ls s (Ip.runP 16 l (lob bs) p) (.returned (.tuple #[.int .i64 z, x, .iface 39 (.int .i64 m)])) (w1.drewN nq)) := Lib.hid (fun nq => by
      rw [HSP.out, Ip.bind_err h1]; exact ⟨hm, ⟨_, _, rfl⟩, hch.trans (Ch.of_below (T := fun _ => False) (dn_is w1 nq)) (fun n hn => hn.elim)⟩)
    clear hm hch h1 HA HSP
    go_wp2_with fail
    go_quiet (fail)
    go_wp2
    go_ret3
    exact HP.out _
  | ok c q =>
    rw [h1] at hp
    obtain ⟨rfl, hir, _⟩ := hp
    have HP : Hid (∀ nq, RnPost w D B gr gb p5 p6 bs most ls s (Ip.runP 16 l (lob bs) p) (.returned (.tuple #[.int .i64 z, .int .i64 (c : Nat), .nilIface])) (w1.drewN nq)) := Lib.hid (fun nq => by
      rw [HSP.out, Ip.bind_ok h1]; exact ⟨rfl, hir.mono (dn_is w1 nq), hch.trans (Ch.of_below (T := fun _ => False) (dn_is w1 nq)) (fun n hn => hn.elim)⟩)
    clear hir hch h1 HA HSP
    go_wp2_with fail
    go_quiet (fail)
    go_wp2
    go_ret3
    exact HP.out _
theorem run_any (h : Sq w F D B gr gb gs gk p5 p6 bs p most ls s R v l size) (y : Int) (hn : l.length ≤ 1000000) :
    Calls Tryd.prog 110 #[.pointer (some ⟨gs, 0, none⟩), .int .i64 y] w (RnPost w D B gr gb p5 p6 bs most ls s (Ip.runP y l (lob bs) p)) := by
  by_cases h6 : y = 16
  · subst h6
    cases hl : l.length with
    | zero =>
      obtain rfl := List.eq_nil_of_length_eq_zero hl
      exact run_none h
    | succ n => exact run_again h n hl (by omega)
  · by_cases h7 : y = 17
    · exact run_zeros h y (.inl h7)
    · by_cases h8 : y = 18
      · exact run_zeros h y (.inr h8)
      · exact run_one h y h6 h7 h8
end
end Go.Proofs.YtfgpmccmalddjaaDoor
end
