/- bytes.Equal, bytes.HasPrefix, match.Verify and the document's Match: their contracts. -/
import Derived.Test.YtedncnaeojomcaaDoorProg
import Derived.Test.YtedncnaeojomcaaDoorDnB
import Derived.BigQuiet
import Derived.Deep.RegionHeld3
namespace Go.Proofs.YtedncnaeojomcaaDoor
open Go.RowKit

/-- As many bytes from one place on as are told are those from another place on. -/
def Mt.same (l : List UInt8) (i j n : Nat) : Bool := (l.drop i).take n == (l.drop j).take n
/-- Is there a match at a place, of a length and a distance? -/
def Mt.ver (l : List UInt8) (p n far : Int) : Bool :=
  decide (3 ≤ n ∧ n ≤ 258 ∧ 1 ≤ far ∧ far ≤ 32768 ∧ far ≤ p ∧ p + n ≤ l.length) && Mt.same l (p - far).toNat p.toNat n.toNat
theorem Mt.ver_no {l : List UInt8} {p n far : Int} (h : ¬ (3 ≤ n ∧ n ≤ 258 ∧ 1 ≤ far ∧ far ≤ 32768 ∧ far ≤ p ∧ p + n ≤ l.length)) : Mt.ver l p n far = false := by
  unfold Mt.ver; rw [decide_eq_false h]; rfl
theorem Mt.ver_yes {l : List UInt8} {p n far : Int} (h : 3 ≤ n ∧ n ≤ 258 ∧ 1 ≤ far ∧ far ≤ 32768 ∧ far ≤ p ∧ p + n ≤ l.length) : Mt.ver l p n far = Mt.same l (p - far).toNat p.toNat n.toNat := by
  unfold Mt.ver; rw [decide_eq_true h]; rfl
theorem Mt.same_zero (l : List UInt8) (i j : Nat) : Mt.same l i j 0 = true := by simp [Mt.same]
theorem gb_drop (l : List UInt8) (i : Nat) (h : i < l.length) : l.drop i = l.getD i 0 :: l.drop (i + 1) := by
  rw [List.drop_eq_getElem_cons h]; simp [List.getD, List.getElem?_eq_getElem h]
theorem gb_inj {l m : List UInt8} {i j : Nat} : gb l i = gb m j ↔ l.getD i 0 = m.getD j 0 := by
  unfold gb; exact UInt8.toNat_inj
theorem Mt.same_iff (l : List UInt8) (i j n : Nat) (hi : i + n ≤ l.length) (hj : j + n ≤ l.length) : Mt.same l i j n = true ↔ ∀ k, k < n → gb l (i + k) = gb l (j + k) := by
  unfold Mt.same
  rw [beq_iff_eq]
  constructor
  · intro h k hk
    have e : ((l.drop i).take n)[k]? = ((l.drop j).take n)[k]? := by rw [h]
    rw [List.getElem?_take, List.getElem?_take, if_pos hk, if_pos hk, List.getElem?_drop, List.getElem?_drop] at e
    unfold gb
    rw [List.getD, List.getD, e]
  · intro h
    apply List.ext_getElem?
    intro k
    rw [List.getElem?_take, List.getElem?_take]
    by_cases hk : k < n
    · rw [if_pos hk, if_pos hk, List.getElem?_drop, List.getElem?_drop]
      have := gb_inj.1 (h k hk)
      rw [List.getD, List.getD, List.getElem?_eq_getElem (by omega), List.getElem?_eq_getElem (by omega)] at this
      rw [List.getElem?_eq_getElem (by omega), List.getElem?_eq_getElem (by omega)]
      exact congrArg some this
    · rw [if_neg hk, if_neg hk]
theorem Mt.same_cut (l : List UInt8) (i j n : Nat) : ((l.drop i).take n == (l.drop j).take n) = Mt.same l i j n := rfl

theorem equal_any (a b : Option Addr) (len cap len' cap' : Nat) (l m : List UInt8) (w : World) (h : Bs w a len cap l) (h' : Bs w b len' cap' m) :
    Calls Tryd.prog 58 #[.slice a len cap, .slice b len' cap'] w fun e w' => e = .returned (.bool (l == m)) ∧ w = w' := by
  have c1 := conv_bs (P := Tryd.prog) h 22 9 5 Tryd.underlying22 Tryd.underlying5 Tryd.underlying9
  have c2 := conv_bs (P := Tryd.prog) h' 22 9 5 Tryd.underlying22 Tryd.underlying5 Tryd.underlying9
  clear h h'
  have HE : Hid (((str l).toList == (str m).toList) = (l == m)) := Lib.hid (by rw [str_list, str_list])
  go_enter Tryd.func58, Tryd.ntmps58
  go_wp2
  go_ret
  exact ⟨by show Ending.returned (.bool ((str l).toList == (str m).toList)) = _; rw [HE.out], rfl⟩
theorem Bs.take' {w : World} {a : Option Addr} {len cap : Nat} {l : List UInt8} (h : Bs w a len cap l) (n : Nat) (hn : n ≤ len) : Bs w a n cap (l.take n) :=
  ⟨by have := h.hlen; simp; omega, by have := h.hle; omega, by have := h.hcap; omega, h.hmax, h.hnil, fun i hi => by
    obtain ⟨b, off, e, hb, hc⟩ := h.at' i (by omega)
    exact ⟨b, off, e, hb, by rw [hc]; simp [gb, List.getD, List.getElem?_take, hi]⟩⟩

theorem hasPrefix_any (a b : Option Addr) (len cap len' cap' : Nat) (l m : List UInt8) (w : World) (h : Bs w a len cap l) (h' : Bs w b len' cap' m) (hl : len' ≤ len) :
    Calls Tryd.prog 39 #[.slice a len cap, .slice b len' cap'] w fun e w' => e = .returned (.bool (l.take len' == m)) ∧ w = w' := by
  have hle := h.hle
  have HC := Lib.hid (equal_any a b len' cap len' cap' (l.take len') m w (h.take' len' hl) h')
  have d0 : decide ((len' : Int) ≤ (len : Int)) = true := by simp; omega
  clear h h'
  go_enter Tryd.func39, Tryd.ntmps39
  go_wp2_with fail
  refine HC.out.mono ?_
  rintro e w' ⟨rfl, rfl⟩
  go_wp2
  go_ret
  exact ⟨rfl, rfl⟩

set_option maxRecDepth 100000 in
set_option maxHeartbeats 4000000 in
theorem verify_any (a : Option Addr) (len cap : Nat) (l : List UInt8) (p n far : Int) (w : World) (h : Bs w a len cap l) (hp : (Lit.int .i64 p).wf = true) (hn : (Lit.int .i64 n).wf = true) (hf : (Lit.int .i64 far).wf = true) :
    Calls Tryd.prog 19 #[.slice a len cap, .int .i64 p, .agg #[.int .i64 n, .int .i64 far]] w fun e w' => e = .returned (.bool (Mt.ver l p n far)) ∧ Below w.heap.size w w' := by
  have hb := Lib.hid (below_alloc w (.cells #[.int .i64 n, .int .i64 far] 33))
  have hcap := h.hcap
  have hle := h.hle
  have hlen := h.hlen
  have HB := Lib.hid (h.mono hb.out)
  clear h hp hn hf
  by_cases h1 : 3 ≤ n
  rotate_left
  · have dx : decide (n < 3) = true := by simp; omega
    have E := Lib.hid (Mt.ver_no (l := l) (p := p) (n := n) (far := far) (by omega))
    clear h1
    go_enter Tryd.func19, Tryd.ntmps19
    go_wp2
    go_ret
    exact ⟨by rw [E.out]; rfl, hb.out⟩
  have dh1 : decide (n < 3) = false := by simp; omega
  by_cases h2 : n ≤ 258
  rotate_left
  · have dx : decide (258 < n) = true := by simp; omega
    have E := Lib.hid (Mt.ver_no (l := l) (p := p) (n := n) (far := far) (by omega))
    clear h2
    go_enter Tryd.func19, Tryd.ntmps19
    go_wp2
    go_ret
    exact ⟨by rw [E.out]; rfl, hb.out⟩
  have dh2 : decide (258 < n) = false := by simp; omega
  by_cases h3 : 1 ≤ far
  rotate_left
  · have dx : decide (far < 1) = true := by simp; omega
    have E := Lib.hid (Mt.ver_no (l := l) (p := p) (n := n) (far := far) (by omega))
    clear h3
    go_enter Tryd.func19, Tryd.ntmps19
    go_wp2
    go_ret
    exact ⟨by rw [E.out]; rfl, hb.out⟩
  have dh3 : decide (far < 1) = false := by simp; omega
  by_cases h4 : far ≤ 32768
  rotate_left
  · have dx : decide (32768 < far) = true := by simp; omega
    have E := Lib.hid (Mt.ver_no (l := l) (p := p) (n := n) (far := far) (by omega))
    clear h4
    go_enter Tryd.func19, Tryd.ntmps19
    go_wp2
    go_ret
    exact ⟨by rw [E.out]; rfl, hb.out⟩
  have dh4 : decide (32768 < far) = false := by simp; omega
  by_cases h5 : far ≤ p
  rotate_left
  · have dx : decide (p < far) = true := by simp; omega
    have E := Lib.hid (Mt.ver_no (l := l) (p := p) (n := n) (far := far) (by omega))
    clear h5
    go_enter Tryd.func19, Tryd.ntmps19
    go_wp2
    go_ret
    exact ⟨by rw [E.out]; rfl, hb.out⟩
  have dh5 : decide (p < far) = false := by simp; omega
  by_cases h6 : p ≤ (len : Int) - n
  rotate_left
  · have dx : decide ((len : Int) - n < p) = true := by simp; omega
    have E := Lib.hid (Mt.ver_no (l := l) (p := p) (n := n) (far := far) (by omega))
    clear h6
    go_enter Tryd.func19, Tryd.ntmps19
    go_wp2
    go_ret
    exact ⟨by rw [E.out]; rfl, hb.out⟩
  have dh6 : decide ((len : Int) - n < p) = false := by simp; omega
  have E := Lib.hid (Mt.ver_yes (l := l) (p := p) (n := n) (far := far) ⟨h1, h2, h3, h4, h5, by omega⟩)
  obtain ⟨q, rfl⟩ := Int.eq_ofNat_of_zero_le (show 0 ≤ p by omega)
  obtain ⟨m, rfl⟩ := Int.eq_ofNat_of_zero_le (show 0 ≤ n by omega)
  obtain ⟨f, rfl⟩ := Int.eq_ofNat_of_zero_le (show 0 ≤ far by omega)
  obtain ⟨g, hg⟩ : ∃ g : Nat, g + f = q := ⟨q - f, by omega⟩
  have E2 : Hid (Mt.ver l (q : Int) (m : Int) (f : Int) = Mt.same l g q m) := Lib.hid (by rw [E.out]; congr 1 <;> omega)
  have s1 : (q : Int) - (f : Int) = ((g : Nat) : Int) := by omega
  have s2 : (q : Int) + (m : Int) = ((q + m : Nat) : Int) := by omega
  have hq : q + m ≤ len := by omega
  obtain ⟨b, off, rfl, _, _⟩ := HB.out.at' 0 (by omega)
  have hcg : ¬ cap = g := by omega
  have hcq : ¬ cap = q := by omega
  have HP : Hid (∀ k, Calls Tryd.prog 39 #[.slice (some ⟨b, off + g, none⟩) (len - g) (cap - g), .slice (some ⟨b, off + q, none⟩) m (cap - q)] ((w.alloc (.cells #[.int .i64 (m : Int), .int .i64 (f : Int)] 33)).drewN k) fun e w' => e = .returned (.bool (Mt.same l g q m)) ∧ w' = (w.alloc (.cells #[.int .i64 (m : Int), .int .i64 (f : Int)] 33)).drewN k) := Lib.hid (fun k => by
    have HBk := HB.out.mono (dn_below _ k)
    exact (hasPrefix_any _ _ _ _ _ _ _ _ _ (HBk.drop g (by omega) _ (fun _ => rfl)) ((HBk.drop q (by omega) _ (fun _ => rfl)).take' m (by omega)) (by omega)).mono (fun e w' h => ⟨h.1, h.2.symm⟩))
  have wr1 : IntKind.i64.wrap ((q : Int) - (f : Int)) = (g : Int) := by rw [IntWalk.i64_in _ ⟨by omega, by omega⟩]; omega
  have wr2 : IntKind.i64.wrap ((q : Int) + (m : Int)) = ((q + m : Nat) : Int) := by rw [IntWalk.i64_in _ ⟨by omega, by omega⟩]; omega
  have i1 : (g : Int) ≤ (len : Int) := by omega
  have i2 : ((q + m : Nat) : Int) ≤ (cap : Int) := by omega
  have i3 : (q : Int) ≤ ((q + m : Nat) : Int) := by omega
  have i4 : (0 : Int) ≤ (g : Int) := by omega
  clear E HB s1 s2
  go_enter Tryd.func19, Tryd.ntmps19
  go_wp2_with fail
  go_quiet (first | (go_at_call 39; exact Calls.quiet_of_same (HP.out _)))
  go_wp2
  go_ret
  exact ⟨by rw [E2.out]; rfl, hb.out.trans ((dn_below _ _).mono hb.out.size)⟩

set_option maxRecDepth 100000 in
set_option maxHeartbeats 4000000 in
theorem refMatch_any (a : Option Addr) (len cap : Nat) (l : List UInt8) (p n far : Int) (w : World) (h : Bs w a len cap l) (hp : (Lit.int .i64 p).wf = true) (hn : (Lit.int .i64 n).wf = true) (hf : (Lit.int .i64 far).wf = true) :
    Calls Tryd.prog 37 #[.slice a len cap, .int .i64 p, .int .i64 n, .int .i64 far] w fun e w' => e = .returned (.bool (Mt.ver l p n far)) ∧ Below w.heap.size w w' := by
  have hcap := h.hcap
  have hle := h.hle
  have hlen := h.hlen
  have HB := Lib.hid h
  clear h hp hn hf
  by_cases h1 : 3 ≤ n
  rotate_left
  · have dx : decide (n < 3) = true := by simp; omega
    have E := Lib.hid (Mt.ver_no (l := l) (p := p) (n := n) (far := far) (by omega))
    clear h1
    go_enter Tryd.func37, Tryd.ntmps37
    go_wp2
    go_ret
    exact ⟨by rw [E.out]; rfl, Below.refl _ _⟩
  have dh1 : decide (n < 3) = false := by simp; omega
  by_cases h2 : n ≤ 258
  rotate_left
  · have dx : decide (258 < n) = true := by simp; omega
    have E := Lib.hid (Mt.ver_no (l := l) (p := p) (n := n) (far := far) (by omega))
    clear h2
    go_enter Tryd.func37, Tryd.ntmps37
    go_wp2
    go_ret
    exact ⟨by rw [E.out]; rfl, Below.refl _ _⟩
  have dh2 : decide (258 < n) = false := by simp; omega
  by_cases h3 : 1 ≤ far
  rotate_left
  · have dx : decide (far < 1) = true := by simp; omega
    have E := Lib.hid (Mt.ver_no (l := l) (p := p) (n := n) (far := far) (by omega))
    clear h3
    go_enter Tryd.func37, Tryd.ntmps37
    go_wp2
    go_ret
    exact ⟨by rw [E.out]; rfl, Below.refl _ _⟩
  have dh3 : decide (far < 1) = false := by simp; omega
  by_cases h4 : far ≤ 32768
  rotate_left
  · have dx : decide (32768 < far) = true := by simp; omega
    have E := Lib.hid (Mt.ver_no (l := l) (p := p) (n := n) (far := far) (by omega))
    clear h4
    go_enter Tryd.func37, Tryd.ntmps37
    go_wp2
    go_ret
    exact ⟨by rw [E.out]; rfl, Below.refl _ _⟩
  have dh4 : decide (32768 < far) = false := by simp; omega
  by_cases h0 : 0 ≤ p
  rotate_left
  · have dx : decide (p < 0) = true := by simp; omega
    have E := Lib.hid (Mt.ver_no (l := l) (p := p) (n := n) (far := far) (by omega))
    clear h0
    go_enter Tryd.func37, Tryd.ntmps37
    go_wp2
    go_ret
    exact ⟨by rw [E.out]; rfl, Below.refl _ _⟩
  have dh0 : decide (p < 0) = false := by simp; omega
  by_cases h7 : p ≤ (len : Int)
  rotate_left
  · have dx : decide ((len : Int) < p) = true := by simp; omega
    have E := Lib.hid (Mt.ver_no (l := l) (p := p) (n := n) (far := far) (by omega))
    clear h7
    go_enter Tryd.func37, Tryd.ntmps37
    go_wp2
    go_ret
    exact ⟨by rw [E.out]; rfl, Below.refl _ _⟩
  have dh7 : decide ((len : Int) < p) = false := by simp; omega
  by_cases h5 : far ≤ p
  rotate_left
  · have dx : decide (p < far) = true := by simp; omega
    have E := Lib.hid (Mt.ver_no (l := l) (p := p) (n := n) (far := far) (by omega))
    clear h5
    go_enter Tryd.func37, Tryd.ntmps37
    go_wp2
    go_ret
    exact ⟨by rw [E.out]; rfl, Below.refl _ _⟩
  have dh5 : decide (p < far) = false := by simp; omega
  by_cases h6 : n ≤ (len : Int) - p
  rotate_left
  · have dx : decide ((len : Int) - p < n) = true := by simp; omega
    have E := Lib.hid (Mt.ver_no (l := l) (p := p) (n := n) (far := far) (by omega))
    clear h6
    go_enter Tryd.func37, Tryd.ntmps37
    go_wp2
    go_ret
    exact ⟨by rw [E.out]; rfl, Below.refl _ _⟩
  have dh6 : decide ((len : Int) - p < n) = false := by simp; omega
  have E := Lib.hid (Mt.ver_yes (l := l) (p := p) (n := n) (far := far) ⟨h1, h2, h3, h4, h5, by omega⟩)
  obtain ⟨q, rfl⟩ := Int.eq_ofNat_of_zero_le (show 0 ≤ p by omega)
  obtain ⟨m, rfl⟩ := Int.eq_ofNat_of_zero_le (show 0 ≤ n by omega)
  obtain ⟨f, rfl⟩ := Int.eq_ofNat_of_zero_le (show 0 ≤ far by omega)
  obtain ⟨g, hg⟩ : ∃ g : Nat, g + f = q := ⟨q - f, by omega⟩
  have E2 : Hid (Mt.ver l (q : Int) (m : Int) (f : Int) = Mt.same l g q m) := Lib.hid (by rw [E.out]; congr 1 <;> omega)
  have hq : q + m ≤ len := by omega
  have HG := Lib.hid hg
  have HS : Hid (Mt.same l g q m = true ↔ ∀ k, k < m → gb l (g + k) = gb l (q + k)) := Lib.hid (Mt.same_iff l g q m (by omega) (by omega))
  obtain ⟨b, off, rfl, _, _⟩ := HB.out.at' 0 (by omega)
  clear E hg
  go_enter Tryd.func37, Tryd.ntmps37
  go_wp2
  go_loopw [9] (fun i wr => ∃ k : Nat, k ≤ m ∧ i = .int .i64 k ∧ Hid ((∀ j, j < k → gb l (g + j) = gb l (q + j)) ∧ Below w.heap.size w wr)) (fun i _ => m - (intOf i).toNat)
  case atStart => exact ⟨0, by omega, rfl, Lib.hid ⟨fun j hj => absurd hj (by omega), Below.refl _ _⟩⟩
  case round =>
    obtain ⟨k, hk, rfl, HK⟩ := hrel
    by_cases hlt : k < m
    · obtain ⟨b', off', e1, _, c1⟩ := (HB.out.mono HK.out.2).at' (q + k) (by omega)
      simp only [Option.some.injEq, Addr.mk.injEq, and_true] at e1
      obtain ⟨rfl, rfl⟩ := e1
      obtain ⟨b', off', e1, _, c2⟩ := (HB.out.mono HK.out.2).at' (g + k) (by have := HG.out; omega)
      simp only [Option.some.injEq, Addr.mk.injEq, and_true] at e1
      obtain ⟨rfl, rfl⟩ := e1
      obtain ⟨x, hxe⟩ : ∃ x : Nat, x = q + k := ⟨_, rfl⟩
      obtain ⟨y, hye⟩ : ∃ y : Nat, y = g + k := ⟨_, rfl⟩
      have wr1 : IntKind.i64.wrap ((q : Int) + (k : Int)) = (x : Int) := by rw [IntWalk.i64_in _ ⟨by omega, by omega⟩]; omega
      have wr2 : IntKind.i64.wrap ((x : Int) - (f : Int)) = (y : Int) := by have := HG.out; rw [IntWalk.i64_in _ ⟨by omega, by omega⟩]; omega
      have i1 : (x : Int) < (len : Int) := by omega
      have i2 : (y : Int) < (len : Int) := by have := HG.out; omega
      have HX : Hid (gb l (g + k) = gb l (q + k) → ∀ j, j < k + 1 → gb l (g + j) = gb l (q + j)) := Lib.hid (fun h j hj => by
        by_cases hjk : j = k
        · subst hjk; exact h
        · exact HK.out.1 j (by omega))
      rw [← hxe, ← hye] at HX
      rw [← hxe] at c1
      rw [← hye] at c2
      have HXE := Lib.hid (And.intro hxe hye)
      clear hxe hye
      by_cases hx : gb l x = gb l y
      · have HXX := Lib.hid hx
        have dd : ((gb l x : Int) != (gb l y : Int)) = false := by rw [hx]; simp
        clear hx
        go_wp2_with fail
        go_quiet (fail)
        rename_i nq
        have HW : Hid (Below w.heap.size w (wr.drewN nq)) := Lib.hid (HK.out.2.trans ((dn_below wr nq).mono HK.out.2.size))
        go_wp2
        go_roundw
        case rel => exact ⟨k + 1, by omega, by go_num, Lib.hid ⟨HX.out HXX.out.symm, HW.out⟩⟩
        case measure => simp [intOf]; omega
      · have HXX := Lib.hid hx
        have dd : ((gb l x : Int) != (gb l y : Int)) = true := by simpa using fun e => hx (by omega)
        clear hx
        go_wp2_with fail
        go_quiet (fail)
        rename_i nq
        have HW : Hid (Below w.heap.size w (wr.drewN nq)) := Lib.hid (HK.out.2.trans ((dn_below wr nq).mono HK.out.2.size))
        have HN : Hid (Mt.same l g q m = false) := Lib.hid (by
          rw [← Bool.not_eq_true]
          intro h
          exact HXX.out (by have := HS.out.1 h k hlt; rw [HXE.out.1, HXE.out.2]; exact this.symm))
        go_wp2
        go_ret
        exact ⟨by rw [E2.out, HN.out]; rfl, HW.out⟩
    · go_wp2
      go_ret
      exact ⟨by rw [E2.out, HS.out.2 (fun j hj => HK.out.1 j (by omega))]; rfl, HK.out.2⟩

end Go.Proofs.YtedncnaeojomcaaDoor
