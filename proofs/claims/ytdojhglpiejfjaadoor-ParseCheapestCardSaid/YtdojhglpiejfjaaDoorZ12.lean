/- match.NewFinder: its contract, with enter's. The document's Match: its contract. The document's Match, by what is common. burnishref08.Nearest: its contract. What a finder tells of a place, and the document. match.NewFinder: its contract, wherever the text lies. parse.Greedy: its contract. Small words on slices of numbers. Rows of the call's own: their cells, what may be written, what is stored. -/
import Derived.Test.YtdojhglpiejfjaaDoorZ11
import Derived.Test.YtdojhglpiejfjaaDoorProg
import Derived.BigQuiet
import Derived.Deep.RegionHeld3
set_option linter.unusedSimpArgs false
set_option linter.unusedVariables false
section
namespace Go.Proofs.YtdojhglpiejfjaaDoor
open Go.RowKit Go.Maps

theorem enter_ok (a : Option Addr) (cap N : Nat) (l : List UInt8) (hN : N ≤ 1048576) (g mb bb base : Nat) (h1 : 0 < mb) (h2 : 0 < bb) (h3 : 0 < base) : EnterOk g mb bb a cap N l base :=
  fun w t n v R hen ht hn hv hb hR hvn hdb => enter_any t base v R hen ht hN hn hv hb hR hvn hdb ⟨h1, h2, h3⟩
theorem newFinder_any (a : Option Addr) (N cap : Nat) (l : List UInt8) (w : World) (h : Bs w a N cap l) (hN : N ≤ 1048576) (ha : ∀ ad, a = some ad → ad.block < w.heap.size) (hdb : Db w) (hdl : 0 < w.heap.size) :
    Calls Tryd.prog 23 #[.slice a N cap] w (NfdPost w N l) :=
  newFinder_yes a N cap l w h hN ha hdb hdl (enter_ok a cap N l hN)
end Go.Proofs.YtdojhglpiejfjaaDoor
end

section
namespace Go.Proofs.YtdojhglpiejfjaaDoor
open Go.RowKit

/-- As many bytes from one place on as are told are those from another place on. -/
def Mt.same (l : List UInt8) (i j n : Nat) : Bool := (l.drop i).take n == (l.drop j).take n
/-- Is there a match at a place, of a length and a distance? -/
def Mt.ver (l : List UInt8) (p n far : Int) : Bool :=
  decide (3 ≤ n ∧ n ≤ 258 ∧ 1 ≤ far ∧ far ≤ 32768 ∧ far ≤ p ∧ p + n ≤ l.length) && Mt.same l (p - far).toNat p.toNat n.toNat
theorem Mt.ver_no {l : List UInt8} {p n far : Int} (h : ¬ (3 ≤ n ∧ n ≤ 258 ∧ 1 ≤ far ∧ far ≤ 32768 ∧ far ≤ p ∧ p + n ≤ l.length)) : Mt.ver l p n far = false := by
  unfold Mt.ver; rw [decide_eq_false h]; rfl
theorem Mt.ver_yes {l : List UInt8} {p n far : Int} (h : 3 ≤ n ∧ n ≤ 258 ∧ 1 ≤ far ∧ far ≤ 32768 ∧ far ≤ p ∧ p + n ≤ l.length) : Mt.ver l p n far = Mt.same l (p - far).toNat p.toNat n.toNat := by
  unfold Mt.ver; rw [decide_eq_true h]; rfl
theorem Mt.same_zero (l : List UInt8) (i j : Nat) : Mt.same l i j 0 = true := by simp [Mt.same]
theorem gb_drop (l : List UInt8) (i : Nat) (h : i < l.length) : l.drop i = l.getD i 0 :: l.drop (i + 1) := by
  rw [List.drop_eq_getElem_cons h]; simp [List.getD, List.getElem?_eq_getElem h]
theorem gb_inj {l m : List UInt8} {i j : Nat} : gb l i = gb m j ↔ l.getD i 0 = m.getD j 0 := by
  unfold gb; exact UInt8.toNat_inj
theorem Mt.same_iff (l : List UInt8) (i j n : Nat) (hi : i + n ≤ l.length) (hj : j + n ≤ l.length) : Mt.same l i j n = true ↔ ∀ k, k < n → gb l (i + k) = gb l (j + k) := by
  unfold Mt.same
  rw [beq_iff_eq]
  constructor
  · intro h k hk
    have e : ((l.drop i).take n)[k]? = ((l.drop j).take n)[k]? := by rw [h]
    rw [List.getElem?_take, List.getElem?_take, if_pos hk, if_pos hk, List.getElem?_drop, List.getElem?_drop] at e
    unfold gb
    rw [List.getD, List.getD, e]
  · intro h
    apply List.ext_getElem?
    intro k
    rw [List.getElem?_take, List.getElem?_take]
    by_cases hk : k < n
    · rw [if_pos hk, if_pos hk, List.getElem?_drop, List.getElem?_drop]
      have := gb_inj.1 (h k hk)
      rw [List.getD, List.getD, List.getElem?_eq_getElem (by omega), List.getElem?_eq_getElem (by omega)] at this
      rw [List.getElem?_eq_getElem (by omega), List.getElem?_eq_getElem (by omega)]
      exact congrArg some this
    · rw [if_neg hk, if_neg hk]
theorem Mt.same_cut (l : List UInt8) (i j n : Nat) : ((l.drop i).take n == (l.drop j).take n) = Mt.same l i j n := rfl
set_option maxRecDepth 100000 in
set_option maxHeartbeats 4000000 in
theorem refMatch_any (a : Option Addr) (len cap : Nat) (l : List UInt8) (p n far : Int) (w : World) (h : Bs w a len cap l) (hp : (Lit.int .i64 p).wf = true) (hn : (Lit.int .i64 n).wf = true) (hf : (Lit.int .i64 far).wf = true) :
    Calls Tryd.prog 44 #[.slice a len cap, .int .i64 p, .int .i64 n, .int .i64 far] w fun e w' => e = .returned (.bool (Mt.ver l p n far)) ∧ Below w.heap.size w w' := by
  have hcap := h.hcap
  have hle := h.hle
  have hlen := h.hlen
  have HB := Lib.hid h
  clear h hp hn hf
  by_cases h1 : 3 ≤ n
  rotate_left
  · have dx : decide (n < 3) = true := by simp; omega
    have E := Lib.hid (Mt.ver_no (l := l) (p := p) (n := n) (far := far) (by omega))
    clear h1
    go_enter Tryd.func44, Tryd.ntmps44
    go_wp2
    go_ret
    exact ⟨by rw [E.out]; rfl, Below.refl _ _⟩
  have dh1 : decide (n < 3) = false := by simp; omega
  by_cases h2 : n ≤ 258
  rotate_left
  · have dx : decide (258 < n) = true := by simp; omega
    have E := Lib.hid (Mt.ver_no (l := l) (p := p) (n := n) (far := far) (by omega))
    clear h2
    go_enter Tryd.func44, Tryd.ntmps44
    go_wp2
    go_ret
    exact ⟨by rw [E.out]; rfl, Below.refl _ _⟩
  have dh2 : decide (258 < n) = false := by simp; omega
  by_cases h3 : 1 ≤ far
  rotate_left
  · have dx : decide (far < 1) = true := by simp; omega
    have E := Lib.hid (Mt.ver_no (l := l) (p := p) (n := n) (far := far) (by omega))
    clear h3
    go_enter Tryd.func44, Tryd.ntmps44
    go_wp2
    go_ret
    exact ⟨by rw [E.out]; rfl, Below.refl _ _⟩
  have dh3 : decide (far < 1) = false := by simp; omega
  by_cases h4 : far ≤ 32768
  rotate_left
  · have dx : decide (32768 < far) = true := by simp; omega
    have E := Lib.hid (Mt.ver_no (l := l) (p := p) (n := n) (far := far) (by omega))
    clear h4
    go_enter Tryd.func44, Tryd.ntmps44
    go_wp2
    go_ret
    exact ⟨by rw [E.out]; rfl, Below.refl _ _⟩
  have dh4 : decide (32768 < far) = false := by simp; omega
  by_cases h0 : 0 ≤ p
  rotate_left
  · have dx : decide (p < 0) = true := by simp; omega
    have E := Lib.hid (Mt.ver_no (l := l) (p := p) (n := n) (far := far) (by omega))
    clear h0
    go_enter Tryd.func44, Tryd.ntmps44
    go_wp2
    go_ret
    exact ⟨by rw [E.out]; rfl, Below.refl _ _⟩
  have dh0 : decide (p < 0) = false := by simp; omega
  by_cases h7 : p ≤ (len : Int)
  rotate_left
  · have dx : decide ((len : Int) < p) = true := by simp; omega
    have E := Lib.hid (Mt.ver_no (l := l) (p := p) (n := n) (far := far) (by omega))
    clear h7
    go_enter Tryd.func44, Tryd.ntmps44
    go_wp2
    go_ret
    exact ⟨by rw [E.out]; rfl, Below.refl _ _⟩
  have dh7 : decide ((len : Int) < p) = false := by simp; omega
  by_cases h5 : far ≤ p
  rotate_left
  · have dx : decide (p < far) = true := by simp; omega
    have E := Lib.hid (Mt.ver_no (l := l) (p := p) (n := n) (far := far) (by omega))
    clear h5
    go_enter Tryd.func44, Tryd.ntmps44
    go_wp2
    go_ret
    exact ⟨by rw [E.out]; rfl, Below.refl _ _⟩
  have dh5 : decide (p < far) = false := by simp; omega
  by_cases h6 : n ≤ (len : Int) - p
  rotate_left
  · have dx : decide ((len : Int) - p < n) = true := by simp; omega
    have E := Lib.hid (Mt.ver_no (l := l) (p := p) (n := n) (far := far) (by omega))
    clear h6
    go_enter Tryd.func44, Tryd.ntmps44
    go_wp2
    go_ret
    exact ⟨by rw [E.out]; rfl, Below.refl _ _⟩
  have dh6 : decide ((len : Int) - p < n) = false := by simp; omega
  have E := Lib.hid (Mt.ver_yes (l := l) (p := p) (n := n) (far := far) ⟨h1, h2, h3, h4, h5, by omega⟩)
  obtain ⟨q, rfl⟩ := Int.eq_ofNat_of_zero_le (show 0 ≤ p by omega)
  obtain ⟨m, rfl⟩ := Int.eq_ofNat_of_zero_le (show 0 ≤ n by omega)
  obtain ⟨f, rfl⟩ := Int.eq_ofNat_of_zero_le (show 0 ≤ far by omega)
  obtain ⟨g, hg⟩ : ∃ g : Nat, g + f = q := ⟨q - f, by omega⟩
  have E2 : Hid (Mt.ver l (q : Int) (m : Int) (f : Int) = Mt.same l g q m) := Lib.hid (by rw [E.out]; congr 1 <;> omega)
  have hq : q + m ≤ len := by omega
  have HG := Lib.hid hg
  have HS : Hid (Mt.same l g q m = true ↔ ∀ k, k < m → gb l (g + k) = gb l (q + k)) := Lib.hid (Mt.same_iff l g q m (by omega) (by omega))
  obtain ⟨b, off, rfl, _, _⟩ := HB.out.at' 0 (by omega)
  clear E hg
  go_enter Tryd.func44, Tryd.ntmps44
  go_wp2
  go_loopw [9] (fun i wr => ∃ k : Nat, k ≤ m ∧ i = .int .i64 k ∧ Hid ((∀ j, j < k → gb l (g + j) = gb l (q + j)) ∧ Below w.heap.size w wr)) (fun i _ => m - (intOf i).toNat)
  case atStart => exact ⟨0, by omega, rfl, Lib.hid ⟨fun j hj => absurd hj (by omega), Below.refl _ _⟩⟩
  case round =>
    obtain ⟨k, hk, rfl, HK⟩ := hrel
    by_cases hlt : k < m
    · obtain ⟨b', off', e1, _, c1⟩ := (HB.out.mono HK.out.2).at' (q + k) (by omega)
      simp only [Option.some.injEq, Addr.mk.injEq, and_true] at e1
      obtain ⟨rfl, rfl⟩ := e1
      obtain ⟨b', off', e1, _, c2⟩ := (HB.out.mono HK.out.2).at' (g + k) (by have := HG.out; omega)
      simp only [Option.some.injEq, Addr.mk.injEq, and_true] at e1
      obtain ⟨rfl, rfl⟩ := e1
      obtain ⟨x, hxe⟩ : ∃ x : Nat, x = q + k := ⟨_, rfl⟩
      obtain ⟨y, hye⟩ : ∃ y : Nat, y = g + k := ⟨_, rfl⟩
      have wr1 : IntKind.i64.wrap ((q : Int) + (k : Int)) = (x : Int) := by rw [IntWalk.i64_in _ ⟨by omega, by omega⟩]; omega
      have wr2 : IntKind.i64.wrap ((x : Int) - (f : Int)) = (y : Int) := by have := HG.out; rw [IntWalk.i64_in _ ⟨by omega, by omega⟩]; omega
      have i1 : (x : Int) < (len : Int) := by omega
      have i2 : (y : Int) < (len : Int) := by have := HG.out; omega
      have HX : Hid (gb l (g + k) = gb l (q + k) → ∀ j, j < k + 1 → gb l (g + j) = gb l (q + j)) := Lib.hid (fun h j hj => by
        by_cases hjk : j = k
        · subst hjk; exact h
        · exact HK.out.1 j (by omega))
      rw [← hxe, ← hye] at HX
      rw [← hxe] at c1
      rw [← hye] at c2
      have HXE := Lib.hid (And.intro hxe hye)
      clear hxe hye
      by_cases hx : gb l x = gb l y
      · have HXX := Lib.hid hx
        have dd : ((gb l x : Int) != (gb l y : Int)) = false := by rw [hx]; simp
        clear hx
        go_wp2_with fail
        go_quiet (fail)
        rename_i nq
        have HW : Hid (Below w.heap.size w (wr.drewN nq)) := Lib.hid (HK.out.2.trans ((dn_below wr nq).mono HK.out.2.size))
        go_wp2
        go_roundw
        case rel => exact ⟨k + 1, by omega, by go_num, Lib.hid ⟨HX.out HXX.out.symm, HW.out⟩⟩
        case measure => simp [intOf]; omega
      · have HXX := Lib.hid hx
        have dd : ((gb l x : Int) != (gb l y : Int)) = true := by simpa using fun e => hx (by omega)
        clear hx
        go_wp2_with fail
        go_quiet (fail)
        rename_i nq
        have HW : Hid (Below w.heap.size w (wr.drewN nq)) := Lib.hid (HK.out.2.trans ((dn_below wr nq).mono HK.out.2.size))
        have HN : Hid (Mt.same l g q m = false) := Lib.hid (by
          rw [← Bool.not_eq_true]
          intro h
          exact HXX.out (by have := HS.out.1 h k hlt; rw [HXE.out.1, HXE.out.2]; exact this.symm))
        go_wp2
        go_ret
        exact ⟨by rw [E2.out, HN.out]; rfl, HW.out⟩
    · go_wp2
      go_ret
      exact ⟨by rw [E2.out, HS.out.2 (fun j hj => HK.out.1 j (by omega))]; rfl, HK.out.2⟩

end Go.Proofs.YtdojhglpiejfjaaDoor
end

section
namespace Go.Proofs.YtdojhglpiejfjaaDoor
open Go.RowKit

theorem same_cp (l : List UInt8) (x y n m : Nat) (hx : x + n ≤ l.length) (hy : y + n ≤ l.length) (hm : n ≤ m) : Mt.same l x y n = true ↔ n ≤ Lz.cp (gb l) x y m := by
  rw [Mt.same_iff l x y n hx hy]
  exact ⟨fun h => Lz.cp_ge hm (fun i hi => h i hi), fun h k hk => Lz.cp_eq (gb l) m x y k (by omega)⟩
theorem ver_mat (l : List UInt8) (t n far : Nat) (h3 : 3 ≤ n) : Mt.ver l (t : Int) (n : Int) (far : Int) = true ↔ Lz.Mat (gb l) l.length t n far := by
  unfold Mt.ver Lz.Mat
  rw [Bool.and_eq_true, decide_eq_true_iff]
  have e1 : ((t : Int) - (far : Int)).toNat = t - far := by omega
  rw [e1, Int.toNat_natCast, Int.toNat_natCast]
  constructor
  · rintro ⟨⟨_, h2, h4, h5, h6, h7⟩, hs⟩
    refine ⟨by omega, by omega, by omega, ?_⟩
    exact (same_cp l (t - far) t n _ (by omega) (by omega) (by unfold Lz.L; omega)).1 hs
  · rintro ⟨h1, h2, h4, h5⟩
    have hL : n ≤ Lz.L l.length t := Nat.le_trans h5 (Lz.cp_le _ _ _ _)
    have hL2 : n ≤ 258 ∧ t + n ≤ l.length := by unfold Lz.L at hL; omega
    exact ⟨⟨by omega, by omega, by omega, by omega, by omega, by omega⟩, (same_cp l (t - far) t n _ (by omega) (by omega) hL).2 h5⟩
end Go.Proofs.YtdojhglpiejfjaaDoor
end

section
namespace Go.Proofs.YtdojhglpiejfjaaDoor
open Go.RowKit

instance matDec (b : Nat → Nat) (N t n f : Nat) : Decidable (Lz.Mat b N t n f) := by unfold Lz.Mat; infer_instance
/-- The document's list, as numbers. -/
def wantI (R : List (Nat × Nat)) : List Int := (Lz.want R).map fun n : Nat => (n : Int)
theorem wantI_length (R : List (Nat × Nat)) : (wantI R).length = Lz.top R - 2 := by simp [wantI, Lz.want_length]
theorem wantI_getD (R : List (Nat × Nat)) (i : Nat) (h : i < Lz.top R - 2) : (wantI R).getD i 0 = ((Lz.far R (3 + i) : Nat) : Int) := by
  simp [wantI, List.getD, Lz.want_get R i h]
theorem wantI_take (R : List (Nat × Nat)) (i : Nat) (h : i < Lz.top R - 2) : (wantI R).take (i + 1) = (wantI R).take i ++ [((Lz.far R (3 + i) : Nat) : Int)] := by
  have h' : i < (wantI R).length := by rw [wantI_length]; exact h
  rw [List.take_succ_eq_append_getElem h']
  have := wantI_getD R i h
  rw [List.getD, List.getElem?_eq_getElem h'] at this
  simp at this
  rw [this]
/-- Whose records a place's are, none beyond the text. -/
def RecAt (l : List UInt8) (N : Nat) (p : Int) (R : List (Nat × Nat)) : Prop := ((p < 0 ∨ (N : Int) ≤ p) ∧ R = []) ∨ ∃ t : Nat, p = (t : Int) ∧ t < N ∧ Lz.Rec (gb l) N t R
def RNPost (w : World) (R : List (Nat × Nat)) (e : Ending) (w' : World) : Prop := ∃ v, e = .returned v ∧ w'.ownsRow w.heap.size 3 1 v (Lz.top R - 2) (ivs (wantI R)) ∧ Below w.heap.size w w'
set_option maxRecDepth 100000 in
set_option maxHeartbeats 4000000 in
theorem refNear_any (a : Option Addr) (N cap : Nat) (l : List UInt8) (p : Int) (R : List (Nat × Nat)) (w : World) (h : Bs w a N cap l) (hp : (Lit.int .i64 p).wf = true) (hN : N ≤ 1048576) (hR : RecAt l N p R) :
    Calls Tryd.prog 28 #[.slice a N cap, .int .i64 p] w (RNPost w R) := by
  rcases hR with ⟨ho, rfl⟩ | ⟨t, rfl, ht, hrec⟩
  · by_cases h0 : p < 0
    · have d0 : decide (p < 0) = true := by simp; omega
      clear h hp ho
      go_enter Tryd.func28, Tryd.ntmps28
      go_wp2
      go_ret
      exact ⟨_, rfl, by exact World.ownsRow_nil _ _ _ _, Below.refl _ _⟩
    · have d0 : decide (p < 0) = false := by simp; omega
      have d1 : decide ((N : Int) ≤ p) = true := by simp; omega
      clear h hp ho
      go_enter Tryd.func28, Tryd.ntmps28
      go_wp2
      go_ret
      exact ⟨_, rfl, by exact World.ownsRow_nil _ _ _ _, Below.refl _ _⟩
  have hlN := h.hlen
  have HM : Hid (∀ w' (n g : Nat), Below w.heap.size w w' → 3 ≤ n → n ≤ 300 → g ≤ 100000 → Calls Tryd.prog 44 #[.slice a N cap, .int .i64 (t : Nat), .int .i64 (n : Nat), .int .i64 (g : Nat)] w' fun e w'' => e = .returned (.bool (decide (Lz.Mat (gb l) N t n g))) ∧ Below w'.heap.size w' w'') := Lib.hid (fun w' n g hb h3 hn hg => by
    have hwn : (Lit.int .i64 (n : Nat)).wf = true := by simp only [Lit.wf, IntKind.min, IntKind.max, IntKind.signed, IntKind.bits, Bool.and_eq_true, decide_eq_true_eq, if_true]; simp; omega
    have hwg : (Lit.int .i64 (g : Nat)).wf = true := by simp only [Lit.wf, IntKind.min, IntKind.max, IntKind.signed, IntKind.bits, Bool.and_eq_true, decide_eq_true_eq, if_true]; simp; omega
    have := refMatch_any a N cap l t n g w' (h.mono hb) hp hwn hwg
    have e : Mt.ver l t n g = decide (Lz.Mat (gb l) N t n g) := by
      have := ver_mat l t n g h3
      rw [hlN] at this
      by_cases hm : Lz.Mat (gb l) N t n g
      · rw [decide_eq_true hm]; exact this.2 hm
      · rw [decide_eq_false hm]; cases hv : Mt.ver l t n g
        · rfl
        · exact absurd (this.1 hv) hm
    rw [e] at this
    exact this)
  have HREC := Lib.hid hrec
  have htop := Lz.top_le hrec
  have htop2 := Lz.top_ge hrec
  have d0 : decide ((t : Int) < 0) = false := by simp
  have d1 : decide (N ≤ t) = false := by simp; omega
  clear h hp hrec hlN
  go_enter Tryd.func28, Tryd.ntmps28
  go_wp2
  go_loopw [5, 6] (fun v i wr => ∃ k : Nat, k ≤ Lz.top R - 2 ∧ i = .int .i64 ((3 + k : Nat) : Int) ∧ Hid (wr.ownsRow w.heap.size 3 1 v k (ivs ((wantI R).take k)) ∧ Below w.heap.size w wr)) (fun _ i _ => 300 - (intOf i).toNat)
  case atStart => exact ⟨0, by omega, rfl, Lib.hid ⟨by rw [List.take_zero]; exact World.ownsRow_nil _ _ _ _, Below.refl _ _⟩⟩
  case round =>
    obtain ⟨k, hk, rfl, HO⟩ := hrel
    obtain ⟨n, hn⟩ : ∃ n, 3 + k = n := ⟨_, rfl⟩
    have HNK := Lib.hid hn
    have hn3 : 3 ≤ n ∧ n ≤ 259 := by omega
    rw [hn]
    by_cases hk2 : n ≤ 258
    · have d2 : decide ((n : Int) ≤ 258) = true := by simp; omega
      clear hn
      go_wp2
      go_loopw [7, 8] (fun fd f wx => ∃ g : Nat, 1 ≤ g ∧ g ≤ t + 1 ∧ g ≤ 32769 ∧ f = .int .i64 ((g : Nat) : Int) ∧ ((fd = .int .i64 0 ∧ Hid (∀ q, q < g → ¬ Lz.Mat (gb l) N t n q)) ∨ (fd = .int .i64 ((Lz.far R n : Nat) : Int) ∧ 1 ≤ Lz.far R n ∧ n ≤ Lz.top R)) ∧ Hid (wx.ownsRow w.heap.size 3 1 u5 k (ivs ((wantI R).take k)) ∧ Below w.heap.size w wx)) (fun _ f _ => t + 2 - (intOf f).toNat)
      case atStart => exact ⟨1, by omega, by omega, by omega, rfl, .inl ⟨rfl, Lib.hid (fun q hq hm => by have := hm.1; omega)⟩, HO⟩
      case round =>
        clear HO
        obtain ⟨g, g1, g2, g3, rfl, hfd, HO⟩ := hrel
        rcases hfd with ⟨rfl, HNO⟩ | ⟨rfl, f1, f2⟩
        · by_cases ha : g ≤ t ∧ g ≤ 32768
          · have d3 : decide (g ≤ t) = true := by simp; omega
            have d4 : decide ((g : Int) ≤ 32768) = true := by simp; omega
            have HMM := Lib.hid (HM.out wr n g HO.out.2 hn3.1 (by omega) (by omega))
            go_wp2_with fail
            refine HMM.out.mono ?_
            rintro e w4 ⟨rfl, hb4⟩
            have HO4 : Hid (w4.ownsRow w.heap.size 3 1 u5 k (ivs ((wantI R).take k)) ∧ Below w.heap.size w w4) := Lib.hid ⟨own_below HO.out.1 hb4, HO.out.2.trans (hb4.mono HO.out.2.size)⟩
            by_cases hm : Lz.Mat (gb l) N t n g
            · rw [decide_eq_true hm]
              obtain ⟨hnt, hfg⟩ := Lz.mat_top HREC.out hn3.1 hm
              have hfar : Lz.far R n = g := by
                rcases Nat.lt_or_ge (Lz.far R n) g with hl | hl
                · exact absurd (Lz.far_some HREC.out hn3.1 hnt).1 (HNO.out _ hl)
                · omega
              have HF := Lib.hid hfar
              clear hm hfg hfar HMM
              go_wp2
              go_roundw
              case rel => exact ⟨g + 1, by omega, by omega, by omega, by go_num, .inr ⟨by rw [HF.out], by rw [HF.out]; exact g1, hnt⟩, HO4⟩
              case measure => simp [intOf]; omega
            · rw [decide_eq_false hm]
              have HNO2 : Hid (∀ q, q < g + 1 → ¬ Lz.Mat (gb l) N t n q) := Lib.hid (fun q hq => by
                rcases Nat.lt_or_ge q g with hl | hl
                · exact HNO.out q hl
                · obtain rfl : q = g := by omega
                  exact hm)
              clear hm HMM
              go_wp2
              go_roundw
              case rel => exact ⟨g + 1, by omega, by omega, by omega, by go_num, .inl ⟨rfl, HNO2⟩, HO4⟩
              case measure => simp [intOf]; omega
          · have hall : ∀ q, ¬ Lz.Mat (gb l) N t n q := fun q hm => HNO.out q (by have h1 := hm.2.1; have h2 := hm.2.2.1; omega) hm
            have hnt : Lz.top R < n := by
              rcases Nat.lt_or_ge (Lz.top R) n with h' | h'
              · exact h'
              · exact absurd (Lz.far_some HREC.out hn3.1 h').1 (hall _)
            have HKT : Hid (k = Lz.top R - 2) := Lib.hid (by have := HNK.out; omega)
            have HEND : Hid (RNPost w R (.returned u5) wr) := Lib.hid ⟨_, rfl, by have := HO.out.1; rw [HKT.out, List.take_of_length_le (by rw [wantI_length]; exact Nat.le_refl _)] at this; exact this, HO.out.2⟩
            clear hall hnt
            by_cases ha1 : g ≤ t
            · have d3 : decide (g ≤ t) = true := by simp; omega
              have d4 : decide ((g : Int) ≤ 32768) = false := by simp; omega
              clear ha
              go_wp2
              go_ret
              exact HEND.out
            · have d3 : decide (g ≤ t) = false := by simp; omega
              clear ha
              go_wp2
              go_ret
              exact HEND.out
        · have d5 : (((Lz.far R n : Nat) : Int) == 0) = false := by simp; omega
          have HTK : Hid ((wantI R).take (k + 1) = (wantI R).take k ++ [((Lz.far R n : Nat) : Int)]) := Lib.hid (by have := wantI_take R k (by have := HNK.out; omega); rw [HNK.out] at this; exact this)
          have hkk : k + 1 ≤ Lz.top R - 2 := by have := HNK.out; omega
          generalize Lz.far R n = fr at *
          obtain ⟨av, cv, hv⟩ : ∃ av cv, u5 = .slice av k cv := by
            rcases own_nil_or HO.out.1 with ⟨h1, h2⟩ | ⟨g', cap', h1, _⟩
            · exact ⟨none, 0, by rw [h1, h2]⟩
            · exact ⟨_, _, h1⟩
          rw [hv] at HO
          subst hv
          rcases (show (g ≤ t ∧ g ≤ 32768) ∨ (g ≤ t ∧ ¬ g ≤ 32768) ∨ ¬ g ≤ t by omega) with ⟨ha1, ha2⟩ | ⟨ha1, ha2⟩ | ha1
          · have d3 : decide (g ≤ t) = true := by simp; omega
            have d4 : decide ((g : Int) ≤ 32768) = true := by simp; omega
            go_wp2_with (at_builtin; refine wpl_append tyI rfl _ _ rfl (own_below HO.out.1 (below_alloc wr _)) (src_int wr (fr : Nat)) rfl rfl (by omega) (by omega) (by simp; have := HO.out.2.size; omega) ?_)
            intro v' w5 own5 g5 _
            have hb5 : Below w.heap.size w w5 := (HO.out.2.alloc HO.out.2.size _).grown g5 (by simp; have := HO.out.2.size; omega) (fun g hg => (HO.out.1.lt g hg).1)
            rw [← ivs_append, ← HTK.out] at own5
            have HO5 := Lib.hid (And.intro own5 hb5)
            clear own5 hb5 g5 HO
            go_wp2
            go_roundw
            case rel => exact ⟨k + 1, hkk, congrArg (Value.int .i64) (by have := HNK.out; omega), HO5⟩
            case measure => simp [intOf]; have := HNK.out; omega
          · have d3 : decide (g ≤ t) = true := by simp; omega
            have d4 : decide ((g : Int) ≤ 32768) = false := by simp; omega
            go_wp2_with (at_builtin; refine wpl_append tyI rfl _ _ rfl (own_below HO.out.1 (below_alloc wr _)) (src_int wr (fr : Nat)) rfl rfl (by omega) (by omega) (by simp; have := HO.out.2.size; omega) ?_)
            intro v' w5 own5 g5 _
            have hb5 : Below w.heap.size w w5 := (HO.out.2.alloc HO.out.2.size _).grown g5 (by simp; have := HO.out.2.size; omega) (fun g hg => (HO.out.1.lt g hg).1)
            rw [← ivs_append, ← HTK.out] at own5
            have HO5 := Lib.hid (And.intro own5 hb5)
            clear own5 hb5 g5 HO
            go_wp2
            go_roundw
            case rel => exact ⟨k + 1, hkk, congrArg (Value.int .i64) (by have := HNK.out; omega), HO5⟩
            case measure => simp [intOf]; have := HNK.out; omega
          · have d3 : decide (g ≤ t) = false := by simp; omega
            go_wp2_with (at_builtin; refine wpl_append tyI rfl _ _ rfl (own_below HO.out.1 (below_alloc wr _)) (src_int wr (fr : Nat)) rfl rfl (by omega) (by omega) (by simp; have := HO.out.2.size; omega) ?_)
            intro v' w5 own5 g5 _
            have hb5 : Below w.heap.size w w5 := (HO.out.2.alloc HO.out.2.size _).grown g5 (by simp; have := HO.out.2.size; omega) (fun g hg => (HO.out.1.lt g hg).1)
            rw [← ivs_append, ← HTK.out] at own5
            have HO5 := Lib.hid (And.intro own5 hb5)
            clear own5 hb5 g5 HO
            go_wp2
            go_roundw
            case rel => exact ⟨k + 1, hkk, congrArg (Value.int .i64) (by have := HNK.out; omega), HO5⟩
            case measure => simp [intOf]; have := HNK.out; omega
    · have hkt : k = Lz.top R - 2 := by omega
      have d2 : decide ((n : Int) ≤ 258) = false := by simp; omega
      clear hn
      go_wp2
      go_ret
      exact ⟨_, rfl, by have := HO.out.1; rw [hkt, List.take_of_length_le (by rw [wantI_length]; exact Nat.le_refl _)] at this; exact this, HO.out.2⟩
end Go.Proofs.YtdojhglpiejfjaaDoor
end

section
namespace Go.Proofs.YtdojhglpiejfjaaDoor
open Go.RowKit Go.Maps

/-- Where the longest match is, and that there is none. -/
theorem longest_of {l : List UInt8} {N : Nat} {p : Int} {R : List (Nat × Nat)} (h : RecAt l N p R) : (Lz.top R - 2 = 0 ∧ lastT R = (0, 0)) ∨ (0 < Lz.top R - 2 ∧ lastT R = (2 + (Lz.top R - 2), ((wantI R).getD (Lz.top R - 2 - 1) 0).toNat) ∧ (wantI R).getD (Lz.top R - 2 - 1) 0 = (((lastT R).2 : Nat) : Int)) := by
  rcases h with ⟨_, rfl⟩ | ⟨t, _, _, hrec⟩
  · exact .inl ⟨by rw [Lz.top_nil], lastT_nil⟩
  · have h2 := Lz.top_ge hrec
    by_cases h3 : Lz.top R = 2
    · have := (Lz.top_nil_iff hrec).2 h3
      subst this
      exact .inl ⟨by rw [h3], lastT_nil⟩
    · refine .inr ⟨by omega, ?_⟩
      have hw := wantI_getD R (Lz.top R - 2 - 1) (by omega)
      have e : 3 + (Lz.top R - 2 - 1) = Lz.top R := by omega
      rw [e] at hw
      rw [lastT_eq hrec (by omega), hw]
      exact ⟨by rw [Int.toNat_natCast]; congr 1; omega, rfl⟩
theorem recAt_of {l : List UInt8} {N : Nat} {Rs : List (List (Nat × Nat))} (h : Recs l N N Rs) (p : Int) : RecAt l N p (ra Rs p) := by
  by_cases hin : 0 ≤ p ∧ p < (N : Int)
  · obtain ⟨t, rfl⟩ : ∃ t : Nat, p = (t : Int) := ⟨p.toNat, by omega⟩
    exact .inr ⟨t, rfl, by omega, ra_rec h (by omega)⟩
  · exact .inl ⟨by omega, ra_out h (by omega)⟩
theorem recAt_top {l : List UInt8} {N : Nat} {p : Int} {R : List (Nat × Nat)} (h : RecAt l N p R) : Lz.top R - 2 ≤ 256 := by
  rcases h with ⟨_, rfl⟩ | ⟨t, _, _, hrec⟩
  · rw [Lz.top_nil]; omega
  · have := Lz.top_le hrec; omega
theorem wantI_wf {l : List UInt8} {N : Nat} {p : Int} {R : List (Nat × Nat)} (h : RecAt l N p R) : Wf (wantI R) := by
  intro n hn
  rcases h with ⟨_, rfl⟩ | ⟨t, _, _, hrec⟩
  · simp [wantI, Lz.want, Lz.top_nil] at hn
  · simp only [wantI, Lz.want, List.map_map, List.mem_map, List.mem_range, Function.comp] at hn
    obtain ⟨i, hi, rfl⟩ := hn
    have := (Lz.far_some hrec (by omega : 3 ≤ 3 + i) (by omega)).1.2.2.1
    simp only [Lit.wf, IntKind.min, IntKind.max, IntKind.signed, IntKind.bits, Bool.and_eq_true, decide_eq_true_eq, if_true]
    simp; omega
theorem fd_ch {w w' : World} {gf eb base N t gc : Nat} {l : List UInt8} {v : Value} {Rs : List (List (Nat × Nat))} (h : Fd w gf eb base N l t v Rs) (c : Ch w w' (fun k => k = gc)) (n1 : gf ≠ gc) (n2 : eb ≠ gc) (n3 : ∀ b, v.ownBlock = some b → b ≠ gc) : Fd w' gf eb base N l t v Rs := by
  obtain ⟨cs, h1, h2⟩ := h.ends
  exact ⟨(c.block gf (Array.getElem?_eq_some_iff.1 h.row).1 n1).trans h.row, c.own h.own n3, h.recs, ⟨cs, (c.block eb (Array.getElem?_eq_some_iff.1 h1).1 n2).trans h1, h2⟩, h.n1, h.n2⟩
end Go.Proofs.YtdojhglpiejfjaaDoor
end

section
namespace Go.Proofs.YtdojhglpiejfjaaDoor
open Go.RowKit Go.Maps

theorem newForest0 (a : Option Addr) (cap : Nat) (w : World) :
    Calls Tryd.prog 40 #[.slice a 0 cap] w fun e w' => ∃ g, e = .returned (.pointer (some ⟨g, 0, none⟩)) ∧ Below w.heap.size w w' := by
  have hmm := @run_makeMap Tryd.prog
  go_enter Tryd.func40, Tryd.ntmps40
  go_wp2_with (at_make; refine wpl_make_full tySide rfl _ _ rfl (w.heap.size + 1) .i64 .i64 _ _ 0 rfl rfl rfl rfl (by omega) (by omega) (by simp) ?_)
  intro w2 own2 g2
  have b2 : Below w.heap.size w w2 := (below_alloc w (.map #[] 0)).grown g2 (by simp) (by simp)
  have HB := Lib.hid b2
  clear own2 g2 b2 hmm
  go_wp2
  go_ret
  exact ⟨_, rfl, below_then HB.out (below_alloc w2 _)⟩
theorem newFinder0 (a : Option Addr) (cap : Nat) (w : World) : Calls Tryd.prog 23 #[.slice a 0 cap] w (NfdPost w 0 []) := by
  go_enter Tryd.func23, Tryd.ntmps23
  go_wp2_with (at_make; refine wpl_make_full tyEnds rfl _ _ rfl w.heap.size .i64 .i64 _ _ 0 rfl rfl rfl rfl (by omega) (by omega) (by omega) ?_)
  intro w1 own1 g1
  have b1 : Below w.heap.size w w1 := (Below.refl _ _).grown g1 (Nat.le_refl _) (by simp)
  have hz1 : w.heap.size < w1.heap.size := (own1.lt w.heap.size rfl).2
  have HB := Lib.hid (below_then b1 (below_alloc w1 (.cells #[.slice none 0 0, .slice (some ⟨w.heap.size, 0, none⟩) 0 0] 78)))
  have HROW := Lib.hid (heap_alloc_last w1 (.cells #[.slice none 0 0, .slice (some ⟨w.heap.size, 0, none⟩) 0 0] 78))
  have O1 := Lib.hid (own_below own1 (below_alloc w1 (.cells #[.slice none 0 0, .slice (some ⟨w.heap.size, 0, none⟩) 0 0] 78)))
  clear own1 g1 b1
  go_wp2_with fail
  refine (newForest0 a cap _).mono ?_
  rintro e w3 ⟨g, rfl, hb3⟩
  have HP : Hid (NfdPost w 0 [] (.returned (.tuple #[.pointer (some ⟨w1.heap.size, 0, none⟩), .nilIface])) w3) := Lib.hid (by
    refine ⟨w1.heap.size, w.heap.size, .slice none 0 0, [], rfl, ⟨(hb3.block _ (by simp)).trans HROW.out, World.ownsRow_nil _ _ _ _, ⟨rfl, fun i hi => absurd hi (by omega)⟩, ?_, by omega, fun b hb => by simp [Value.ownBlock] at hb⟩, by omega, Nat.le_refl _, below_then HB.out hb3⟩
    have o3 := own_below O1.out hb3
    rcases o3.2 with ⟨h', _⟩ | ⟨g', cap', cur, h', hb', hg', hnc, hm', hsz, _⟩
    · simp at h'
    · simp only [Value.slice.injEq, Option.some.injEq, Addr.mk.injEq, and_true, true_and] at h'
      obtain ⟨rfl, rfl⟩ := h'
      exact ⟨cur, hg', by omega, fun i hi => absurd hi (by omega)⟩)
  generalize w1.heap.size = gf at *
  clear hb3 HROW O1 HB
  go_wp2
  go_loopw [20] (fun i wr => i = .int .i64 0 ∧ w3 = wr) (fun _ _ => 0)
  case atStart => exact ⟨rfl, rfl⟩
  case round =>
    obtain ⟨rfl, rfl⟩ := hrel
    go_wp2
    go_ret2
    exact HP.out
theorem newFinder_all (a : Option Addr) (N cap : Nat) (l : List UInt8) (w : World) (h : Bs w a N cap l) (hN : N ≤ 1048576) (hdb : Db w) (hdl : 0 < w.heap.size) :
    Calls Tryd.prog 23 #[.slice a N cap] w (NfdPost w N l) := by
  by_cases h0 : 0 < N
  · refine newFinder_any a N cap l w h hN (fun ad e => ?_) hdb hdl
    obtain ⟨b, off, e2, hlt, _⟩ := h.at' 0 h0
    rw [e] at e2
    cases e2
    exact hlt
  · obtain rfl : N = 0 := by omega
    have : l = [] := List.eq_nil_of_length_eq_zero h.hlen
    subst this
    exact newFinder0 a cap w
end Go.Proofs.YtdojhglpiejfjaaDoor
end

section
namespace Go.Proofs.YtdojhglpiejfjaaDoor
open Go.RowKit Go.Shelf

/-- The greedy choice. -/
def Pz.gr (b : Nat → Nat) (R : Nat → List (Nat × Nat)) (p : Nat) : Tok := if 0 < (lastT (R p)).1 then (((lastT (R p)).1 : Int), ((lastT (R p)).2 : Int)) else (0, (b p : Int))
theorem Pz.txt_of {l : List UInt8} {N : Nat} {Rs : List (List (Nat × Nat))} (h : Recs l N N Rs) : Pz.Txt (gb l) N (fun p => ra Rs (p : Int)) :=
  ⟨fun p => gb_lt l p, fun p hp => ra_rec h hp⟩
theorem Pz.gr_cho {b : Nat → Nat} {N : Nat} {R : Nat → List (Nat × Nat)} (h : Pz.Txt b N R) {p : Nat} (hp : p < N) : Pz.Cho b R p (Pz.gr b R p) ∧ (Lz.top (R p) - 2 = 0 → Pz.gr b R p = (0, (b p : Int))) ∧
    (Lz.top (R p) - 2 ≠ 0 → Pz.gr b R p = ((Lz.top (R p) : Int), ((Lz.far (R p) (Lz.top (R p)) : Nat) : Int))) := by
  have hr := h.recs p hp
  have h2 := Lz.top_ge hr
  unfold Pz.gr
  by_cases h3 : 3 ≤ Lz.top (R p)
  · rw [lastT_eq hr h3]
    simp only
    rw [if_pos (by omega)]
    exact ⟨.inr ⟨_, h3, Nat.le_refl _, rfl⟩, fun e => by omega, fun _ => rfl⟩
  · have e := (Lz.top_nil_iff hr).2 (by omega)
    rw [e, lastT_nil, if_neg (by simp)]
    exact ⟨.inl rfl, fun _ => rfl, fun h => by rw [Lz.top_nil] at h; omega⟩
theorem greedy1_any (A B gf eb base N : Nat) (l : List UInt8) (v : Value) (Rs : List (List (Nat × Nat))) (a : Option Addr) (cap p : Nat) (w : World)
    (hA : Boxed w A 55 (.pointer (some ⟨gf, 0, none⟩))) (hB : Boxed w B 22 (.slice a N cap)) (hfd : Fd w gf eb base N l N v Rs) (hN : N ≤ 1048576) (ht : Bs w a N cap l) (hp : p < N) :
    Calls Tryd.prog 25 #[.int .i64 (p : Nat), .pointer (some ⟨A, 0, none⟩), .pointer (some ⟨B, 0, none⟩)] w fun e w' =>
      e = .returned (.agg #[.int .i64 (Pz.gr (gb l) (fun p => ra Rs (p : Int)) p).1, .int .i64 (Pz.gr (gb l) (fun p => ra Rs (p : Int)) p).2]) ∧ Below w.heap.size w w' := by
  have hb0 := below_alloc w (.cells #[.int .i64 0, .int .i64 0] 46)
  have hr0 : (w.alloc (.cells #[.int .i64 0, .int .i64 0] 46)).heap[w.heap.size]? = some (.cells #[.int .i64 0, .int .i64 0] 46 (0, 0)) := heap_alloc_last w _
  have cA := Boxed.cell ((hb0.block A hA.lt).trans hA)
  have HL := Lib.hid (longest_any (p : Int) (hfd.below hb0) hN)
  have HT := Lib.hid (ht.mono hb0)
  have HBX := Lib.hid ((hb0.block B hB.lt).trans hB)
  have HGR : Hid (Pz.gr (gb l) (fun p => ra Rs (p : Int)) p = if 0 < (lastT (ra Rs (p : Int))).1 then (((lastT (ra Rs (p : Int))).1 : Int), ((lastT (ra Rs (p : Int))).2 : Int)) else (0, (gb l p : Int))) := Lib.hid rfl
  clear hA hB hfd ht
  generalize Pz.gr (gb l) (fun p => ra Rs (p : Int)) p = G at *
  generalize lastT (ra Rs (p : Int)) = q at *
  obtain ⟨q1, q2⟩ := q
  simp only at HL HGR
  go_enter Tryd.func25, Tryd.ntmps25
  go_wp2_with fail
  refine HL.out.mono ?_
  rintro e w1 ⟨rfl, hb1⟩
  have hr1 := (hb1.block w.heap.size (by simp)).trans hr0
  have hlB : B < (w.alloc (.cells #[.int .i64 0, .int .i64 0] 46)).heap.size := (Array.getElem?_eq_some_iff.1 HBX.out).1
  have hbV := below_then hb1 (below_alloc w1 (.cells #[.int .i64 (q1 : Nat), .int .i64 (q2 : Nat)] 46))
  have hrV := (hbV.block w.heap.size (by simp)).trans hr0
  have HBV := Lib.hid (below_then hb0 hbV)
  have hBV := (hbV.block B hlB).trans HBX.out
  have HTV := Lib.hid (HT.out.mono hbV)
  have hqV : (w1.alloc (.cells #[.int .i64 (q1 : Nat), .int .i64 (q2 : Nat)] 46)).heap[w1.heap.size]? = some (.cells #[.int .i64 (q1 : Nat), .int .i64 (q2 : Nat)] 46 (0, 0)) := heap_alloc_last w1 _
  have f0 := frozen_of_row _ w.heap.size 0 _ _ hrV
  have f1 := frozen_of_row _ w.heap.size 1 _ _ hrV
  have c0 : (w1.alloc (.cells #[.int .i64 (q1 : Nat), .int .i64 (q2 : Nat)] 46)).cell? ⟨w.heap.size, 0, none⟩ = some (.int .i64 0) := by rw [cell_of_row _ _ _ _ _ (0, 0) hrV]; rfl
  have c1 : (w1.alloc (.cells #[.int .i64 (q1 : Nat), .int .i64 (q2 : Nat)] 46)).cell? ⟨w.heap.size, 1, none⟩ = some (.int .i64 0) := by rw [cell_of_row _ _ _ _ _ (0, 0) hrV]; rfl
  have e0 : (w1.alloc (.cells #[.int .i64 (q1 : Nat), .int .i64 (q2 : Nat)] 46)).cell? ⟨w1.heap.size, 0, none⟩ = some (.int .i64 (q1 : Nat)) := by rw [cell_of_row _ _ _ _ _ (0, 0) hqV]; rfl
  have e1 : (w1.alloc (.cells #[.int .i64 (q1 : Nat), .int .i64 (q2 : Nat)] 46)).cell? ⟨w1.heap.size, 1, none⟩ = some (.int .i64 (q2 : Nat)) := by rw [cell_of_row _ _ _ _ _ (0, 0) hqV]; rfl
  have hB0 : (w1.alloc (.cells #[.int .i64 (q1 : Nat), .int .i64 (q2 : Nat)] 46)).cell? ⟨B, 0, none⟩ = some (.slice a N cap) := by rw [cell_of_row _ _ _ _ _ (0, 0) hBV]; rfl
  have HZ : Hid (w.heap.size ≤ w.heap.size) := Lib.hid (Nat.le_refl _)
  have HRV := Lib.hid hrV
  clear hb1 hbV hBV hlB HT HBX hqV
  by_cases hq : 0 < q1
  · have hg : G = ((q1 : Int), (q2 : Int)) := by rw [HGR.out, if_pos hq]
    subst hg
    have d1 : decide (0 < q1) = true := decide_eq_true hq
    rw [d1]
    clear d1 HGR cA hB0
    go_wp2
    exact bodyPost_ret (res_tok _ rfl _ _ _ _ _ _ rfl (row_two' HRV.out _ _)) rfl ⟨rfl, (HBV.out.setCell (p := ⟨w.heap.size, 0, none⟩) (Nat.le_refl _) _).setCell (p := ⟨w.heap.size, 1, none⟩) (Nat.le_refl _) _⟩
  · have hg : G = (0, (gb l p : Int)) := by rw [HGR.out, if_neg hq]
    subst hg
    have d1 : decide (0 < q1) = false := decide_eq_false hq
    rw [d1]
    obtain ⟨b, off, rfl, hbl, t0⟩ := HTV.out.at' p hp
    have HGB : Hid (gb l p < 256) := Lib.hid (gb_lt l p)
    clear d1 HGR cA e0 e1 hbl
    obtain ⟨z, hz⟩ : ∃ z, gb l p = z := ⟨_, rfl⟩
    rw [hz] at t0 HGB
    have HZZ := Lib.hid hz
    clear hz
    have HL2 := Lib.hid (literal_any z (w1.alloc (.cells #[.int .i64 (q1 : Nat), .int .i64 (q2 : Nat)] 46)) HGB.out)
    go_wp2_with fail
    refine HL2.out.mono ?_
    rintro e w3 ⟨rfl, hb3⟩
    have hr3 := (hb3.block w.heap.size (by have := HBV.out.size; have := (Array.getElem?_eq_some_iff.1 HRV.out).1; omega)).trans HRV.out
    have HR3 := Lib.hid hr3
    have HB3 := Lib.hid (below_then HBV.out hb3)
    have f0 := frozen_of_row _ w.heap.size 0 _ _ hr3
    have f1 := frozen_of_row _ w.heap.size 1 _ _ hr3
    have c0 : w3.cell? ⟨w.heap.size, 0, none⟩ = some (.int .i64 0) := by rw [cell_of_row _ _ _ _ _ (0, 0) hr3]; rfl
    have c1 : w3.cell? ⟨w.heap.size, 1, none⟩ = some (.int .i64 0) := by rw [cell_of_row _ _ _ _ _ (0, 0) hr3]; rfl
    clear hb3 hr3 HL2 t0 hB0
    go_wp2
    exact bodyPost_ret (res_tok _ rfl _ _ _ _ _ _ rfl (row_two' HR3.out _ _)) rfl ⟨by rw [HZZ.out], (HB3.out.setCell (p := ⟨w.heap.size, 0, none⟩) (Nat.le_refl _) _).setCell (p := ⟨w.heap.size, 1, none⟩) (Nat.le_refl _) _⟩
def GreedyPost (w : World) (N : Nat) (l : List UInt8) (e : Ending) (w' : World) : Prop :=
  ∃ v K Rs, e = .returned (.tuple #[v, .nilIface]) ∧ Recs l N N Rs ∧ w'.ownsRow w.heap.size 46 2 v K (tks (Pz.toks (Pz.gr (gb l) (fun p => ra Rs (p : Int))) K)) ∧
    Pz.pos (Pz.gr (gb l) (fun p => ra Rs (p : Int))) K = N ∧ (∀ j, j < K → Pz.pos (Pz.gr (gb l) (fun p => ra Rs (p : Int))) j < N) ∧ Below w.heap.size w w'
theorem greedy_any (a : Option Addr) (N cap : Nat) (l : List UInt8) (w : World) (h : Bs w a N cap l) (hN : N ≤ 1048576) (hdb : Db w) (hdl : 0 < w.heap.size) :
    Calls Tryd.prog 8 #[.slice a N cap] w (GreedyPost w N l) := by
  have hb0 := below_alloc w (.cells #[.slice a N cap] 22)
  have hB0 : Boxed (w.alloc (.cells #[.slice a N cap] 22)) w.heap.size 22 (.slice a N cap) := Boxed.new w _ _
  have HNF := Lib.hid (newFinder_all a N cap l (w.alloc (.cells #[.slice a N cap] 22)) (h.mono hb0) hN (hdb.kept hb0 hdl) (Nat.lt_of_lt_of_le hdl hb0.size))
  have HT := Lib.hid (h.mono hb0)
  have HB0 := Lib.hid hb0
  have HX := Lib.hid hB0
  have cB := hB0.cell
  clear h hdb hdl hb0 hB0
  go_enter Tryd.func8, Tryd.ntmps8
  go_wp2_with fail
  refine HNF.out.mono ?_
  rintro e w1 ⟨gf, eb, v, Rs, rfl, hfd, _, _, hb1⟩
  have hb2 := below_alloc w1 (.cells #[.pointer (some ⟨gf, 0, none⟩)] 55)
  have hA : Boxed (w1.alloc (.cells #[.pointer (some ⟨gf, 0, none⟩)] 55)) w1.heap.size 55 (.pointer (some ⟨gf, 0, none⟩)) := Boxed.new w1 _ _
  have hB : Boxed (w1.alloc (.cells #[.pointer (some ⟨gf, 0, none⟩)] 55)) w.heap.size 22 (.slice a N cap) := ((below_then hb1 hb2).block _ HX.out.lt).trans HX.out
  have cB2 := hB.cell
  have HTX := Lib.hid (Pz.txt_of hfd.recs)
  have HRC := Lib.hid hfd.recs
  have HG : Hid (∀ w' p, Below (w1.alloc (.cells #[.pointer (some ⟨gf, 0, none⟩)] 55)).heap.size (w1.alloc (.cells #[.pointer (some ⟨gf, 0, none⟩)] 55)) w' → p < N → Calls Tryd.prog 25 #[.int .i64 (p : Nat), .pointer (some ⟨w1.heap.size, 0, none⟩), .pointer (some ⟨w.heap.size, 0, none⟩)] w' fun e w'' => e = .returned (.agg #[.int .i64 (Pz.gr (gb l) (fun p => ra Rs (p : Int)) p).1, .int .i64 (Pz.gr (gb l) (fun p => ra Rs (p : Int)) p).2]) ∧ Below w'.heap.size w' w'') :=
    Lib.hid (fun w' p hb hp => greedy1_any _ _ gf eb _ N l v Rs a cap p w' ((hb.block _ hA.lt).trans hA) ((hb.block _ hB.lt).trans hB) (hfd.below (below_then hb2 hb)) hN (HT.out.mono (below_then (below_then hb1 hb2) hb)) hp)
  have HB2 := Lib.hid (below_then HB0.out (below_then hb1 hb2))
  clear hfd hb1 hb2 hA hB cB HX HT HNF
  go_wp2_with fail
  refine (follow_greedy _ _ N _ _ hN HG.out (fun p hp => ⟨(Pz.Cho.fits HTX.out hp (Pz.gr_cho HTX.out hp).1).1, Pz.Cho.tok HTX.out hp (Pz.gr_cho HTX.out hp).1⟩)).mono ?_
  rintro e w3 ⟨v3, K, rfl, hown, hK, hJ, hb3⟩
  go_wp2
  go_ret2
  exact ⟨_, K, Rs, rfl, HRC.out, own_base hown (fun g hg => Nat.le_trans HB2.out.size (hown.lt g hg).1), hK, hJ, below_then HB2.out hb3⟩
end Go.Proofs.YtdojhglpiejfjaaDoor
end

section
namespace Go.Proofs.YtdojhglpiejfjaaDoor
open Go.RowKit

theorem Is.getW {k : IntKind} {w : World} {a : Option Addr} {len cap : Nat} {l : List Int} (h : Is k w a len cap l) (i : Nat) (hi : i < len) : (Lit.int k (l.getD i 0)).wf = true := by
  have hil : i < l.length := by rw [h.hlen]; exact hi
  exact h.wf _ (by simp [List.getD, List.getElem?_eq_getElem hil])
theorem ints_snoc (l : List Int) (k : Nat) (h : k < l.length) : l.take (k + 1) = l.take k ++ [l.getD k 0] := by
  rw [List.take_succ_eq_append_getElem h]; simp [List.getD, List.getElem?_eq_getElem h]
theorem own_set {w : World} {base n cap g : Nat} {l : List Int} (h : w.ownsRow base 3 1 (.slice (some ⟨g, 0, none⟩) n cap) n (ivs l)) (j : Nat) (z : Int) :
    (w.setCell ⟨g, j, none⟩ (.int .i64 z)).ownsRow base 3 1 (.slice (some ⟨g, 0, none⟩) n cap) n (ivs (l.set j z)) := by
  rw [← ivs_set]; exact (h.stored j _).1
end Go.Proofs.YtdojhglpiejfjaaDoor
end

section
namespace Go.Proofs.YtdojhglpiejfjaaDoor
open Go.RowKit

theorem og_fz {w : World} {base : Nat} {e : TypeId} {size n cap g : Nat} {xs : List Value} (h : w.ownsRow base e size (.slice (some ⟨g, 0, none⟩) n cap) n xs) (o : Nat) : w.frozen? ⟨g, o, none⟩ = false := by
  rcases h.2 with ⟨h', _⟩ | ⟨g', cap', cur, h', hb, hg, _⟩
  · simp at h'
  · simp only [Value.slice.injEq, Option.some.injEq, Addr.mk.injEq, and_true, true_and] at h'
    obtain ⟨rfl, rfl⟩ := h'
    exact frozen_of_row w g o _ _ hg
theorem og_ot {w : World} {base : Nat} {e : TypeId} {size : Nat} {v : Value} {n : Nat} {xs : List Value} {g j : Nat} {z : Value} (h : w.ownsRow base e size v n xs) (hv : ∀ b, v.ownBlock = some b → b ≠ g) : (w.setCell ⟨g, j, none⟩ z).ownsRow base e size v n xs :=
  ((Ch.refl w (fun k => k = g)).set (p := ⟨g, j, none⟩) (.inl rfl) z).own h hv
theorem og_int {w : World} {base n cap g : Nat} {l : List Int} (h : w.ownsRow base 3 1 (.slice (some ⟨g, 0, none⟩) n cap) n (ivs l)) (j : Nat) (hj : j < n) : w.cell? ⟨g, j, none⟩ = some (.int .i64 (l.getD j 0)) := by
  have hl : l.length = n := by have := h.1; rw [ivs_length] at this; omega
  rw [h.cellAt j (by omega), ivs_get l j (by omega)]
theorem og_len {w : World} {base n cap g : Nat} {l : List Int} (h : w.ownsRow base 3 1 (.slice (some ⟨g, 0, none⟩) n cap) n (ivs l)) : l.length = n := by have := h.1; rw [ivs_length] at this; omega
end Go.Proofs.YtdojhglpiejfjaaDoor
end
