/- burnishref08.Nearest: its contract. -/
import Derived.Test.YtedncnaeojomcaaDoorLzVer
import Derived.Test.YtedncnaeojomcaaDoorLzWant
import Derived.Test.YtedncnaeojomcaaDoorInts
namespace Go.Proofs.YtedncnaeojomcaaDoor
open Go.RowKit

instance matDec (b : Nat → Nat) (N t n f : Nat) : Decidable (Lz.Mat b N t n f) := by unfold Lz.Mat; infer_instance
/-- The document's list, as numbers. -/
def wantI (R : List (Nat × Nat)) : List Int := (Lz.want R).map fun n : Nat => (n : Int)
theorem wantI_length (R : List (Nat × Nat)) : (wantI R).length = Lz.top R - 2 := by simp [wantI, Lz.want_length]
theorem wantI_getD (R : List (Nat × Nat)) (i : Nat) (h : i < Lz.top R - 2) : (wantI R).getD i 0 = ((Lz.far R (3 + i) : Nat) : Int) := by
  simp [wantI, List.getD, Lz.want_get R i h]
theorem wantI_take (R : List (Nat × Nat)) (i : Nat) (h : i < Lz.top R - 2) : (wantI R).take (i + 1) = (wantI R).take i ++ [((Lz.far R (3 + i) : Nat) : Int)] := by
  have h' : i < (wantI R).length := by rw [wantI_length]; exact h
  rw [List.take_succ_eq_append_getElem h']
  have := wantI_getD R i h
  rw [List.getD, List.getElem?_eq_getElem h'] at this
  simp at this
  rw [this]
/-- Whose records a place's are, none beyond the text. -/
def RecAt (l : List UInt8) (N : Nat) (p : Int) (R : List (Nat × Nat)) : Prop := ((p < 0 ∨ (N : Int) ≤ p) ∧ R = []) ∨ ∃ t : Nat, p = (t : Int) ∧ t < N ∧ Lz.Rec (gb l) N t R
def RNPost (w : World) (R : List (Nat × Nat)) (e : Ending) (w' : World) : Prop := ∃ v, e = .returned v ∧ w'.ownsRow w.heap.size 3 1 v (Lz.top R - 2) (ivs (wantI R)) ∧ Below w.heap.size w w'
set_option maxRecDepth 100000 in
set_option maxHeartbeats 4000000 in
theorem refNear_any (a : Option Addr) (N cap : Nat) (l : List UInt8) (p : Int) (R : List (Nat × Nat)) (w : World) (h : Bs w a N cap l) (hp : (Lit.int .i64 p).wf = true) (hN : N ≤ 1048576) (hR : RecAt l N p R) :
    Calls Tryd.prog 16 #[.slice a N cap, .int .i64 p] w (RNPost w R) := by
  rcases hR with ⟨ho, rfl⟩ | ⟨t, rfl, ht, hrec⟩
  · by_cases h0 : p < 0
    · have d0 : decide (p < 0) = true := by simp; omega
      clear h hp ho
      go_enter Tryd.func16, Tryd.ntmps16
      go_wp2
      go_ret
      exact ⟨_, rfl, by exact World.ownsRow_nil _ _ _ _, Below.refl _ _⟩
    · have d0 : decide (p < 0) = false := by simp; omega
      have d1 : decide ((N : Int) ≤ p) = true := by simp; omega
      clear h hp ho
      go_enter Tryd.func16, Tryd.ntmps16
      go_wp2
      go_ret
      exact ⟨_, rfl, by exact World.ownsRow_nil _ _ _ _, Below.refl _ _⟩
  have hlN := h.hlen
  have HM : Hid (∀ w' (n g : Nat), Below w.heap.size w w' → 3 ≤ n → n ≤ 300 → g ≤ 100000 → Calls Tryd.prog 37 #[.slice a N cap, .int .i64 (t : Nat), .int .i64 (n : Nat), .int .i64 (g : Nat)] w' fun e w'' => e = .returned (.bool (decide (Lz.Mat (gb l) N t n g))) ∧ Below w'.heap.size w' w'') := Lib.hid (fun w' n g hb h3 hn hg => by
    have hwn : (Lit.int .i64 (n : Nat)).wf = true := by simp only [Lit.wf, IntKind.min, IntKind.max, IntKind.signed, IntKind.bits, Bool.and_eq_true, decide_eq_true_eq, if_true]; simp; omega
    have hwg : (Lit.int .i64 (g : Nat)).wf = true := by simp only [Lit.wf, IntKind.min, IntKind.max, IntKind.signed, IntKind.bits, Bool.and_eq_true, decide_eq_true_eq, if_true]; simp; omega
    have := refMatch_any a N cap l t n g w' (h.mono hb) hp hwn hwg
    have e : Mt.ver l t n g = decide (Lz.Mat (gb l) N t n g) := by
      have := ver_mat l t n g h3
      rw [hlN] at this
      by_cases hm : Lz.Mat (gb l) N t n g
      · rw [decide_eq_true hm]; exact this.2 hm
      · rw [decide_eq_false hm]; cases hv : Mt.ver l t n g
        · rfl
        · exact absurd (this.1 hv) hm
    rw [e] at this
    exact this)
  have HREC := Lib.hid hrec
  have htop := Lz.top_le hrec
  have htop2 := Lz.top_ge hrec
  have d0 : decide ((t : Int) < 0) = false := by simp
  have d1 : decide (N ≤ t) = false := by simp; omega
  clear h hp hrec hlN
  go_enter Tryd.func16, Tryd.ntmps16
  go_wp2
  go_loopw [5, 6] (fun v i wr => ∃ k : Nat, k ≤ Lz.top R - 2 ∧ i = .int .i64 ((3 + k : Nat) : Int) ∧ Hid (wr.ownsRow w.heap.size 3 1 v k (ivs ((wantI R).take k)) ∧ Below w.heap.size w wr)) (fun _ i _ => 300 - (intOf i).toNat)
  case atStart => exact ⟨0, by omega, rfl, Lib.hid ⟨by rw [List.take_zero]; exact World.ownsRow_nil _ _ _ _, Below.refl _ _⟩⟩
  case round =>
    obtain ⟨k, hk, rfl, HO⟩ := hrel
    obtain ⟨n, hn⟩ : ∃ n, 3 + k = n := ⟨_, rfl⟩
    have HNK := Lib.hid hn
    have hn3 : 3 ≤ n ∧ n ≤ 259 := by omega
    rw [hn]
    by_cases hk2 : n ≤ 258
    · have d2 : decide ((n : Int) ≤ 258) = true := by simp; omega
      clear hn
      go_wp2
      go_loopw [7, 8] (fun fd f wx => ∃ g : Nat, 1 ≤ g ∧ g ≤ t + 1 ∧ g ≤ 32769 ∧ f = .int .i64 ((g : Nat) : Int) ∧ ((fd = .int .i64 0 ∧ Hid (∀ q, q < g → ¬ Lz.Mat (gb l) N t n q)) ∨ (fd = .int .i64 ((Lz.far R n : Nat) : Int) ∧ 1 ≤ Lz.far R n ∧ n ≤ Lz.top R)) ∧ Hid (wx.ownsRow w.heap.size 3 1 u5 k (ivs ((wantI R).take k)) ∧ Below w.heap.size w wx)) (fun _ f _ => t + 2 - (intOf f).toNat)
      case atStart => exact ⟨1, by omega, by omega, by omega, rfl, .inl ⟨rfl, Lib.hid (fun q hq hm => by have := hm.1; omega)⟩, HO⟩
      case round =>
        clear HO
        obtain ⟨g, g1, g2, g3, rfl, hfd, HO⟩ := hrel
        rcases hfd with ⟨rfl, HNO⟩ | ⟨rfl, f1, f2⟩
        · by_cases ha : g ≤ t ∧ g ≤ 32768
          · have d3 : decide (g ≤ t) = true := by simp; omega
            have d4 : decide ((g : Int) ≤ 32768) = true := by simp; omega
            have HMM := Lib.hid (HM.out wr n g HO.out.2 hn3.1 (by omega) (by omega))
            go_wp2_with fail
            refine HMM.out.mono ?_
            rintro e w4 ⟨rfl, hb4⟩
            have HO4 : Hid (w4.ownsRow w.heap.size 3 1 u5 k (ivs ((wantI R).take k)) ∧ Below w.heap.size w w4) := Lib.hid ⟨own_below HO.out.1 hb4, HO.out.2.trans (hb4.mono HO.out.2.size)⟩
            by_cases hm : Lz.Mat (gb l) N t n g
            · rw [decide_eq_true hm]
              obtain ⟨hnt, hfg⟩ := Lz.mat_top HREC.out hn3.1 hm
              have hfar : Lz.far R n = g := by
                rcases Nat.lt_or_ge (Lz.far R n) g with hl | hl
                · exact absurd (Lz.far_some HREC.out hn3.1 hnt).1 (HNO.out _ hl)
                · omega
              have HF := Lib.hid hfar
              clear hm hfg hfar HMM
              go_wp2
              go_roundw
              case rel => exact ⟨g + 1, by omega, by omega, by omega, by go_num, .inr ⟨by rw [HF.out], by rw [HF.out]; exact g1, hnt⟩, HO4⟩
              case measure => simp [intOf]; omega
            · rw [decide_eq_false hm]
              have HNO2 : Hid (∀ q, q < g + 1 → ¬ Lz.Mat (gb l) N t n q) := Lib.hid (fun q hq => by
                rcases Nat.lt_or_ge q g with hl | hl
                · exact HNO.out q hl
                · obtain rfl : q = g := by omega
                  exact hm)
              clear hm HMM
              go_wp2
              go_roundw
              case rel => exact ⟨g + 1, by omega, by omega, by omega, by go_num, .inl ⟨rfl, HNO2⟩, HO4⟩
              case measure => simp [intOf]; omega
          · have hall : ∀ q, ¬ Lz.Mat (gb l) N t n q := fun q hm => HNO.out q (by have h1 := hm.2.1; have h2 := hm.2.2.1; omega) hm
            have hnt : Lz.top R < n := by
              rcases Nat.lt_or_ge (Lz.top R) n with h' | h'
              · exact h'
              · exact absurd (Lz.far_some HREC.out hn3.1 h').1 (hall _)
            have HKT : Hid (k = Lz.top R - 2) := Lib.hid (by have := HNK.out; omega)
            have HEND : Hid (RNPost w R (.returned u5) wr) := Lib.hid ⟨_, rfl, by have := HO.out.1; rw [HKT.out, List.take_of_length_le (by rw [wantI_length]; exact Nat.le_refl _)] at this; exact this, HO.out.2⟩
            clear hall hnt
            by_cases ha1 : g ≤ t
            · have d3 : decide (g ≤ t) = true := by simp; omega
              have d4 : decide ((g : Int) ≤ 32768) = false := by simp; omega
              clear ha
              go_wp2
              go_ret
              exact HEND.out
            · have d3 : decide (g ≤ t) = false := by simp; omega
              clear ha
              go_wp2
              go_ret
              exact HEND.out
        · have d5 : (((Lz.far R n : Nat) : Int) == 0) = false := by simp; omega
          have HTK : Hid ((wantI R).take (k + 1) = (wantI R).take k ++ [((Lz.far R n : Nat) : Int)]) := Lib.hid (by have := wantI_take R k (by have := HNK.out; omega); rw [HNK.out] at this; exact this)
          have hkk : k + 1 ≤ Lz.top R - 2 := by have := HNK.out; omega
          generalize Lz.far R n = fr at *
          obtain ⟨av, cv, hv⟩ : ∃ av cv, u5 = .slice av k cv := by
            rcases own_nil_or HO.out.1 with ⟨h1, h2⟩ | ⟨g', cap', h1, _⟩
            · exact ⟨none, 0, by rw [h1, h2]⟩
            · exact ⟨_, _, h1⟩
          rw [hv] at HO
          subst hv
          rcases (show (g ≤ t ∧ g ≤ 32768) ∨ (g ≤ t ∧ ¬ g ≤ 32768) ∨ ¬ g ≤ t by omega) with ⟨ha1, ha2⟩ | ⟨ha1, ha2⟩ | ha1
          · have d3 : decide (g ≤ t) = true := by simp; omega
            have d4 : decide ((g : Int) ≤ 32768) = true := by simp; omega
            go_wp2_with (at_builtin; refine wpl_append tyI rfl _ _ rfl (own_below HO.out.1 (below_alloc wr _)) (src_int wr (fr : Nat)) rfl rfl (by omega) (by omega) (by simp; have := HO.out.2.size; omega) ?_)
            intro v' w5 own5 g5 _
            have hb5 : Below w.heap.size w w5 := (HO.out.2.alloc HO.out.2.size _).grown g5 (by simp; have := HO.out.2.size; omega) (fun g hg => (HO.out.1.lt g hg).1)
            rw [← ivs_append, ← HTK.out] at own5
            have HO5 := Lib.hid (And.intro own5 hb5)
            clear own5 hb5 g5 HO
            go_wp2
            go_roundw
            case rel => exact ⟨k + 1, hkk, congrArg (Value.int .i64) (by have := HNK.out; omega), HO5⟩
            case measure => simp [intOf]; have := HNK.out; omega
          · have d3 : decide (g ≤ t) = true := by simp; omega
            have d4 : decide ((g : Int) ≤ 32768) = false := by simp; omega
            go_wp2_with (at_builtin; refine wpl_append tyI rfl _ _ rfl (own_below HO.out.1 (below_alloc wr _)) (src_int wr (fr : Nat)) rfl rfl (by omega) (by omega) (by simp; have := HO.out.2.size; omega) ?_)
            intro v' w5 own5 g5 _
            have hb5 : Below w.heap.size w w5 := (HO.out.2.alloc HO.out.2.size _).grown g5 (by simp; have := HO.out.2.size; omega) (fun g hg => (HO.out.1.lt g hg).1)
            rw [← ivs_append, ← HTK.out] at own5
            have HO5 := Lib.hid (And.intro own5 hb5)
            clear own5 hb5 g5 HO
            go_wp2
            go_roundw
            case rel => exact ⟨k + 1, hkk, congrArg (Value.int .i64) (by have := HNK.out; omega), HO5⟩
            case measure => simp [intOf]; have := HNK.out; omega
          · have d3 : decide (g ≤ t) = false := by simp; omega
            go_wp2_with (at_builtin; refine wpl_append tyI rfl _ _ rfl (own_below HO.out.1 (below_alloc wr _)) (src_int wr (fr : Nat)) rfl rfl (by omega) (by omega) (by simp; have := HO.out.2.size; omega) ?_)
            intro v' w5 own5 g5 _
            have hb5 : Below w.heap.size w w5 := (HO.out.2.alloc HO.out.2.size _).grown g5 (by simp; have := HO.out.2.size; omega) (fun g hg => (HO.out.1.lt g hg).1)
            rw [← ivs_append, ← HTK.out] at own5
            have HO5 := Lib.hid (And.intro own5 hb5)
            clear own5 hb5 g5 HO
            go_wp2
            go_roundw
            case rel => exact ⟨k + 1, hkk, congrArg (Value.int .i64) (by have := HNK.out; omega), HO5⟩
            case measure => simp [intOf]; have := HNK.out; omega
    · have hkt : k = Lz.top R - 2 := by omega
      have d2 : decide ((n : Int) ≤ 258) = false := by simp; omega
      clear hn
      go_wp2
      go_ret
      exact ⟨_, rfl, by have := HO.out.1; rw [hkt, List.take_of_length_le (by rw [wantI_length]; exact Nat.le_refl _)] at this; exact this, HO.out.2⟩
end Go.Proofs.YtedncnaeojomcaaDoor
