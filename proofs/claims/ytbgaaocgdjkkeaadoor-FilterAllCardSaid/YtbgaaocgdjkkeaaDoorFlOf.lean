/- filter.goodKind, goodRow, Filter, Unfilter; the document's Good: their contracts. -/
import Derived.Test.YtbgaaocgdjkkeaaDoorFlUn
import Derived.Test.YtbgaaocgdjkkeaaDoorMadeB
namespace Go.Proofs.YtbgaaocgdjkkeaaDoor
open Go.RowKit

theorem goodKind_any (k : Int) (w : World) : Calls Tryd.prog 29 #[.int .i64 k] w fun e w' => e = .returned (.bool (decide (0 ≤ k) && decide (k ≤ 4))) ∧ w = w' := by
  by_cases h0 : 0 ≤ k
  · have d0 : decide (0 ≤ k) = true := by simpa using h0
    have e1 : decide (k ≤ 4) = decide (k < 5) := by rw [decide_eq_decide]; omega
    rw [e1, d0]
    clear h0 e1
    go_enter Tryd.func29, Tryd.ntmps29
    go_wp2
    go_ret
    exact ⟨rfl, rfl⟩
  · have d0 : decide (0 ≤ k) = false := by simpa using h0
    rw [d0]
    clear h0
    go_enter Tryd.func29, Tryd.ntmps29
    go_wp2
    go_ret
    exact ⟨rfl, rfl⟩
/-- What goodRow asks. -/
def Fi.gr (n m : Nat) (p : Int) : Bool := decide (1 ≤ p) && decide (p ≤ 8) && (m == n || m == 0)
theorem goodRow_any (ra : Option Addr) (n rcap : Nat) (aa : Option Addr) (m acap : Nat) (p : Int) (w : World) (hn : n ≤ 140737488355328) (hm : m ≤ 140737488355328) :
    Calls Tryd.prog 30 #[.slice ra n rcap, .slice aa m acap, .int .i64 p] w fun e w' => e = .returned (.bool (Fi.gr n m p)) ∧ w = w' := by
  have HG : Hid (Fi.gr n m p = (decide (1 ≤ p) && decide (p ≤ 8) && (m == n || m == 0))) := Lib.hid rfl
  have q1 : ((m : Int) == (n : Int)) = (m == n) := by rw [Bool.eq_iff_iff]; simp; omega
  have q2 : ((m : Int) == 0) = (m == 0) := by rw [Bool.eq_iff_iff]; simp
  generalize Fi.gr n m p = r at *
  cases h1 : decide (1 ≤ p)
  · rw [h1] at HG
    have HR : Hid (r = false) := Lib.hid (by rw [HG.out]; rfl)
    clear HG q1 q2
    go_enter Tryd.func30, Tryd.ntmps30
    go_wp2
    go_ret
    exact ⟨by rw [HR.out]; rfl, rfl⟩
  cases h2 : decide (p ≤ 8)
  · rw [h1, h2] at HG
    have HR : Hid (r = false) := Lib.hid (by rw [HG.out]; rfl)
    clear HG q1 q2
    go_enter Tryd.func30, Tryd.ntmps30
    go_wp2
    go_ret
    exact ⟨by rw [HR.out]; rfl, rfl⟩
  cases h3 : (m == n)
  · rw [h1, h2, h3] at HG
    rw [h3] at q1
    have HR : Hid (r = (m == 0)) := Lib.hid (by rw [HG.out]; rfl)
    clear HG h3
    go_enter Tryd.func30, Tryd.ntmps30
    go_wp2
    go_ret
    exact ⟨by rw [HR.out]; rfl, rfl⟩
  · rw [h1, h2, h3] at HG
    rw [h3] at q1
    have HR : Hid (r = true) := Lib.hid (by rw [HG.out]; rfl)
    clear HG h3
    go_enter Tryd.func30, Tryd.ntmps30
    go_wp2
    go_ret
    exact ⟨by rw [HR.out]; rfl, rfl⟩
theorem Fi.good_gr (k : Int) (n m : Nat) (p : Int) : Fi.good k n m p = (decide (0 ≤ k) && decide (k ≤ 4) && Fi.gr n m p) := by
  unfold Fi.good Fi.gr
  rw [Bool.or_comm (m == 0)]
  simp only [Bool.and_assoc]
theorem Fi.good_len {k : Int} {n m : Nat} {p : Int} (h : Fi.good k n m p = true) : (0 ≤ k ∧ k ≤ 4) ∧ (1 ≤ p ∧ p ≤ 8) ∧ (m = 0 ∨ m = n) := by
  simp [Fi.good] at h; omega
theorem Fi.gr_len {n m : Nat} {p : Int} (h : Fi.gr n m p = true) : (1 ≤ p ∧ p ≤ 8) ∧ (m = 0 ∨ m = n) := by
  simp [Fi.gr] at h; omega
/-- What Filter and Unfilter answer, r for good arguments. -/
def FrPost (w : World) (b : Bool) (n : Nat) (r : List UInt8) (e : Ending) (w' : World) : Prop :=
  Below w.heap.size w w' ∧ ((b = true ∧ ∃ g, e = .returned (.tuple #[.slice (some ⟨g, 0, none⟩) n n, .nilIface]) ∧ w'.ownsRow w.heap.size 5 1 (.slice (some ⟨g, 0, none⟩) n n) n (bvs r)) ∨
    (b = false ∧ e = .returned (.tuple #[.slice none 0 0, .iface 38 (.int .i64 6)])))
set_option maxHeartbeats 1000000 in
theorem filter_any (k : Int) (ra : Option Addr) (n rcap : Nat) (l : List UInt8) (aa : Option Addr) (alen acap : Nat) (m : List UInt8) (p : Int) (w : World)
    (hr : Bs w ra n rcap l) (ha : Bs w aa alen acap m) (hn : n ≤ 140737488355328) (hm : alen ≤ 140737488355328) :
    Calls Tryd.prog 15 #[.int .i64 k, .slice ra n rcap, .slice aa alen acap, .int .i64 p] w (FrPost w (Fi.good k n alen p) n (Fi.flt k l m p.toNat)) := by
  have HK := Lib.hid (goodKind_any k w)
  have HGR := Lib.hid (goodRow_any ra n rcap aa alen acap p w hn hm)
  have HG := Lib.hid (Fi.good_gr k n alen p)
  have HGL := Lib.hid (fun h => @Fi.good_len k n alen p h)
  have HLN := Lib.hid hr.hlen
  have HR := Lib.hid hr
  have HA := Lib.hid ha
  clear hr ha
  generalize Fi.good k n alen p = r at *
  cases h1 : (decide (0 ≤ k) && decide (k ≤ 4))
  · rw [h1] at HG HK
    have HF : Hid (r = false) := Lib.hid (by rw [HG.out]; rfl)
    clear HG h1 HGL
    go_enter Tryd.func15, Tryd.ntmps15
    go_wp2_with fail
    refine HK.out.mono ?_
    rintro e w' ⟨rfl, rfl⟩
    go_wp2
    go_ret2
    exact ⟨Below.refl _ _, .inr ⟨HF.out, rfl⟩⟩
  · cases h2 : Fi.gr n alen p
    · rw [h1, h2] at HG
      rw [h1] at HK
      rw [h2] at HGR
      have HF : Hid (r = false) := Lib.hid (by rw [HG.out]; rfl)
      clear HG h1 HGL h2
      go_enter Tryd.func15, Tryd.ntmps15
      go_wp2_with fail
      refine HK.out.mono ?_
      rintro e w' ⟨rfl, rfl⟩
      go_wp2_with fail
      refine HGR.out.mono ?_
      rintro e w' ⟨rfl, rfl⟩
      go_wp2
      go_ret2
      exact ⟨Below.refl _ _, .inr ⟨HF.out, rfl⟩⟩
    · rw [h1, h2] at HG
      rw [h1] at HK
      rw [h2] at HGR
      have HF : Hid (r = true) := Lib.hid (by rw [HG.out]; rfl)
      obtain ⟨⟨hk0, hk4⟩, ⟨hp1, hp8⟩, hl⟩ := HGL.out HF.out
      obtain ⟨q, rfl⟩ : ∃ q : Nat, p = q := ⟨p.toNat, by omega⟩
      rw [Int.toNat_natCast]
      clear HG h1 HGL h2
      have hq1 : 1 ≤ q := by omega
      have hq8 : q ≤ 8 := by omega
      have HL := Lib.hid hl
      clear hl
      go_enter Tryd.func15, Tryd.ntmps15
      go_wp2_with fail
      refine HK.out.mono ?_
      rintro e w' ⟨rfl, rfl⟩
      go_wp2_with fail
      refine HGR.out.mono ?_
      rintro e w' ⟨rfl, rfl⟩
      clear hp1 hp8 hk0 hk4
      go_wp2_with (at_make; refine wpl_make_bytes rfl _ _ rfl w.heap.size .i64 .i64 _ _ n rfl rfl rfl rfl (by omega) (Nat.le_refl _) ?_)
      intro w1 own1 hb1
      have hbk := Bk.of_own own1
      have HCALL := Lib.hid (filterTo_any w.heap.size 0 n n (List.replicate n 0) k ra rcap l aa alen acap m q w1 hbk (by simp) (Nat.le_refl _) hn hq1 hq8 HL.out
        (fun w' hc => HR.out.mono (hb1.trans (hc.below (B := w.heap.size) hb1.size (fun k hk => by omega)))) (fun w' hc => HA.out.mono (hb1.trans (hc.below (B := w.heap.size) hb1.size (fun k hk => by omega)))))
      rw [show List.take 0 (List.replicate n (0 : UInt8)) ++ Fi.flt k l m q ++ List.drop (0 + n) (List.replicate n 0) = Fi.flt k l m q by simp] at HCALL
      have HB1 := Lib.hid hb1
      have hpl := Fi.flt_length k l m q
      rw [HLN.out] at hpl
      have HPL := Lib.hid hpl
      clear own1 hbk hb1 hpl HK HGR HR HA
      go_wp2_with fail
      refine HCALL.out.mono ?_
      rintro e w2 ⟨rfl, hbk2, hc2⟩
      have hb2 := HB1.out.trans (hc2.below (B := w.heap.size) HB1.out.size (fun k hk => by omega))
      have HO := Lib.hid (hbk2.own (base := w.heap.size) (Nat.le_refl _) HPL.out (by omega))
      have HB2 := Lib.hid hb2
      clear hbk2 hc2 hb2 HCALL HB1
      go_wp2
      go_ret2
      exact ⟨HB2.out, .inl ⟨HF.out, _, rfl, HO.out⟩⟩
end Go.Proofs.YtbgaaocgdjkkeaaDoor
