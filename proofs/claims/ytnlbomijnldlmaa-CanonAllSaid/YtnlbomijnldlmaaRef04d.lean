/- The document's codes of lengths: their contract. -/
import Derived.Test.YtnlbomijnldlmaaRef04c
namespace Go.Proofs.Ytnlbomijnldlmaa
open Go.RowKit

/-- Two lists of numbers of the call's own, apart. -/
structure P2 (w wx : World) (va vb : Value) (la lb : List Int) : Prop where
  bel : Below w.heap.size w wx
  oa : wx.ownsRow w.heap.size 3 1 va la.length (ivs la)
  ob : wx.ownsRow w.heap.size 3 1 vb lb.length (ivs lb)
  dj : ∀ k, va.ownBlock = some k → vb.ownBlock ≠ some k
theorem P2.mono {w wx wy : World} {va vb : Value} {la lb : List Int} (h : P2 w wx va vb la lb) (hb : Below wx.heap.size wx wy) : P2 w wy va vb la lb :=
  ⟨h.bel.trans (hb.mono h.bel.size), own_below h.oa hb, own_below h.ob hb, h.dj⟩
theorem P2.stepA {w wx wy : World} {va vb va' : Value} {la lb la' : List Int} (h : P2 w wx va vb la lb) (o : wy.ownsRow w.heap.size 3 1 va' la'.length (ivs la')) (c : Ch wx wy (fun k => va.ownBlock = some k)) (f : ∀ k, va'.ownBlock = some k → va.ownBlock = some k ∨ wx.heap.size ≤ k) : P2 w wy va' vb la' lb :=
  ⟨h.bel.trans (c.below h.bel.size (fun k hk => (h.oa.lt k hk).1)), o, c.own h.ob (fun k hk e => h.dj k e hk), fun k hk e => (f k hk).elim (fun e2 => h.dj k e2 e) (fun e2 => by have := (h.ob.lt k e).2; omega)⟩
theorem P2.stepB {w wx wy : World} {va vb vb' : Value} {la lb lb' : List Int} (h : P2 w wx va vb la lb) (o : wy.ownsRow w.heap.size 3 1 vb' lb'.length (ivs lb')) (c : Ch wx wy (fun k => vb.ownBlock = some k)) (f : ∀ k, vb'.ownBlock = some k → vb.ownBlock = some k ∨ wx.heap.size ≤ k) : P2 w wy va vb' la lb' :=
  ⟨h.bel.trans (c.below h.bel.size (fun k hk => (h.ob.lt k hk).1)), c.own h.oa (fun k hk e => h.dj k hk e), o, fun k hk e => (f k e).elim (h.dj k hk) (fun e2 => by have := (h.oa.lt k hk).2; omega)⟩
theorem wf_small {l : List Int} (h : ∀ x ∈ l, 0 ≤ x ∧ x ≤ 1000000000) : Wf l := fun n hn => by
  have := h n hn
  simp only [Lit.wf, IntKind.min, IntKind.max, IntKind.signed, IntKind.bits, Bool.and_eq_true, decide_eq_true_eq, if_true]
  simp; omega
theorem sym_small (l : List Int) (m : Nat) (hl : l.length ≤ 1000) : ∀ x ∈ Cn.symN l m, 0 ≤ x ∧ x ≤ 1000000000 := by
  intro x hx
  simp only [Cn.symN, List.mem_flatMap, List.mem_map, Cn.row, List.mem_filter, List.mem_range] at hx
  obtain ⟨n, _, s, ⟨hs, _⟩, rfl⟩ := hx
  omega
def CodesPost (w : World) (l : List Int) (e : Ending) (w' : World) : Prop :=
  ∃ v n cs, e = .returned v ∧ Cds w' w.heap.size v n cs ∧ cs.map Cd.s = Cn.syms l ∧ cs.map Cd.b = Cn.codes (Cn.sizes l) ∧ Below w.heap.size w w'
theorem Cds.base {w : World} {B B' : Nat} {v : Value} {n : Nat} {cs : List Cd} (h : Cds w B v n cs) (hB : B' ≤ B) : Cds w B' v n cs :=
  ⟨h.hn, own_base h.own (fun k hk => Nat.le_trans hB (h.own.lt k hk).1), h.each, h.blk, fun i hi ad e => Nat.le_trans hB (h.lo i hi ad e)⟩
set_option maxHeartbeats 4000000 in
set_option maxRecDepth 100000 in
theorem refCodes_any (a : Option Addr) (len cap : Nat) (l : List Int) (w : World) (h : Is .i64 w a len cap l) (hl : len ≤ 512) :
    Calls Try.prog 18 #[.slice a len cap] w (CodesPost w l) := by
  have HL := Lib.hid h.hlen
  have H := Lib.hid h
  clear h
  go_enter Try.func18, Try.ntmps18
  go_wp2
  go_loopg [3, 4, 5] 16 (fun gk va vb n wr => ∃ m : Nat, m ≤ 16 ∧ gk = 16 - m ∧ n = .int .i64 ((m + 1 : Nat) : Int) ∧ (Cn.symN l m).length ≤ 512 * m ∧ Hid (P2 w wr va vb (Cn.symN l m) (Cn.sizN l m)))
  case atStart => exact ⟨0, by omega, by omega, rfl, by simp [Cn.symN], Lib.hid ⟨Below.refl _ _, World.ownsRow_nil _ _ _ _, World.ownsRow_nil _ _ _ _, fun k hk => by simp [Value.ownBlock] at hk⟩⟩
  case round =>
    obtain ⟨m, hm, rfl, rfl, hc, HP⟩ := hrel
    by_cases hlt : m < 16
    · have d16 : decide (((m + 1 : Nat) : Int) ≤ 16) = true := by simp; omega
      go_wp2
      generalize Value.bool (decide ((m : Int) + 1 ≤ 16)) = tb
      go_loopg [3, 4, 6] len (fun gk va vb s wr => ∃ i : Nat, i ≤ len ∧ gk = len - i ∧ s = .int .i64 i ∧ Hid (P2 w wr va vb (Cn.symN l m ++ (Cn.row l m i).map fun (s : Nat) => (s : Int)) (Cn.sizN l m ++ (Cn.row l m i).map fun _ => ((m + 1 : Nat) : Int))))
      case atStart => exact ⟨0, by omega, by omega, rfl, by simpa [Cn.row] using HP⟩
      case round =>
        obtain ⟨i, hi, rfl, rfl, HQ⟩ := hrel
        by_cases hil : i < len
        · obtain ⟨b, off, rfl, _, c1⟩ := (H.out.mono HQ.out.bel).at' i hil
          have HR := Lib.hid (Cn.row_succ l m i)
          have hrl := Cn.row_le l m i
          have hla : (Cn.symN l m ++ (Cn.row l m i).map fun (s : Nat) => (s : Int)).length ≤ 9000 := by rw [List.length_append, List.length_map]; omega
          have hlb : (Cn.sizN l m ++ (Cn.row l m i).map fun _ => ((m + 1 : Nat) : Int)).length ≤ 9000 := by rw [List.length_append, List.length_map, Cn.sizN_length]; omega
          by_cases he : l.getD i 0 = ((m + 1 : Nat) : Int)
          · have hr1 : Cn.row l m (i + 1) = Cn.row l m i ++ [i] := by rw [HR.out, if_pos (by rw [he]; exact beq_self_eq_true _)]
            rw [he] at c1
            have ea : (Cn.symN l m ++ (Cn.row l m (i + 1)).map fun (s : Nat) => (s : Int)) = (Cn.symN l m ++ (Cn.row l m i).map fun (s : Nat) => (s : Int)) ++ [(i : Int)] := by rw [hr1, List.map_append, ← List.append_assoc]; rfl
            have eb : (Cn.sizN l m ++ (Cn.row l m (i + 1)).map fun _ => ((m + 1 : Nat) : Int)) = (Cn.sizN l m ++ (Cn.row l m i).map fun _ => ((m + 1 : Nat) : Int)) ++ [((m + 1 : Nat) : Int)] := by rw [hr1, List.map_append, ← List.append_assoc]; rfl
            have EA := Lib.hid ea
            have EB := Lib.hid eb
            clear ea eb hr1 HR he hrl hc
            generalize (Cn.symN l m ++ (Cn.row l m i).map fun (s : Nat) => (s : Int)) = A at *
            generalize (Cn.sizN l m ++ (Cn.row l m i).map fun _ => ((m + 1 : Nat) : Int)) = B at *
            have HQ1 := Lib.hid (HQ.out.mono (below_alloc wr (.cells #[Value.int .i64 (i : Nat)] 3)))
            have oa := Lib.hid HQ1.out.oa
            have hsrc := src_int wr (i : Nat)
            have hbb : w.heap.size ≤ (wr.alloc (.cells #[Value.int .i64 (i : Nat)] 3)).heap.size := HQ1.out.bel.size
            go_wp2_with (at_builtin; refine wpl_append3 tyI rfl _ _ rfl oa.out hsrc rfl rfl (by omega) (by omega) hbb ?_)
            intro v4 w4 own4 c4 f4
            rw [← ivs_append] at own4
            have HQ2 := Lib.hid (HQ1.out.stepA (la' := A ++ [(i : Int)]) (by rw [List.length_append]; exact own4) c4 (by simpa using f4))
            clear own4 c4 f4 hsrc hbb oa HQ1
            have HQ3 := Lib.hid (HQ2.out.mono (below_alloc w4 (.cells #[Value.int .i64 ((m + 1 : Nat) : Int)] 3)))
            have ob := Lib.hid HQ3.out.ob
            have hsrc := src_int w4 ((m + 1 : Nat) : Int)
            have hbb : w.heap.size ≤ (w4.alloc (.cells #[Value.int .i64 ((m + 1 : Nat) : Int)] 3)).heap.size := HQ3.out.bel.size
            go_wp2_with (at_builtin; refine wpl_append3 tyI rfl _ _ rfl ob.out hsrc rfl rfl (by omega) (by omega) hbb ?_)
            intro v5 w5 own5 c5 f5
            rw [← ivs_append] at own5
            have HQ4 := Lib.hid (HQ3.out.stepB (lb' := B ++ [((m + 1 : Nat) : Int)]) (by rw [List.length_append]; exact own5) c5 (by simpa using f5))
            clear own5 c5 f5 hsrc hbb ob HQ3 HQ2
            rw [← EA.out, ← EB.out] at HQ4
            go_wp2
            go_roundg (len - (i + 1))
            case measure => omega
            case rel => exact ⟨i + 1, by omega, rfl, by go_num, HQ4⟩
          · have hr1 : Cn.row l m (i + 1) = Cn.row l m i := by rw [HR.out, if_neg (by intro hh; exact he (eq_of_beq hh)), List.append_nil]
            have he2 : decide (l.getD i 0 = ((m + 1 : Nat) : Int)) = false := by simpa using he
            rw [← hr1] at HQ
            clear hr1 HR hrl hc hla hlb
            generalize l.getD i 0 = x at *
            go_wp2
            go_roundg (len - (i + 1))
            case measure => omega
            case rel => exact ⟨i + 1, by omega, rfl, by go_num, HQ⟩
        · obtain rfl : len = i := by omega
          have e1 := Cn.symN_succ l m
          have e2 := Cn.sizN_succ l m
          rw [HL.out] at e1 e2
          rw [← e1, ← e2] at HQ
          have hrl := Cn.row_le l m len
          have hc2 : (Cn.symN l (m + 1)).length ≤ 512 * (m + 1) := by rw [e1, List.length_append, List.length_map]; omega
          clear e1 e2
          go_wp2
          go_roundg (16 - (m + 1))
          case measure => omega
          case rel => exact ⟨m + 1, by omega, rfl, by go_num, hc2, HQ⟩
    · obtain rfl : m = 16 := by omega
      have d16 : decide (((16 + 1 : Nat) : Int) ≤ 16) = false := by simp
      obtain ⟨sa, sc, rfl, hsi⟩ := own_is HP.out.oa (wf_small (sym_small l 16 (by rw [HL.out]; omega)))
      obtain ⟨za, zc, rfl, hzi⟩ := own_is HP.out.ob (wf_small (fun x hx => by have := Cn.sizN_bound l 16 (by omega) x hx; omega))
      rw [Cn.sizN_length] at hzi ⊢
      have HSI := Lib.hid hsi
      have HZI := Lib.hid hzi
      have hbel := HP.out.bel
      have hsn : (Cn.symN l 16).length ≤ 10000000 := by omega
      clear hsi hzi HP hc
      go_wp2_with fail
      refine (list_any sa _ sc (Cn.symN l 16) za zc (Cn.sizN l 16) _ HSI.out HZI.out hsn (Cn.sizN_bound l 16 (by omega))).mono ?_
      rintro e w2 ⟨v, cs, rfl, hcs, e1, e2, hb2⟩
      have hcs2 := hcs.base hbel.size
      have hb3 := below_then hbel hb2
      obtain ⟨va, vc, rfl, _⟩ := hcs2.cells
      go_wp2
      go_ret
      exact ⟨_, _, cs, rfl, hcs2, e1, e2, hb3⟩
end Go.Proofs.Ytnlbomijnldlmaa
