/- chunk.letters, Named, Critical, Safe, and the document's: their contracts. -/
import Derived.Test.YtbgaaocgdjkkeaaZ1
import Derived.Test.YtbgaaocgdjkkeaaZ8
import Derived.Test.YtbgaaocgdjkkeaaZ23
import Derived.Test.YtbgaaocgdjkkeaaProg
import Derived.Lib.OthersKept
import Derived.Laws.RangeString
import Derived.Laws.RangeAny
import Derived.Laws.ResultCell
set_option linter.unusedSimpArgs false
set_option linter.unusedVariables false
section
namespace Go.Proofs.Ytbgaaocgdjkkeaa
open Go.RowKit

namespace Ck
def at4 (n : List UInt8) (k i : Nat) : Int := if i < k then gb n i else 0
def row4 (n : List UInt8) (k : Nat) : Array Value := #[.int .i32 (at4 n k 0), .int .i32 (at4 n k 1), .int .i32 (at4 n k 2), .int .i32 (at4 n k 3)]
theorem row4_set (n : List UInt8) (k : Nat) (hk : k < 4) : (row4 n k).setIfInBounds k (.int .i32 (gb n k)) = row4 n (k + 1) := by
  match k, hk with
  | 0, _ => simp [row4, at4]
  | 1, _ => simp [row4, at4]
  | 2, _ => simp [row4, at4]
  | 3, _ => simp [row4, at4]
theorem row4_get (n : List UInt8) (k : Nat) (hk : k < 4) : ∃ x, (row4 n k)[k]? = some (.int .i32 x) := by
  match k, hk with
  | 0, _ => exact ⟨_, rfl⟩
  | 1, _ => exact ⟨_, rfl⟩
  | 2, _ => exact ⟨_, rfl⟩
  | 3, _ => exact ⟨_, rfl⟩
theorem all_take_succ (n : List UInt8) (k : Nat) (hk : k < n.length) (h : (n.take k).all letter = true) (hx : letter (n.getD k 0) = true) : (n.take (k + 1)).all letter = true := by
  rw [take_succ_getD n k hk, List.all_append, h]; simp only [List.all_cons, List.all_nil, hx, Bool.and_self]
theorem named_of (n : List UInt8) (h : (n.take n.length).all letter = true) : named n = (n.length == 4) := by
  rw [List.take_of_length_le (Nat.le_refl _)] at h
  simp [named, h]
theorem named_long (n : List UInt8) (h : 4 < n.length) : named n = false := by
  have : (n.length == 4) = false := by simp; omega
  simp [named, this]
theorem named_not (n : List UInt8) (k : Nat) (hk : k < n.length) (h : letter (n.getD k 0) = false) : named n = false := by
  have : n.all letter = false := by
    rw [List.all_eq_false]
    refine ⟨n[k], List.getElem_mem hk, ?_⟩
    simpa [List.getD, List.getElem?_eq_getElem hk] using h
  simp [named, this]
end Ck
theorem str_get (l : List UInt8) (k : Nat) (h : k < (str l).size) : ((str l)[k]'h).toNat = gb l k := by
  have h' : k < l.length := by rw [← str_size]; exact h
  show (l.toArray[k]'(by simpa using h')).toNat = gb l k
  simp [gb, List.getD, List.getElem?_eq_getElem h']

theorem lower_any (r : Int) (w : World) : Calls Try.prog 84 #[.int .i32 r] w fun e w' => e = .returned (.bool (decide (97 ≤ r ∧ r ≤ 122))) ∧ w = w' := by
  by_cases h1 : 97 ≤ r
  · by_cases h2 : r ≤ 122
    · have d1 : decide (97 ≤ r) = true := by simpa using h1
      have d2 : decide (r ≤ 122) = true := by simpa using h2
      have HR := Lib.hid (show decide (97 ≤ r ∧ r ≤ 122) = true by simp [h1, h2])
      clear h1 h2
      go_enter Try.func84, Try.ntmps84
      go_wp2
      go_ret
      exact ⟨by rw [HR.out]; rfl, rfl⟩
    · have d1 : decide (97 ≤ r) = true := by simpa using h1
      have d2 : decide (r ≤ 122) = false := by simpa using h2
      have HR := Lib.hid (show decide (97 ≤ r ∧ r ≤ 122) = false by simp [h1, h2])
      clear h1 h2
      go_enter Try.func84, Try.ntmps84
      go_wp2
      go_ret
      exact ⟨by rw [HR.out]; rfl, rfl⟩
  · have d1 : decide (97 ≤ r) = false := by simpa using h1
    have HR := Lib.hid (show decide (97 ≤ r ∧ r ≤ 122) = false by simp [h1])
    clear h1
    go_enter Try.func84, Try.ntmps84
    go_wp2
    go_ret
    exact ⟨by rw [HR.out]; rfl, rfl⟩
theorem upper_any (r : Int) (w : World) : Calls Try.prog 90 #[.int .i32 r] w fun e w' => e = .returned (.bool (decide (65 ≤ r ∧ r ≤ 90))) ∧ w = w' := by
  by_cases h1 : 65 ≤ r
  · by_cases h2 : r ≤ 90
    · have d1 : decide (65 ≤ r) = true := by simpa using h1
      have d2 : decide (r ≤ 90) = true := by simpa using h2
      have HR := Lib.hid (show decide (65 ≤ r ∧ r ≤ 90) = true by simp [h1, h2])
      clear h1 h2
      go_enter Try.func90, Try.ntmps90
      go_wp2
      go_ret
      exact ⟨by rw [HR.out]; rfl, rfl⟩
    · have d1 : decide (65 ≤ r) = true := by simpa using h1
      have d2 : decide (r ≤ 90) = false := by simpa using h2
      have HR := Lib.hid (show decide (65 ≤ r ∧ r ≤ 90) = false by simp [h1, h2])
      clear h1 h2
      go_enter Try.func90, Try.ntmps90
      go_wp2
      go_ret
      exact ⟨by rw [HR.out]; rfl, rfl⟩
  · have d1 : decide (65 ≤ r) = false := by simpa using h1
    have HR := Lib.hid (show decide (65 ≤ r ∧ r ≤ 90) = false by simp [h1])
    clear h1
    go_enter Try.func90, Try.ntmps90
    go_wp2
    go_ret
    exact ⟨by rw [HR.out]; rfl, rfl⟩
theorem heap_alloc3 (w : World) (A B C : Obj) : (((w.alloc A).alloc B).alloc C).heap[w.heap.size]? = some A ∧ (((w.alloc A).alloc B).alloc C).heap[w.heap.size + 1]? = some B ∧ (((w.alloc A).alloc B).alloc C).heap[w.heap.size + 2]? = some C := by
  have hs : ((w.alloc A).alloc B).heap.size = w.heap.size + 2 := by simp
  refine ⟨?_, ?_, ?_⟩
  · rw [heap_alloc_old _ _ (by omega)]; exact heap_alloc2_old w A B
  · rw [heap_alloc_old _ _ (by omega)]; exact heap_alloc2_new w A B
  · rw [← hs]; exact heap_alloc_last _ _
theorem letters_results (tmps : Array Value) (W : World) (cb : Nat) (cs : Array Value) (u : Value) (h2 : tmps.getD 2 undef = .pointer (some ⟨cb, 0, none⟩)) (h3 : tmps.getD 3 undef = u) (hs : cs.size = 4) (hrow : W.heap[cb]? = some (.cells cs 114 (0, 0))) :
    (results Try.f83 tmps).run Try.prog W = .ok (.tuple #[.agg cs, u]) W := by
  refine (results_cell_tmp (p := 2) (u := 3) (ty := 114) (by kernel_rfl) tmps Try.prog W).trans ?_
  have hl : (loadVar 114 ⟨cb, 0, none⟩).run Try.prog W = .ok (.agg cs) W :=
    run_loadVar_row W cb _ 114 cs (0, 0) _ hrow Try.underlying114 rfl (by rw [hs]; kernel_rfl)
  rw [h2, h3]
  simp [asAddr, hl, Result.andThen]
theorem row_four {w : World} {g : Nat} {a b c d : Value} {t : TypeId} (h : w.heap[g]? = some (.cells #[a, b, c, d] t (0, 0))) (x y z u : Value) : ((((w.setCell ⟨g, 0, none⟩ x).setCell ⟨g, 1, none⟩ y).setCell ⟨g, 2, none⟩ z).setCell ⟨g, 3, none⟩ u).heap[g]? = some (.cells #[x, y, z, u] t (0, 0)) :=
  heap_setCell_same _ g 3 _ _ _ (heap_setCell_same _ g 2 _ _ _ (heap_setCell_same _ g 1 _ _ _ (heap_setCell_same w g 0 _ _ _ h)))
/-- What letters leaves. -/
def LtPost (w : World) (n : List UInt8) (e : Ending) (w' : World) : Prop :=
  ∃ k, e = .returned (.tuple #[.agg (Ck.row4 n k), .bool (Ck.named n)]) ∧ (Ck.named n = true → k = 4) ∧ Below w.heap.size w w'
set_option maxHeartbeats 1000000 in
theorem letters_any (n : List UInt8) (w : World) (hn : n.length ≤ 140737488355328) : Calls Try.prog 83 #[.string (str n)] w (LtPost w n) := by
  have hsz := str_size n
  have HS := Lib.hid hsz
  clear hsz
  go_enter Try.func83, Try.ntmps83
  go_wp2
  go_loopw [5, 6] (fun x y wr => ∃ k : Nat, k ≤ 4 ∧ k ≤ n.length ∧ Hid ((n.take k).all Ck.letter = true) ∧ Hid (wr.heap[w.heap.size]? = some (.cells (Ck.row4 n 0) 114 (0, 0))) ∧ Hid (wr.heap[w.heap.size + 1]? = some (.cells (Ck.row4 n k) 114 (0, 0))) ∧ Hid (wr.heap[w.heap.size + 2]? = some (.stringIter (str n) k)) ∧ Hid (Below w.heap.size w wr)) (fun _ _ wr => n.length - wr.iterPos (w.heap.size + 2))
  case atStart =>
    obtain ⟨e0, e1, e2⟩ := heap_alloc3 w (.cells (Ck.row4 n 0) 114) (.cells (Ck.row4 n 0) 114) (.stringIter (str n) 0)
    exact ⟨0, by omega, by omega, Lib.hid rfl, Lib.hid e0, Lib.hid e1, Lib.hid e2, Lib.hid ((below_alloc2 w _ _).alloc (by simp; omega) _)⟩
  case round =>
    obtain ⟨k, hk4, hkn, HA, HR, HO, HI, HB⟩ := hrel
    have hz2 := (Array.getElem?_eq_some_iff.1 HI.out).1
    by_cases hp : k < n.length
    · have hps : k < (str n).size := by rw [HS.out]; exact hp
      have hr' : (wr.iterAt (w.heap.size + 2) (str n) (k + (Utf8.decode (str n) k).2)).heap[w.heap.size]? = some (.cells (Ck.row4 n 0) 114 (0, 0)) := by rw [Lib.iterAt_other _ _ _ _ _ (by omega)]; exact HR.out
      have ho' : (wr.iterAt (w.heap.size + 2) (str n) (k + (Utf8.decode (str n) k).2)).heap[w.heap.size + 1]? = some (.cells (Ck.row4 n k) 114 (0, 0)) := by rw [Lib.iterAt_other _ _ _ _ _ (by omega)]; exact HO.out
      have hi' : (wr.iterAt (w.heap.size + 2) (str n) (k + (Utf8.decode (str n) k).2)).heap[w.heap.size + 2]? = some (.stringIter (str n) (k + (Utf8.decode (str n) k).2)) := Lib.iterAt_heap _ _ _ _ _ HI.out
      have hb' : Below w.heap.size w (wr.iterAt (w.heap.size + 2) (str n) (k + (Utf8.decode (str n) k).2)) := Lib.below_iterAt HB.out (by omega) _ _
      have hnx : ∀ ty, (Instr.next (.pointer (some ⟨w.heap.size + 2, 0, none⟩)) true ty).run Try.prog wr = _ := fun ty => Lib.run_next_any_at wr (w.heap.size + 2) (str n) k ty HI.out hps
      have hdec : (gb n k < 128 ∧ Utf8.decode (str n) k = (gb n k, 1)) ∨ (128 ≤ gb n k ∧ 128 ≤ (Utf8.decode (str n) k).1 ∧ 1 ≤ (Utf8.decode (str n) k).2) := by
        by_cases ha : gb n k < 128
        · exact .inl ⟨ha, by rw [decode_ascii (str n) k hps (by rw [str_get]; exact ha), str_get]⟩
        · have := decode_high (str n) k hps (by rw [str_get]; omega)
          exact .inr ⟨by omega, this⟩
      have hsm : Ck.small (n.getD k 0) = decide (97 ≤ gb n k ∧ gb n k ≤ 122) := rfl
      have hup : Ck.upper (n.getD k 0) = decide (65 ≤ gb n k ∧ gb n k ≤ 90) := rfl
      have hlt := Ck.all_take_succ n k hp HA.out
      have hno := Ck.named_not n k hp
      have hlg := fun (h : k = 4) => Ck.named_long n (by omega)
      have hsuc : (Utf8.decode (str n) k).2 = 1 → k + (Utf8.decode (str n) k).2 = k + 1 := fun e => by rw [e]
      generalize (wr.iterAt (w.heap.size + 2) (str n) (k + (Utf8.decode (str n) k).2)) = wn at *
      generalize Utf8.decode (str n) k = dc at *
      obtain ⟨rn, wd⟩ := dc
      simp only at *
      have hgb := gb_lt n k
      have HDEC := Lib.hid hdec
      have HLT := Lib.hid hlt
      have HNO := Lib.hid hno
      have HLG := Lib.hid hlg
      have HSM := Lib.hid hsm
      have HUP := Lib.hid hup
      have HSU := Lib.hid hsuc
      have HI' := Lib.hid hi'
      have HO' := Lib.hid ho'
      have HR' := Lib.hid hr'
      have HB' := Lib.hid hb'
      clear hdec hlt hno hlg hsm hup hsuc hi' ho' hr' hb' HA HR HO HB
      have fin : Ck.named n = false → ∀ (u5 u6 : Value), True := fun _ _ _ => trivial
      clear fin
      by_cases hgood : k < 4 ∧ Ck.letter (n.getD k 0) = true
      · obtain ⟨hk4', hlet⟩ := hgood
        have hasc : rn = gb n k ∧ wd = 1 := by
          rcases HDEC.out with ⟨_, h⟩ | ⟨h, _⟩
          · simpa using h
          · exfalso
            unfold Ck.letter at hlet
            rw [HSM.out, HUP.out] at hlet
            simp at hlet
            omega
        obtain ⟨rfl, rfl⟩ := hasc
        have HLET := Lib.hid hlet
        have d4 : decide (4 ≤ (k : Int)) = false := by simp; omega
        have e1 : wn.cell? ⟨w.heap.size + 1, k, none⟩ = (Ck.row4 n k)[k]? := cell_of_row wn _ _ _ _ (0, 0) HO'.out
        obtain ⟨x0, hx0⟩ := Ck.row4_get n k hk4'
        rw [hx0] at e1
        have f1 := frozen_of_row wn (w.heap.size + 1) k _ _ HO'.out
        clear hx0 hlet
        by_cases hs : Ck.small (n.getD k 0) = true
        · have dl : decide (97 ≤ (gb n k : Int) ∧ (gb n k : Int) ≤ 122) = true := by rw [HSM.out] at hs; simp at hs ⊢; omega
          clear hs
          have HDL := Lib.hid dl
          clear dl
          generalize hg : gb n k = z at *
          have HG := Lib.hid hg
          clear hg
          go_wp2_with (go_at_call 84; refine (lower_any _ _).mono ?_; rintro e w' ⟨rfl, rfl⟩; rw [HDL.out])
          go_roundw
          case rel => exact ⟨k + 1, by omega, by omega, Lib.hid (HLT.out HLET.out), Lib.hid (by rw [heap_setCell_other _ _ _ _ (by simp)]; exact HR'.out), Lib.hid (by rw [heap_setCell_same wn _ k _ _ _ HO'.out, ← HG.out, Ck.row4_set n k hk4']), Lib.hid (by rw [heap_setCell_other _ _ _ _ (by simp)]; exact HI'.out), Lib.hid (HB'.out.setCell (p := ⟨w.heap.size + 1, k, none⟩) (by simp) _)⟩
          case measure =>
            rw [iterPos_of HI.out, iterPos_of (show (wn.setCell ⟨w.heap.size + 1, k, none⟩ _).heap[w.heap.size + 2]? = _ from (by rw [heap_setCell_other _ _ _ _ (by simp)]; exact HI'.out))]
            omega
        · have dl : decide (97 ≤ (gb n k : Int) ∧ (gb n k : Int) ≤ 122) = false := by rw [HSM.out] at hs; simp at hs ⊢; omega
          have du : decide (65 ≤ (gb n k : Int) ∧ (gb n k : Int) ≤ 90) = true := by
            have h := HLET.out
            unfold Ck.letter at h
            rw [HSM.out] at hs
            rw [HSM.out, HUP.out] at h
            simp at h hs ⊢; omega
          clear hs
          have HDL := Lib.hid dl
          have HDU := Lib.hid du
          clear dl du
          generalize hg : gb n k = z at *
          have HG := Lib.hid hg
          clear hg
          go_wp2_with (first | (go_at_call 84; refine (lower_any _ _).mono ?_; rintro e w' ⟨rfl, rfl⟩; rw [HDL.out]) | (go_at_call 90; refine (upper_any _ _).mono ?_; rintro e w' ⟨rfl, rfl⟩; rw [HDU.out]))
          go_roundw
          case rel => exact ⟨k + 1, by omega, by omega, Lib.hid (HLT.out HLET.out), Lib.hid (by rw [heap_setCell_other _ _ _ _ (by simp)]; exact HR'.out), Lib.hid (by rw [heap_setCell_same wn _ k _ _ _ HO'.out, ← HG.out, Ck.row4_set n k hk4']), Lib.hid (by rw [heap_setCell_other _ _ _ _ (by simp)]; exact HI'.out), Lib.hid (HB'.out.setCell (p := ⟨w.heap.size + 1, k, none⟩) (by simp) _)⟩
          case measure =>
            rw [iterPos_of HI.out, iterPos_of (show (wn.setCell ⟨w.heap.size + 1, k, none⟩ _).heap[w.heap.size + 2]? = _ from (by rw [heap_setCell_other _ _ _ _ (by simp)]; exact HI'.out))]
            omega
      · have HN : Hid (Ck.named n = false) := Lib.hid (by
          by_cases hk : k < 4
          · exact HNO.out (by cases h : Ck.letter (n.getD k 0) with | false => rfl | true => exact absurd ⟨hk, h⟩ hgood)
          · exact HLG.out (by omega))
        have c0 : wn.cell? ⟨w.heap.size, 0, none⟩ = some (.int .i32 0) := by rw [cell_of_row wn _ _ _ _ (0, 0) HR'.out]; rfl
        have c1 : wn.cell? ⟨w.heap.size, 1, none⟩ = some (.int .i32 0) := by rw [cell_of_row wn _ _ _ _ (0, 0) HR'.out]; rfl
        have c2 : wn.cell? ⟨w.heap.size, 2, none⟩ = some (.int .i32 0) := by rw [cell_of_row wn _ _ _ _ (0, 0) HR'.out]; rfl
        have c3 : wn.cell? ⟨w.heap.size, 3, none⟩ = some (.int .i32 0) := by rw [cell_of_row wn _ _ _ _ (0, 0) HR'.out]; rfl
        have f0 := frozen_of_row wn w.heap.size 0 _ _ HR'.out
        have f1 := frozen_of_row wn w.heap.size 1 _ _ HR'.out
        have f2 := frozen_of_row wn w.heap.size 2 _ _ HR'.out
        have f3 := frozen_of_row wn w.heap.size 3 _ _ HR'.out
        have HX : Hid (((((wn.setCell ⟨w.heap.size, 0, none⟩ (.int .i32 0)).setCell ⟨w.heap.size, 1, none⟩ (.int .i32 0)).setCell ⟨w.heap.size, 2, none⟩ (.int .i32 0)).setCell ⟨w.heap.size, 3, none⟩ (.int .i32 0)).heap[w.heap.size]? = some (.cells (Ck.row4 n 0) 114 (0, 0))) := Lib.hid (row_four HR'.out _ _ _ _)
        have HBX : Hid (Below w.heap.size w ((((wn.setCell ⟨w.heap.size, 0, none⟩ (.int .i32 0)).setCell ⟨w.heap.size, 1, none⟩ (.int .i32 0)).setCell ⟨w.heap.size, 2, none⟩ (.int .i32 0)).setCell ⟨w.heap.size, 3, none⟩ (.int .i32 0))) := Lib.hid ((((HB'.out.setCell (p := ⟨w.heap.size, 0, none⟩) (by simp) _).setCell (p := ⟨w.heap.size, 1, none⟩) (by simp) _).setCell (p := ⟨w.heap.size, 2, none⟩) (by simp) _).setCell (p := ⟨w.heap.size, 3, none⟩) (by simp) _)
        by_cases hk : k < 4
        · have hlf : Ck.letter (n.getD k 0) = false := by cases h : Ck.letter (n.getD k 0) with | false => rfl | true => exact absurd ⟨hk, h⟩ hgood
          have d4 : decide (4 ≤ (k : Int)) = false := by simp; omega
          have hboth : decide (97 ≤ (rn : Int) ∧ (rn : Int) ≤ 122) = false ∧ decide (65 ≤ (rn : Int) ∧ (rn : Int) ≤ 90) = false := by
            rcases HDEC.out with ⟨_, h⟩ | ⟨_, h, _⟩
            · simp only [Prod.mk.injEq] at h
              unfold Ck.letter at hlf
              rw [HSM.out, HUP.out] at hlf
              simp at hlf ⊢
              omega
            · simp; omega
          have HDL := Lib.hid hboth.1
          have HDU := Lib.hid hboth.2
          clear hboth hlf hgood
          go_wp2_with (first | (go_at_call 84; refine (lower_any _ _).mono ?_; rintro e w' ⟨rfl, rfl⟩; rw [HDL.out]) | (go_at_call 90; refine (upper_any _ _).mono ?_; rintro e w' ⟨rfl, rfl⟩; rw [HDU.out]))
          refine bodyPost_ret (letters_results _ _ _ _ _ rfl rfl rfl HX.out) rfl ⟨0, by rw [HN.out]; rfl, fun h => ?_, HBX.out⟩
          rw [HN.out] at h; cases h
        · have d4 : decide (4 ≤ (k : Int)) = true := by simp; omega
          clear hgood
          go_wp2_with (fail)
          refine bodyPost_ret (letters_results _ _ _ _ _ rfl rfl rfl HX.out) rfl ⟨0, by rw [HN.out]; rfl, fun h => ?_, HBX.out⟩
          rw [HN.out] at h; cases h
    · have hps : ¬ k < (str n).size := by rw [HS.out]; exact hp
      have hnx : ∀ ty, (Instr.next (.pointer (some ⟨w.heap.size + 2, 0, none⟩)) true ty).run Try.prog wr = _ := fun ty => Lib.run_next_end_at wr (w.heap.size + 2) (str n) k ty HI.out hps
      have hkn' : n.length = k := by omega
      have HN : Hid (Ck.named n = (n.length == 4)) := Lib.hid (Ck.named_of n (by rw [hkn']; exact HA.out))
      have HK := Lib.hid hkn'
      have HL4 : Hid (((((str n).size : Nat) : Int) == 4) = (n.length == 4)) := Lib.hid (by rw [HS.out]; apply Bool.eq_iff_iff.2; simp only [beq_iff_eq]; omega)
      have c0 : wr.cell? ⟨w.heap.size, 0, none⟩ = some (.int .i32 0) := by rw [cell_of_row wr _ _ _ _ (0, 0) HR.out]; rfl
      have c1 : wr.cell? ⟨w.heap.size, 1, none⟩ = some (.int .i32 0) := by rw [cell_of_row wr _ _ _ _ (0, 0) HR.out]; rfl
      have c2 : wr.cell? ⟨w.heap.size, 2, none⟩ = some (.int .i32 0) := by rw [cell_of_row wr _ _ _ _ (0, 0) HR.out]; rfl
      have c3 : wr.cell? ⟨w.heap.size, 3, none⟩ = some (.int .i32 0) := by rw [cell_of_row wr _ _ _ _ (0, 0) HR.out]; rfl
      have f0 := frozen_of_row wr w.heap.size 0 _ _ HR.out
      have f1 := frozen_of_row wr w.heap.size 1 _ _ HR.out
      have f2 := frozen_of_row wr w.heap.size 2 _ _ HR.out
      have f3 := frozen_of_row wr w.heap.size 3 _ _ HR.out
      have g0 : wr.cell? ⟨w.heap.size + 1, 0, none⟩ = some (.int .i32 (Ck.at4 n k 0)) := by rw [cell_of_row wr _ _ _ _ (0, 0) HO.out]; rfl
      have g1 : wr.cell? ⟨w.heap.size + 1, 1, none⟩ = some (.int .i32 (Ck.at4 n k 1)) := by rw [cell_of_row wr _ _ _ _ (0, 0) HO.out]; rfl
      have g2 : wr.cell? ⟨w.heap.size + 1, 2, none⟩ = some (.int .i32 (Ck.at4 n k 2)) := by rw [cell_of_row wr _ _ _ _ (0, 0) HO.out]; rfl
      have g3 : wr.cell? ⟨w.heap.size + 1, 3, none⟩ = some (.int .i32 (Ck.at4 n k 3)) := by rw [cell_of_row wr _ _ _ _ (0, 0) HO.out]; rfl
      clear hkn' hp hps
      go_wp2_with (fail)
      refine bodyPost_ret (letters_results _ _ _ (Ck.row4 n k) _ rfl rfl rfl (row_four HR.out _ _ _ _)) rfl ⟨k, by rw [HN.out, ← HL4.out]; rfl, fun h => ?_, ((((HB.out.setCell (p := ⟨w.heap.size, 0, none⟩) (by simp) _).setCell (p := ⟨w.heap.size, 1, none⟩) (by simp) _).setCell (p := ⟨w.heap.size, 2, none⟩) (by simp) _).setCell (p := ⟨w.heap.size, 3, none⟩) (by simp) _)⟩
      rw [HN.out] at h
      have := HK.out
      simp at h; omega
theorem named_any (n : List UInt8) (w : World) (hn : n.length ≤ 140737488355328) : Calls Try.prog 79 #[.string (str n)] w fun e w' => e = .returned (.bool (Ck.named n)) ∧ Below w.heap.size w w' := by
  go_enter Try.func79, Try.ntmps79
  go_wp2_with fail
  refine (letters_any n w hn).mono ?_
  rintro e w1 ⟨k, rfl, hk, hb⟩
  unfold Ck.row4
  generalize Ck.at4 n k 0 = x0 at *
  generalize Ck.at4 n k 1 = x1 at *
  generalize Ck.at4 n k 2 = x2 at *
  generalize Ck.at4 n k 3 = x3 at *
  go_wp2
  go_ret
  exact ⟨rfl, below_then hb (below_alloc _ _)⟩
theorem crit_any (n : List UInt8) (w : World) (hn : n.length ≤ 140737488355328) : Calls Try.prog 62 #[.string (str n)] w fun e w' => e = .returned (.bool (Ck.named n && !Ck.small (n.getD 0 0))) ∧ Below w.heap.size w w' := by
  obtain ⟨sb, hsb⟩ : ∃ sb, Ck.small (n.getD 0 0) = sb := ⟨_, rfl⟩
  rw [hsb]
  have HSB := Lib.hid hsb
  clear hsb
  go_enter Try.func62, Try.ntmps62
  go_wp2_with fail
  refine (letters_any n w hn).mono ?_
  rintro e w1 ⟨k, rfl, hk, hb⟩
  have hx0 : Ck.named n = true → decide (97 ≤ Ck.at4 n k 0 ∧ Ck.at4 n k 0 ≤ 122) = sb := fun h => by
    rw [hk h, ← HSB.out]
    unfold Ck.small Ck.at4 gb
    apply Bool.eq_iff_iff.2
    simp
    omega
  have HX := Lib.hid hx0
  clear hx0 hk
  unfold Ck.row4
  generalize Ck.at4 n k 0 = x0 at *
  generalize Ck.at4 n k 1 = x1 at *
  generalize Ck.at4 n k 2 = x2 at *
  generalize Ck.at4 n k 3 = x3 at *
  cases hnm : Ck.named n with
  | false =>
    have HN := Lib.hid hnm
    clear hnm
    go_wp2
    go_ret
    exact ⟨by rw [HN.out]; rfl, below_then hb (below_alloc _ _)⟩
  | true =>
    have HN := Lib.hid hnm
    clear hnm
    go_wp2_with (go_at_call 84; refine (lower_any _ _).mono ?_; rintro e w' ⟨rfl, rfl⟩; rw [HX.out HN.out])
    go_ret
    exact ⟨by rw [HN.out]; rfl, below_then hb (below_alloc _ _)⟩
end Go.Proofs.Ytbgaaocgdjkkeaa
end
