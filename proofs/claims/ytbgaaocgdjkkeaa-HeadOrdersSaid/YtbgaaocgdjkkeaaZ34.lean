/- burnishref12.Good, Sign: their contracts; appends. -/
import Derived.Test.YtbgaaocgdjkkeaaZ32
import Derived.Test.YtbgaaocgdjkkeaaZ33
import Derived.ArgAppend
set_option linter.unusedSimpArgs false
set_option linter.unusedVariables false
section
namespace Go.Proofs.Ytbgaaocgdjkkeaa
open Go.RowKit

section
variable {P : Program} {w : World} {ops : Array Oper} {rest : List Oper} {o : Oper} {a : Act} {Q : Exit → Act → World → Prop}
variable {t e : TypeId} {z : Value} {by' : Nat}
/-- append to a slice of bytes whose spare room may be written. -/
theorem wpl_append_fr (R : RowTy P t e z 1 by') (hg : o.guard = none) (s x : Operand) (hop : o.op = Op.call { callee := Callee.builtin Builtin.append, args := #[s, x], argTypes := #[t, t] })
    {b n cap : Nat} {l d : List UInt8} (hbs : Bs w (some ⟨b, 0, none⟩) n cap l) (hblt : b < w.heap.size) (hsp : ∀ j, n ≤ j → j < cap → (w.cell? ⟨b, j, none⟩).isSome = true ∧ w.frozen? ⟨b, j, none⟩ = false) {ao : Option Addr} {m c : Nat} (hsrc : SrcRow w ao m c (bvs d) 1)
    (hs : a.eval s = .slice (some ⟨b, 0, none⟩) n cap) (hx : a.eval x = .slice ao m c) (h63 : n + m ≤ 281474976710656) (hbytes : (n + m) * by' ≤ 140737488355328)
    (hK : ∀ a' c' w', Bs w' a' (n + m) c' (l ++ d) → Ch w w' (fun k => k = b) → wpList P ops Q rest (a.put o.dst (.slice a' (n + m) c')) w') :
    wpList P ops Q (o :: rest) a w := by
  obtain ⟨i0, hi, hz0, hz1, hz2⟩ := info_parts R.info
  have hl := hbs.hlen
  have hle := hbs.hle
  have hd : d.length = m := by have := hsrc.hl; rw [bvs_length] at this; omega
  have fin : ∀ a' c' w', (Builtin.append_ #[t, t] o.type #[.slice (some ⟨b, 0, none⟩) n cap, .slice ao m c]).run P w = .ok (.slice a' (n + m) c') w' → Bs w' a' (n + m) c' (l ++ d) → Ch w w' (fun k => k = b) → wpList P ops Q (o :: rest) a w := by
    intro a' c' w' hrun h1 h2
    refine wpList_plain hg fun K hK' => ?_
    unfold Oper.wp
    simp [execOp, hop, resolve, invoke, builtin, hs, hx, hrun, Result.andThen]
    exact hK' _ _ (hK a' c' w' h1 h2)
  cases ao with
  | none =>
    obtain ⟨rfl, rfl⟩ := hsrc.hnone rfl
    obtain rfl : d = [] := List.eq_nil_of_length_eq_zero hd
    refine fin _ cap w ?_ (by rw [List.append_nil]; exact hbs) (Ch.refl _ _)
    simp [Builtin.append_, run_underlying R.ht, sizeOf, typeInfo, hi, Builtin.lenOf, Builtin.firstCells, hle, storeCells]
  | some ad =>
    by_cases hr : n + m ≤ cap
    · have h1 : ∀ j, j < (bvs d).length → (w.cell? ⟨b, 0 + n * i0.size + j, none⟩).isSome = true := fun j hj => by rw [bvs_length, hd] at hj; rw [hz1, Nat.mul_one, Nat.zero_add]; exact (hsp _ (by omega) (by omega)).1
      have h2 : ∀ j, j < (bvs d).length → w.frozen? ⟨b, 0 + n * i0.size + j, none⟩ = false := fun j hj => by rw [bvs_length, hd] at hj; rw [hz1, Nat.mul_one, Nat.zero_add]; exact (hsp _ (by omega) (by omega)).2
      have hrun := run_append_room_cells (P := P) w t o.type e i0 R.ht hi b 0 n cap ad m c (bvs d) (by rw [hz1]; exact hsrc.hl) (hsrc.hc ad rfl) hsrc.h1 hr h1 h2
      rw [hz1, Nat.mul_one, Nat.zero_add] at hrun
      have h1 : ∀ j, j < (bvs d).length → (w.cell? ⟨b, n + j, none⟩).isSome = true := fun j hj => by rw [bvs_length, hd] at hj; exact (hsp _ (by omega) (by omega)).1
      refine fin _ _ _ hrun ⟨by simp; omega, hr, by omega, hbs.hmax, fun h => by simp at h, fun i hi' => ⟨b, 0, rfl, ?_, ?_⟩⟩ ?_
      · have := (below_setCells (B := 0) (Nat.zero_le b) (bvs d) n w (Below.refl 0 w)).size
        omega
      · by_cases hin : i < n
        · rw [World.cell?_setCells_out b (bvs d) _ w ⟨b, 0 + i, none⟩ (fun _ _ => .inl (by show 0 + i < n; omega))]
          obtain ⟨b', off', e', _, hc⟩ := hbs.at' i hin
          simp only [Option.some.injEq, Addr.mk.injEq, and_true] at e'
          obtain ⟨rfl, rfl⟩ := e'
          rw [hc]
          simp [gb, List.getD, List.getElem?_append_left (show i < l.length by omega)]
        · obtain ⟨q, rfl⟩ : ∃ q, i = n + q := ⟨i - n, by omega⟩
          rw [Nat.zero_add, World.cell?_setCells_in b (bvs d) n w h1 q (by rw [bvs_length]; omega)]
          rw [← List.getElem?_eq_getElem, bvs_get d q (by omega)]
          simp [gb, List.getD, List.getElem?_append_right (show l.length ≤ n + q by omega), show n + q - l.length = q by omega]
      · have hgen : ∀ (vs : List Value) (k : Nat) (w1 : World), Ch w w1 (fun j => j = b) → Ch w (w1.setCells b k vs) (fun j => j = b) := by
          intro vs
          induction vs with
          | nil => intro k w1 h; exact h
          | cons u r ih => intro k w1 h; exact ih (k + 1) _ (h.set (p := ⟨b, k, none⟩) (.inl rfl) u)
        exact hgen _ _ _ (Ch.refl _ _)
    · obtain ⟨v', w', hrun, r1, r2⟩ := run_append_arg_grows (P := P) w t o.type e i0 z 1 by' R.ht hi hz0 hz1 hz2 R.hzs R.hsz ⟨b, 0, none⟩ n cap (bvs l) (by rw [bvs_length]; omega) (fun j u hu => hbs.news _ rfl j u hu) ad m c (bvs d) hsrc.hl (hsrc.hc ad rfl) (by omega) (by unfold maxLen; omega) hbytes
      rw [← bvs_append] at r1
      have hb1 : Bs w' (match v' with | .slice a _ _ => a | _ => none) (n + m) (match v' with | .slice _ _ c => c | _ => 0) (l ++ d) ∧ v' = .slice (match v' with | .slice a _ _ => a | _ => none) (n + m) (match v' with | .slice _ _ c => c | _ => 0) := by
        obtain ⟨a', c', rfl, h⟩ := own_bs r1 h63
        exact ⟨h, rfl⟩
      obtain ⟨h1, h2⟩ := hb1
      rw [h2] at hrun
      exact fin _ _ w' hrun h1 ⟨r2.os, r2.tape, r2.output, r2.size, fun i hi _ => r2.block i hi (by simp)⟩
end
/-- []byte of a text: a new row that reads as it, with room that may be written. -/
theorem conv_string2 {P : Program} (w : World) (src dst e : TypeId) (l : List UInt8) (hs : P.underlying src = some .string) (hd : P.underlying dst = some (.slice e)) (he : P.underlying e = some (.int .u8)) (hl : l.length ≤ 140737488355328) :
    ∃ b c w', (convert src dst (.string (str l))).run P w = .ok (.slice (some ⟨b, 0, none⟩) l.length c) w' ∧ Bs w' (some ⟨b, 0, none⟩) l.length c l ∧ w.heap.size ≤ b ∧ b < w'.heap.size ∧ Below w.heap.size w w' ∧ ∀ j, l.length ≤ j → j < c → (w'.cell? ⟨b, j, none⟩).isSome = true ∧ w'.frozen? ⟨b, j, none⟩ = false := by
  have h := run_bytes_of_string (P := P) w src dst e (str l) hs hd he
  rw [str_size] at h
  have h1 := grownCap_ge w l.length 0 e
  have h2 := grownCap_le_maxLen w l.length 0 e (by unfold maxLen; omega)
  unfold maxLen at h2
  refine ⟨_, _, _, h, bs_string w l e _ _ hl h1 (by omega), Nat.le_refl _, by simp, ?_, fun j hj1 hj2 => ?_⟩
  · exact ((Below.refl _ _).drew).alloc (by exact Nat.le_refl _) _
  · generalize grownCap w l.length 0 e = c at *
    have h3 : (str l).data.size = l.length := by simp [str]
    have hsz : (bytesRow (str l) c).size = c := by simp only [bytesRow, Array.size_append, Array.size_map, Array.size_replicate, h3, str_size]; omega
    have hrow := heap_alloc_last w.drew (.cells (bytesRow (str l) c) e ((bytesRow (str l) c).size, (bytesRow (str l) c).size + 1))
    have hcr := cell_of_row _ w.drew.heap.size j _ e _ hrow
    refine ⟨?_, ?_⟩
    · show ((w.drew.alloc _).cell? ⟨w.drew.heap.size, j, none⟩).isSome = true
      rw [hcr]
      simp [hsz, hj2]
    · show (w.drew.alloc _).frozen? ⟨w.drew.heap.size, j, none⟩ = false
      simp only [World.frozen?, hrow]
      simp
      omega
theorem refGood_any (a : Option Addr) (len cap : Nat) (l : List Ckm) (w : World) (h : Cs w a len cap l) (hr : len * 40 ≤ 140737488351232) (hd : ∀ c ∈ l, c.n.length ≤ 140737488351232 ∧ c.s.len ≤ 140737488351232) :
    Calls Try.prog 38 #[.slice a len cap] w fun e w' => e = .returned (.bool (Ck.good (cps l))) ∧ w = w' := by
  have hle := h.hle
  have HL := Lib.hid h.hlen
  have H := Lib.hid h
  have HD := Lib.hid hd
  clear h hd
  go_enter Try.func38, Try.ntmps38
  go_wp2
  go_loop [3, 4] (fun i _ => ∃ k : Nat, k ≤ len ∧ i = .int .i64 k ∧ Hid (∀ i, i < k → Ck.okAt (cps l) i = true)) (fun i _ => len - (intOf i).toNat)
  case atStart => exact ⟨0, by omega, rfl, Lib.hid (fun i hi => absurd hi (by omega))⟩
  case round =>
    obtain ⟨k, hk, rfl, HK⟩ := hrel
    by_cases hlt : k < len
    · have hkl : k < l.length := by rw [HL.out]; exact hlt
      obtain ⟨b, off, rfl, hb, c0, c1, hs⟩ := H.out.at' k hlt
      obtain ⟨hn1, hn2⟩ := HD.out _ (nck_mem l k hkl)
      have hsl := hs.hlen
      have hsle := hs.hle
      have hok : Ck.okAt (cps l) k = (Ck.named (nck l k).n && (((nck l k).n == Ck.iend) == decide (k + 1 = len)) && !(decide (k + 1 = len) && decide (0 < (nck l k).s.l.length))) := by
        unfold Ck.okAt; rw [cps_nth l k hkl, cps_length, HL.out]; rfl
      have HG := Lib.hid (Ck.good_not (cps l) k (by rw [cps_length]; exact hkl))
      obtain ⟨ok, hokd⟩ : ∃ ok, Ck.okAt (cps l) k = ok := ⟨_, rfl⟩
      rw [hokd] at hok HG
      have HOKD := Lib.hid (show Ck.okAt (cps l) k = ok from hokd)
      clear hokd
      generalize nck l k = c at *
      obtain ⟨nm, sa, sl, sc, sd⟩ := c
      simp only at *
      unfold Sl.val at c1
      simp only at c1
      rw [hsl] at hok
      have HNM := Lib.hid (refNamed_any nm w (by omega))
      have hend : ((str nm).toList == ([73, 69, 78, 68] : List UInt8)) = (nm == Ck.iend) := by rw [str_list]; rfl
      have hlast : ((k : Int) == (len : Int) - 1) = decide (k + 1 = len) := by apply Bool.eq_iff_iff.2; simp; omega
      have HOK := Lib.hid hok
      have HKN : ok = true → Hid (∀ i, i < k + 1 → Ck.okAt (cps l) i = true) := fun h => Lib.hid (fun i hi => by
        by_cases e : i = k
        · rw [e, HOKD.out, h]
        · exact HK.out i (by omega))
      have HKN := Lib.hid HKN
      clear hok hs hsl HK HOKD
      generalize Ck.named nm = b1 at *
      generalize (nm == Ck.iend) = b2 at *
      generalize decide (k + 1 = len) = b3 at *
      obtain ⟨b4, hpos⟩ : ∃ b, decide (0 < sl) = b := ⟨_, rfl⟩
      rw [hpos] at HOK
      cases b1 <;> cases b2 <;> cases b3 <;> cases b4
      all_goals
        go_wp2_with fail
        refine HNM.out.mono ?_
        rintro e w' ⟨rfl, rfl⟩
        go_wp2
        first
        | (go_ret; have hok := HOK.out; simp at hok; rw [HG.out hok]; exact ⟨rfl, rfl⟩)
        | (refine ⟨⟨k + 1, by omega, by go_num, HKN.out HOK.out⟩, ?_⟩
           simp [intOf]; omega)
        | fail
    · have hkl : len = k := by omega
      have HF : Hid (Ck.good (cps l) = decide (0 < (cps l).length)) := Lib.hid (Ck.good_of _ (fun i hi => HK.out i (by rw [cps_length, HL.out] at hi; omega)))
      have HL2 : Hid ((cps l).length = len) := Lib.hid (by rw [cps_length, HL.out])
      clear hkl
      obtain ⟨b4, hb4⟩ : ∃ b, decide (0 < len) = b := ⟨_, rfl⟩
      have H4 := Lib.hid hb4
      go_wp2
      go_ret
      exact ⟨by rw [HF.out, HL2.out, H4.out]; rfl, rfl⟩
end Go.Proofs.Ytbgaaocgdjkkeaa
end
