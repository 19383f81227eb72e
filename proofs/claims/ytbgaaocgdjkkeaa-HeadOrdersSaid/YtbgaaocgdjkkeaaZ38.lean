/- burnishref13.before, entries: their contracts. -/
import Derived.Test.YtbgaaocgdjkkeaaZ23
import Derived.Test.YtbgaaocgdjkkeaaZ37
set_option linter.unusedSimpArgs false
set_option linter.unusedVariables false
section
namespace Go.Proofs.Ytbgaaocgdjkkeaa
open Go.RowKit

namespace Hd
/-- How many of the first so many chunks have one of the names. -/
def bef (L : List Ck.C) (n : Nat) (cs : List (List UInt8)) : Nat := (L.take n).countP fun c => inP cs c.1
/-- How many entries the first palette among so many chunks has. -/
def entR : List Ck.C → Nat
  | [] => 0
  | c :: l => if c.1 = Nm.PL then c.2.length / 3 else entR l
theorem bef_succ (L : List Ck.C) (k : Nat) (hk : k < L.length) (cs : List (List UInt8)) : bef L (k + 1) cs = bef L k cs + if inP cs (Ck.nth L k).1 then 1 else 0 := by
  unfold bef
  rw [Ck.take_succ L k hk, List.countP_append, List.countP_cons, List.countP_nil]
  simp
theorem bef_le (L : List Ck.C) (n : Nat) (cs : List (List UInt8)) : bef L n cs ≤ n := by
  unfold bef
  have h := List.countP_le_length (p := fun c : Ck.C => inP cs c.1) (l := L.take n)
  have h2 : (L.take n).length ≤ n := by rw [List.length_take]; omega
  omega
theorem entR_none : ∀ (l : List Ck.C), (∀ c ∈ l, c.1 ≠ Nm.PL) → entR l = 0
  | [], _ => rfl
  | c :: l, h => by
    unfold entR
    rw [if_neg (h c List.mem_cons_self)]
    exact entR_none l (fun x hx => h x (List.mem_cons_of_mem _ hx))
theorem entR_app : ∀ (l m : List Ck.C), (∀ c ∈ l, c.1 ≠ Nm.PL) → entR (l ++ m) = entR m
  | [], _, _ => rfl
  | c :: l, m, h => by
    rw [List.cons_append]
    show (if c.1 = Nm.PL then _ else entR (l ++ m)) = _
    rw [if_neg (h c List.mem_cons_self)]
    exact entR_app l m (fun x hx => h x (List.mem_cons_of_mem _ hx))
set_option maxRecDepth 100000 in
set_option maxHeartbeats 2000000 in
theorem before_any (a : Option Addr) (len cap : Nat) (l : List Ckm) (n : Nat) (cs : List (List UInt8)) (w : World) (h : Cs w a len cap l) (hn : n ≤ len) (hlen : len ≤ 10000) (hc : ∀ c ∈ cs, c.length = 4) (hcl : cs.length ≤ 1000) :
    Calls Try.prog 43 #[.slice a len cap, .int .i64 (n : Nat), .string (str (cat4 cs))] w fun e w' => e = .returned (.int .i64 (bef (cps l) n cs : Nat)) ∧ w = w' := by
  have HL : Hid ((cps l).length = len) := Lib.hid (by rw [cps_length, h.hlen])
  have H := Lib.hid h
  have hle := h.hle
  have HIN := Lib.hid (fun nm => in_any nm cs hc hcl w)
  have HNM : Hid (∀ k, k < len → (Ck.nth (cps l) k).1 = (nck l k).n) := Lib.hid (fun k hk => by rw [cps_nth l k (by rw [h.hlen]; exact hk)]; rfl)
  clear h hc hcl
  generalize hLL : cps l = L at *
  clear hLL
  generalize str (cat4 cs) = nms at *
  go_enter Try.func43, Try.ntmps43
  go_wp2
  go_loop [7, 8] (fun v i => ∃ k c : Nat, k ≤ n ∧ i = .int .i64 (k : Nat) ∧ v = .int .i64 (c : Nat) ∧ Hid (c = bef L k cs)) (fun _ i => n - (intOf i).toNat)
  case atStart => exact ⟨0, 0, by omega, rfl, rfl, Lib.hid rfl⟩
  case round =>
    obtain ⟨k, c, hk, rfl, rfl, HC⟩ := hrel
    have hcb : c ≤ 10000 := by rw [HC.out]; have := bef_le L k cs; omega
    by_cases hlt : k < n
    · have hk2 : k < len := by omega
      obtain ⟨b, off, rfl, _, t0, _, _⟩ := H.out.at' k hk2
      have HS := Lib.hid (bef_succ L k (by rw [HL.out]; exact hk2) cs)
      have HIK := Lib.hid (HIN.out (nck l k).n)
      rw [HNM.out k hk2] at HS
      generalize (nck l k).n = nm at *
      generalize inP cs nm = bb at *
      cases bb with
      | true =>
        have HC2 : Hid (c + 1 = bef L (k + 1) cs) := Lib.hid (by rw [HS.out, HC.out]; rfl)
        clear HS HC
        go_wp2_with fail
        refine HIK.out.mono ?_
        rintro e w' ⟨rfl, rfl⟩
        go_wp2
        go_round
        case rel => exact ⟨k + 1, c + 1, by omega, by go_num, by go_num, HC2⟩
        case measure => simp [intOf]; omega
      | false =>
        have HC2 : Hid (c = bef L (k + 1) cs) := Lib.hid (by rw [HS.out, HC.out]; rfl)
        clear HS HC
        go_wp2_with fail
        refine HIK.out.mono ?_
        rintro e w' ⟨rfl, rfl⟩
        go_wp2
        go_round
        case rel => exact ⟨k + 1, c, by omega, by go_num, rfl, HC2⟩
        case measure => simp [intOf]; omega
    · obtain rfl : k = n := by omega
      go_wp2
      go_ret
      exact ⟨ret_int (by rw [← HC.out]), rfl⟩
set_option maxRecDepth 100000 in
set_option maxHeartbeats 2000000 in
theorem entries_any (a : Option Addr) (len cap : Nat) (l : List Ckm) (n : Nat) (w : World) (h : Cs w a len cap l) (hn : n ≤ len) (hlen : len ≤ 10000) :
    Calls Try.prog 71 #[.slice a len cap, .int .i64 (n : Nat)] w fun e w' => e = .returned (.int .i64 (entR ((cps l).take n) : Nat)) ∧ w = w' := by
  have HL : Hid ((cps l).length = len) := Lib.hid (by rw [cps_length, h.hlen])
  have H := Lib.hid h
  have hle := h.hle
  have HNM : Hid (∀ k, k < len → Ck.nth (cps l) k = ((nck l k).n, (nck l k).s.l)) := Lib.hid (fun k hk => by rw [cps_nth l k (by rw [h.hlen]; exact hk)]; rfl)
  have HDL : Hid (∀ k, k < len → (nck l k).s.l.length = (nck l k).s.len ∧ (nck l k).s.len ≤ 281474976710656) := Lib.hid (fun k hk => by
    have := h.data (nck_mem l k (by rw [h.hlen]; exact hk))
    exact ⟨this.hlen, this.hcap⟩)
  clear h
  generalize hLL : cps l = L at *
  clear hLL
  go_enter Try.func71, Try.ntmps71
  go_wp2
  go_loop [5] (fun i => ∃ k : Nat, k ≤ n ∧ i = .int .i64 (k : Nat) ∧ Hid (∀ c ∈ L.take k, c.1 ≠ Nm.PL)) (fun i => n - (intOf i).toNat)
  case atStart => exact ⟨0, by omega, rfl, Lib.hid (fun c hc => by simp at hc)⟩
  case round =>
    obtain ⟨k, hk, rfl, HA⟩ := hrel
    by_cases hlt : k < n
    · have hk2 : k < len := by omega
      obtain ⟨b, off, rfl, _, t0, t1, _⟩ := H.out.at' k hk2
      have hts := Ck.take_succ L k (by rw [HL.out]; exact hk2)
      rw [HNM.out k hk2] at hts
      have hdl := HDL.out k hk2
      have HTS := Lib.hid hts
      have HTN : Hid (L.take n = L.take (k + 1) ++ (L.drop (k + 1)).take (n - (k + 1))) := Lib.hid (by rw [← List.take_add]; congr 1; omega)
      unfold Sl.val at t1
      generalize (nck l k).n = nm at *
      generalize (nck l k).s = sl at *
      obtain ⟨sa, sn, sc, sd⟩ := sl
      simp only at t1 hdl HTS
      have HDD := Lib.hid hdl
      clear hts hdl
      by_cases hp : nm = Nm.PL
      · have e1 : ((str nm).toList == [80, 76, 84, 69]) = true := str_is nm _ true (by rw [hp]; decide)
        have HR : Hid (entR (L.take n) = sn / 3) := Lib.hid (by
          rw [HTN.out, HTS.out, List.append_assoc, entR_app _ _ HA.out]
          show (if nm = Nm.PL then sd.length / 3 else _) = _
          rw [if_pos hp, HDD.out.1])
        have HQ : Hid (((sn / 3 : Nat) : Int) = (sn : Int) / 3) := Lib.hid (by omega)
        have hsn := HDD.out.2
        clear hp HA HTS HTN
        go_wp2
        go_ret
        exact ⟨ret_int (by rw [HR.out, HQ.out]), rfl⟩
      · have e1 : ((str nm).toList == [80, 76, 84, 69]) = false := str_is nm _ false (by simpa [Nm.PL] using hp)
        have HN : Hid (∀ c ∈ L.take (k + 1), c.1 ≠ Nm.PL) := Lib.hid (fun c hc => by
          rw [HTS.out] at hc
          rcases List.mem_append.1 hc with h | h
          · exact HA.out c h
          · simp at h
            rw [h]; exact hp)
        clear hp HA HTS HTN
        go_wp2
        go_round
        case rel => exact ⟨k + 1, by omega, by go_num, HN⟩
        case measure => simp [intOf]; omega
    · obtain rfl : k = n := by omega
      have HR : Hid (entR (L.take k) = 0) := Lib.hid (entR_none _ HA.out)
      go_wp2
      go_ret
      exact ⟨ret_int (by rw [HR.out]; rfl), rfl⟩
end Hd
end Go.Proofs.Ytbgaaocgdjkkeaa
end
