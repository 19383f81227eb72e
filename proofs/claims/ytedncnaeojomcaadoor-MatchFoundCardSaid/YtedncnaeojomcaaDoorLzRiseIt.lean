/- Finder.rising as an iterator. -/
import Derived.Test.YtedncnaeojomcaaDoorLzRise
import Derived.Test.YtedncnaeojomcaaDoorLzLen
import Derived.Test.YtedncnaeojomcaaDoorIterA
namespace Go.Proofs.YtedncnaeojomcaaDoor
open Go.RowKit Go.Shelf
def tokO (q : Nat × Nat) : Obj := .cells #[.int .i64 (q.1 : Nat), .int .i64 (q.2 : Nat)] 33 (0, 0)
theorem grown_of_below {W W' : World} (h : Below W.heap.size W W') : W.grownBy W' none := ⟨h.os, h.tape, h.output, h.size, fun k hk _ => h.block k hk⟩
theorem fd_len {w w' : World} {gf eb base N t : Nat} {l : List UInt8} {v : Value} {Rs : List (List (Nat × Nat))} (h : Fd w gf eb base N l t v Rs) (hb : Below w.heap.size w w') :
    Calls Tryd.prog 17 #[.pointer (some ⟨gf, 0, none⟩)] w' fun e w'' => e = .returned (.int .i64 (N : Nat)) ∧ w' = w'' := len_any (h.below hb)
/-- What rising hands over, at any place of a text that isn't too long. -/
theorem rise_iter (n : Nat) (hd : 1 ≤ n) (A B gf eb base N : Nat) (at' : Int) (l : List UInt8) (v : Value) (Rs : List (List (Nat × Nat))) (U : Nat → Prop)
    (w : World) (hA : Boxed w A 3 (.int .i64 at')) (hB : Boxed w B 25 (.pointer (some ⟨gf, 0, none⟩))) (hfd : Fd w gf eb base N l N v Rs) (hN : N ≤ 1048576)
    (nv : ∀ b, v.ownBlock = some b → ¬ U b) (hU : ∀ k, U k → k < w.heap.size) :
    IterN Fence.wide n Tryd.prog 57 #[.pointer (some ⟨A, 0, none⟩), .pointer (some ⟨B, 0, none⟩)] rEnc (Bk.Kc U) (fun xs => xs = ra Rs at') (fun pre => ∃ s, ra Rs at' = pre ++ s) (fun pre x => ∃ s, ra Rs at' = pre ++ x :: s) w := fun y J Jx V hV hJ hJx h0 hY => by
  have hA' : Boxed V A 3 (.int .i64 at') := (hV.block A hA.lt).trans hA
  have hB' : Boxed V B 25 (.pointer (some ⟨gf, 0, none⟩)) := (hV.block B hB.lt).trans hB
  have hfd' := hfd.below hV
  by_cases hin : 0 ≤ at' ∧ at' < (N : Int)
  · obtain ⟨t, rfl⟩ : ∃ t : Nat, at' = (t : Int) := ⟨at'.toNat, by omega⟩
    rw [ra_in] at hY ⊢
    exact rise_in n hd y A B gf eb base N t l v Rs U J Jx V.heap.size hY V hA' hB' hfd' hN (by omega) (fun w' hb => fd_len hfd' hb) nv h0 (fun k hk => Nat.lt_of_lt_of_le (hU k hk) hV.size)
      (fun xs X Y h1 h2 => hJ xs X Y none h1 h2 (fun r e => by cases e))
  · rw [ra_out hfd.recs (p := at') (by omega)]
    refine (rise_out n hd y A B _ N at' V hA'.cell hB'.cell (fun w' hb => fd_len hfd' hb) (.inr ⟨gf, rfl⟩) (by omega)).mono ?_
    rintro e W' ⟨he, hb⟩
    exact ⟨he, .inl ⟨[], rfl, hJ [] V W' none h0 (grown_of_below hb) (fun r e => by cases e)⟩⟩
/-- A nil finder's. -/
theorem rise_iter_nil (n : Nat) (hd : 1 ≤ n) (A B : Nat) (at' : Int) (Kp : World → World → Prop) (Sp : List (Nat × Nat) → Prop) (Nx : List (Nat × Nat) → Nat × Nat → Prop)
    (w : World) (hA : Boxed w A 3 (.int .i64 at')) (hB : Boxed w B 25 (.pointer none)) :
    IterN Fence.wide n Tryd.prog 57 #[.pointer (some ⟨A, 0, none⟩), .pointer (some ⟨B, 0, none⟩)] rEnc Kp (fun xs => xs = []) Sp Nx w := fun y J Jx V hV hJ hJx h0 _ => by
  have hA' : Boxed V A 3 (.int .i64 at') := (hV.block A hA.lt).trans hA
  have hB' : Boxed V B 25 (.pointer none) := (hV.block B hB.lt).trans hB
  refine (rise_out n hd y A B _ 0 at' V hA'.cell hB'.cell (fun w' _ => len_nil w') (.inl rfl) (by omega)).mono ?_
  rintro e W' ⟨he, hb⟩
  exact ⟨he, .inl ⟨[], rfl, hJ [] V W' none h0 (grown_of_below hb) (fun r e => by cases e)⟩⟩
end Go.Proofs.YtedncnaeojomcaaDoor
