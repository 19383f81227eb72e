/- Readers of bits, put together: what a reader answers hangs on the bits alone that it takes, and where they end ahead of that it says so. A reader of bits in memory. (*Reader).Left: its contract. Package bits: the small functions' contracts. (*Reader).Take, Align: their contracts. Slices of numbers of the call's own. Small words on slices of numbers. What make lays. A slice of numbers behind changes elsewhere. (*reader).numbers: its contract. -/
import Derived.Test.YtfgpmccmalddjaaDoorZ7
import Derived.Test.YtfgpmccmalddjaaDoorProg
import Derived.Deep.QuietTactic
import Derived.BigQuiet
import Derived.Deep.LoopGhost
import Derived.Deep.DeepCutAuto
set_option linter.unusedSimpArgs false
set_option linter.unusedVariables false
section
namespace Go.Proofs.YtfgpmccmalddjaaDoor
namespace Ip
inductive Rs (α : Type) where
  | ok (a : α) (p : Nat)
  | err (n : Int)
/-- A reader: of all bits, from a place on. -/
abbrev Pr (α : Type) := List Bool → Nat → Rs α
def pure {α : Type} (a : α) : Pr α := fun _ p => .ok a p
def fail {α : Type} (n : Int) : Pr α := fun _ _ => .err n
def bind {α β : Type} (f : Pr α) (g : α → Pr β) : Pr β := fun u p => match f u p with
  | .ok a q => g a u q
  | .err n => .err n
/-- So many bits, the lowest first. -/
def take (c : Nat) : Pr Nat := fun u p => if p + c ≤ u.length then .ok (Bt.num false ((u.drop p).take c)) (p + c) else .err 8
/-- Up to the end of the byte. -/
def align : Pr Unit := fun _ p => .ok () ((p + 7) / 8 * 8)
structure Loc {α : Type} (f : Pr α) : Prop where
  le : ∀ u p a q, f u p = .ok a q → p ≤ u.length → 8 ∣ u.length → p ≤ q ∧ q ≤ u.length
  ext : ∀ u v p a q, f u p = .ok a q → p ≤ u.length → 8 ∣ u.length → 8 ∣ v.length → v.take q = u.take q → q ≤ v.length → f v p = .ok a q
  cut : ∀ u v p a q, f u p = .ok a q → p ≤ u.length → 8 ∣ u.length → 8 ∣ v.length → v = u.take v.length → p ≤ v.length → v.length < q → f v p = .err 8
theorem bind_ok {α β : Type} {f : Pr α} {g : α → Pr β} {u : List Bool} {q r : Nat} {a : α} (h : f u q = .ok a r) : bind f g u q = g a u r := by unfold bind; rw [h]
theorem bind_err {α β : Type} {f : Pr α} {g : α → Pr β} {u : List Bool} {q : Nat} {n : Int} (h : f u q = .err n) : bind f g u q = .err n := by unfold bind; rw [h]
theorem bind2_ok {α β γ : Type} {f : Pr α} {g : α → Pr β} {k : β → Pr γ} {u : List Bool} {q r : Nat} {a : α} (h : f u q = .ok a r) : bind (bind f g) k u q = bind (g a) k u r := by
  unfold bind; rw [h]
theorem bind2_err {α β γ : Type} {f : Pr α} {g : α → Pr β} {k : β → Pr γ} {u : List Bool} {q : Nat} {n : Int} (h : f u q = .err n) : bind (bind f g) k u q = .err n := by
  unfold bind; rw [h]
theorem loc_pure {α : Type} (a : α) : Loc (pure a) :=
  ⟨fun u p b q h hp _ => by cases h; exact ⟨Nat.le_refl _, hp⟩, fun u v p b q h _ _ _ _ _ => by cases h; rfl, fun u v p b q h _ _ _ _ h1 h2 => by cases h; omega⟩
theorem loc_fail {α : Type} (n : Int) : Loc (fail n : Pr α) :=
  ⟨(fun u p b q h => by cases h), (fun u v p b q h => by cases h), (fun u v p b q h => by cases h)⟩
theorem take_agree {u v : List Bool} {q r : Nat} (h : v.take q = u.take q) (hr : r ≤ q) : v.take r = u.take r := by
  have := congrArg (List.take r) h
  rwa [List.take_take, List.take_take, Nat.min_eq_left hr] at this
theorem loc_bind {α β : Type} {f : Pr α} {g : α → Pr β} (hf : Loc f) (hg : ∀ a, Loc (g a)) : Loc (bind f g) := by
  refine ⟨fun u p b q h hp hd => ?_, fun u v p b q h hp hd hv ha hl => ?_, fun u v p b q h hp hd hv he h1 h2 => ?_⟩
  · unfold bind at h
    cases hx : f u p with
    | err n => rw [hx] at h; cases h
    | ok a r =>
      rw [hx] at h
      obtain ⟨l1, l2⟩ := hf.le u p a r hx hp hd
      obtain ⟨l3, l4⟩ := (hg a).le u r b q h l2 hd
      exact ⟨by omega, l4⟩
  · unfold bind at h ⊢
    cases hx : f u p with
    | err n => rw [hx] at h; cases h
    | ok a r =>
      rw [hx] at h
      obtain ⟨l1, l2⟩ := hf.le u p a r hx hp hd
      obtain ⟨l3, l4⟩ := (hg a).le u r b q h l2 hd
      rw [hf.ext u v p a r hx hp hd hv (take_agree ha l3) (by omega)]
      exact (hg a).ext u v r b q h l2 hd hv ha hl
  · unfold bind at h ⊢
    cases hx : f u p with
    | err n => rw [hx] at h; cases h
    | ok a r =>
      rw [hx] at h
      obtain ⟨l1, l2⟩ := hf.le u p a r hx hp hd
      by_cases hm : v.length < r
      · rw [hf.cut u v p a r hx hp hd hv he h1 hm]
      · have ha : v.take r = u.take r := by rw [he, List.take_take, Nat.min_eq_left (by omega)]
        rw [hf.ext u v p a r hx hp hd hv ha (by omega)]
        exact (hg a).cut u v r b q h l2 hd hv he (by omega) h2
theorem drop_agree {u v : List Bool} {p c : Nat} (h : v.take (p + c) = u.take (p + c)) : (v.drop p).take c = (u.drop p).take c := by
  rw [List.take_drop, List.take_drop, h]
theorem loc_take (c : Nat) : Loc (take c) := by
  refine ⟨fun u p b q h hp hd => ?_, fun u v p b q h hp hd hv ha hl => ?_, fun u v p b q h hp hd hv he h1 h2 => ?_⟩
  · unfold take at h
    split at h
    · cases h; exact ⟨by omega, by assumption⟩
    · cases h
  · unfold take at h ⊢
    split at h
    · cases h
      rw [if_pos hl, drop_agree ha]
    · cases h
  · unfold take at h ⊢
    split at h
    · cases h
      rw [if_neg (by omega)]
    · cases h
theorem loc_align : Loc align := by
  refine ⟨fun u p b q h hp hd => ?_, fun u v p b q h hp hd hv ha hl => ?_, fun u v p b q h hp hd hv he h1 h2 => ?_⟩
  · cases h; omega
  · cases h; rfl
  · cases h; omega
theorem loc_ite {α : Type} (c : Prop) [Decidable c] {f g : Pr α} (hf : Loc f) (hg : Loc g) : Loc (if c then f else g) := by
  split
  · exact hf
  · exact hg
/-- A loop of at most so many rounds. -/
def next {σ ρ : Type} (k : σ → Pr ρ) : σ ⊕ ρ → Pr ρ
  | .inl s => k s
  | .inr r => pure r
def loop {σ ρ : Type} (step : σ → Pr (σ ⊕ ρ)) : Nat → σ → Pr ρ
  | 0, _ => fail 8
  | k + 1, s => bind (step s) (next (loop step k))
theorem loc_loop {σ ρ : Type} {step : σ → Pr (σ ⊕ ρ)} (h : ∀ s, Loc (step s)) : ∀ k s, Loc (loop step k s)
  | 0, _ => loc_fail 8
  | k + 1, s => loc_bind (h s) fun x => by
    cases x with
    | inl s' => exact loc_loop h k s'
    | inr r => exact loc_pure r
/-- Numbers, one for each count of bits. -/
def numbers : List Nat → Pr (List Nat)
  | [] => pure []
  | c :: cs => bind (take c) fun n => bind (numbers cs) fun ns => pure (n :: ns)
theorem loc_numbers : ∀ cs, Loc (numbers cs)
  | [] => loc_pure []
  | c :: cs => loc_bind (loc_take c) fun n => loc_bind (loc_numbers cs) fun ns => loc_pure (n :: ns)
theorem numbers_length : ∀ cs u p ns q, numbers cs u p = .ok ns q → ns.length = cs.length
  | [], u, p, ns, q, h => by cases h; rfl
  | c :: cs, u, p, ns, q, h => by
    unfold numbers at h
    unfold bind at h
    split at h
    · rename_i n r _
      change bind (numbers cs) (fun ns => pure (n :: ns)) u r = .ok ns q at h
      unfold bind at h
      split at h
      · rename_i ms r2 h1
        have := numbers_length cs _ _ _ _ h1
        cases h; simp [this]
      · cases h
    · cases h
theorem numbers_append : ∀ (xs ys : List Nat) (u : List Bool) (p : Nat), numbers (xs ++ ys) u p = bind (numbers xs) (fun a => bind (numbers ys) fun b => pure (a ++ b)) u p
  | [], ys, u, p => by
    show numbers ys u p = bind (pure []) _ u p
    unfold bind pure
    simp only [List.nil_append]
    cases numbers ys u p <;> rfl
  | c :: xs, ys, u, p => by
    show bind (take c) (fun n => bind (numbers (xs ++ ys)) fun ns => pure (n :: ns)) u p = bind (bind (take c) fun n => bind (numbers xs) fun ns => pure (n :: ns)) _ u p
    unfold bind
    cases take c u p with
    | err n => rfl
    | ok n q =>
      dsimp only
      have ih := numbers_append xs ys u q
      unfold bind at ih
      rw [ih]
      cases numbers xs u q with
      | err m => rfl
      | ok ns r =>
        dsimp only [pure]
        cases numbers ys u r <;> rfl
theorem numbers_one (c : Nat) (u : List Bool) (p : Nat) : numbers [c] u p = bind (take c) (fun n => pure [n]) u p := by
  show bind (take c) (fun n => bind (numbers []) fun ns => pure (n :: ns)) u p = _
  unfold bind
  cases take c u p <;> rfl
/-- One more of them is read. -/
theorem numbers_ok {cs : List Nat} {u : List Bool} {p q : Nat} {ns : List Nat} {j : Nat} (h : numbers (cs.take j) u p = .ok ns q) (hj : j < cs.length) (hl : q + cs.getD j 0 ≤ u.length) :
    numbers (cs.take (j + 1)) u p = .ok (ns ++ [Bt.num false ((u.drop q).take (cs.getD j 0))]) (q + cs.getD j 0) := by
  have e : cs.take (j + 1) = cs.take j ++ [cs.getD j 0] := by rw [List.take_succ_eq_append_getElem hj]; simp [List.getD, List.getElem?_eq_getElem hj]
  rw [e, numbers_append]
  unfold bind
  rw [h]
  dsimp only
  rw [numbers_one]
  unfold bind take
  rw [if_pos hl]
  rfl
/-- It isn't all there. -/
theorem numbers_short {cs : List Nat} {u : List Bool} {p q : Nat} {ns : List Nat} {j : Nat} (h : numbers (cs.take j) u p = .ok ns q) (hj : j < cs.length) (hl : ¬ q + cs.getD j 0 ≤ u.length) : numbers cs u p = .err 8 := by
  have e : cs = cs.take j ++ (cs.getD j 0 :: cs.drop (j + 1)) := by
    have h1 : cs.getD j 0 = cs[j] := by simp [List.getD, List.getElem?_eq_getElem hj]
    rw [h1, List.getElem_cons_drop]; exact (List.take_append_drop j cs).symm
  rw [e, numbers_append]
  unfold bind
  rw [h]
  dsimp only
  have e2 : numbers (cs.getD j 0 :: cs.drop (j + 1)) u q = .err 8 := by
    show bind (take (cs.getD j 0)) _ u q = _
    unfold bind take
    rw [if_neg hl]
  rw [e2]
end Ip
end Go.Proofs.YtfgpmccmalddjaaDoor
end

section
namespace Go.Proofs.YtfgpmccmalddjaaDoor
open Go.RowKit

/-- A reader: its block, and its bytes. -/
structure Rd (w : World) (B g : Nat) (h : Bool) (v : Value) (l : List UInt8) (at' : Nat) : Prop where
  blk : w.heap[g]? = some (.cells #[.bool h, v, .int .i64 (at' : Nat)] 147 (0, 0))
  own : w.ownsRow B 5 1 v l.length (bvs l)
  hg : B ≤ g
  ne : v.ownBlock ≠ some g
theorem Rd.lt {w : World} {B g : Nat} {h : Bool} {v : Value} {l : List UInt8} {p : Nat} (H : Rd w B g h v l p) : g < w.heap.size := (Array.getElem?_eq_some_iff.1 H.blk).1
theorem Rd.kept {w w' : World} {T : Nat → Prop} {B g : Nat} {h : Bool} {v : Value} {l : List UInt8} {p : Nat} (H : Rd w B g h v l p) (c : Ch w w' T) (h1 : ¬ T g) (h2 : ∀ k, v.ownBlock = some k → ¬ T k) : Rd w' B g h v l p :=
  ⟨by rw [c.block g H.lt h1]; exact H.blk, c.own H.own h2, H.hg, H.ne⟩
theorem Rd.mono {w w' : World} {B g : Nat} {h : Bool} {v : Value} {l : List UInt8} {p : Nat} (H : Rd w B g h v l p) (hb : Below w.heap.size w w') : Rd w' B g h v l p :=
  H.kept (Ch.of_below (T := fun _ => False) hb) (fun h => h) (fun _ _ h => h)
theorem Rd.c0 {w : World} {B g : Nat} {h : Bool} {v : Value} {l : List UInt8} {p : Nat} (H : Rd w B g h v l p) : w.cell? ⟨g, 0, none⟩ = some (.bool h) := by rw [cell_of_row _ _ _ _ _ (0, 0) H.blk]; rfl
theorem Rd.c1 {w : World} {B g : Nat} {h : Bool} {v : Value} {l : List UInt8} {p : Nat} (H : Rd w B g h v l p) : w.cell? ⟨g, 1, none⟩ = some v := by rw [cell_of_row _ _ _ _ _ (0, 0) H.blk]; rfl
theorem Rd.c2 {w : World} {B g : Nat} {h : Bool} {v : Value} {l : List UInt8} {p : Nat} (H : Rd w B g h v l p) : w.cell? ⟨g, 2, none⟩ = some (.int .i64 (p : Nat)) := by rw [cell_of_row _ _ _ _ _ (0, 0) H.blk]; rfl
theorem Rd.fr {w : World} {B g : Nat} {h : Bool} {v : Value} {l : List UInt8} {p : Nat} (H : Rd w B g h v l p) (o : Nat) : w.frozen? ⟨g, o, none⟩ = false := frozen_of_row w g o _ _ H.blk
theorem Rd.setAt {w : World} {B g : Nat} {h : Bool} {v : Value} {l : List UInt8} {p : Nat} (H : Rd w B g h v l p) (q : Nat) : Rd (w.setCell ⟨g, 2, none⟩ (.int .i64 (q : Nat))) B g h v l q := by
  have c : Ch w (w.setCell ⟨g, 2, none⟩ (.int .i64 (q : Nat))) (fun k => k = g) := (Ch.refl w (fun k => k = g)).set (.inl rfl) _
  refine ⟨?_, c.own H.own (fun k hk e => by subst e; exact H.ne hk), H.hg, H.ne⟩
  rw [heap_setCell_same w g 2 _ _ _ H.blk]; rfl

end Go.Proofs.YtfgpmccmalddjaaDoor
end

section
namespace Go.Proofs.YtfgpmccmalddjaaDoor
open Go.RowKit

theorem drewN_below (w : World) (n : Nat) : Below w.heap.size w (w.drewN n) := ⟨rfl, rfl, rfl, Nat.le_refl _, fun _ _ => rfl⟩
theorem left_any (w : World) (B g : Nat) (h : Bool) (v : Value) (l : List UInt8) (p : Nat) (H : Rd w B g h v l p) (hp : p ≤ 8 * l.length) (hl : l.length ≤ 1000000000000) :
    Calls Tryd.prog 88 #[.pointer (some ⟨g, 0, none⟩)] w fun e w' => e = .returned (.int .i64 ((8 * l.length - p : Nat))) ∧ ∃ n, w' = w.drewN n := by
  have c2 := H.c2
  have c1 := H.c1
  obtain ⟨a, cap, rfl⟩ : ∃ a cap, v = .slice a l.length cap := by
    rcases own_nil_or H.own with ⟨rfl, e⟩ | ⟨g, cap, rfl, _⟩
    · exact ⟨_, _, by rw [e]⟩
    · exact ⟨_, _, rfl⟩
  clear H
  generalize l.length = n at *
  go_enter Tryd.func88, Tryd.ntmps88
  go_wp2
  go_quiet (fail)
  go_wp2
  go_ret
  exact ⟨ret_int (by omega), _, rfl⟩
end Go.Proofs.YtfgpmccmalddjaaDoor
end

section
namespace Go.Proofs.YtfgpmccmalddjaaDoor
open Go.RowKit

theorem isCount_yes (n : Nat) (w : World) (h2 : n ≤ 32) : Calls Tryd.prog 87 #[.int .i64 n] w fun e w' => e = .returned (.bool true) ∧ w = w' := by
  have d1 : decide ((0 : Int) ≤ n) = true := by simp
  have d2 : decide ((n : Int) ≤ 32) = true := by simp; omega
  go_enter Tryd.func87, Tryd.ntmps87
  go_wp2
  go_ret
  exact ⟨rfl, rfl⟩
theorem isCount_no (n : Int) (w : World) (h : n < 0 ∨ 32 < n) : Calls Tryd.prog 87 #[.int .i64 n] w fun e w' => e = .returned (.bool false) ∧ w = w' := by
  by_cases h1 : 0 ≤ n
  · have d1 : decide (0 ≤ n) = true := by simpa using h1
    have d2 : decide (n ≤ 32) = false := by simp; omega
    clear h
    go_enter Tryd.func87, Tryd.ntmps87
    go_wp2
    go_ret
    exact ⟨rfl, rfl⟩
  · have d1 : decide (0 ≤ n) = false := by simpa using h1
    clear h
    go_enter Tryd.func87, Tryd.ntmps87
    go_wp2
    go_ret
    exact ⟨rfl, rfl⟩

theorem missing_any (n : Nat) (w : World) (h : n ≤ 1000000000000) : Calls Tryd.prog 102 #[.int .i64 n] w fun e w' => e = .returned (.int .i64 ((8 - n % 8) % 8 : Nat)) ∧ w = w' := by
  go_enter Tryd.func102, Tryd.ntmps102
  go_wp2
  go_ret
  exact ⟨ret_int (i64_and_neg7 n (by omega)), rfl⟩

theorem shift_any (h : Bool) (size fro some : Nat) (w : World) (hs : fro + some ≤ size) (h32 : size ≤ 64) :
    Calls Tryd.prog 89 #[.agg #[.bool h], .int .i64 size, .int .i64 fro, .int .i64 some] w fun e w' => e = .returned (.int .i64 (Bt.shf h size fro some : Nat)) ∧ w' = w.alloc (.cells #[.bool h] 145) := by
  cases h
  · go_enter Tryd.func89, Tryd.ntmps89
    go_wp2
    go_ret
    exact ⟨ret_int (by simp [Bt.shf]), rfl⟩
  · go_enter Tryd.func89, Tryd.ntmps89
    go_wp2
    go_ret
    exact ⟨ret_int (by simp [Bt.shf]; omega), rfl⟩
end Go.Proofs.YtfgpmccmalddjaaDoor
end

section
namespace Go.Proofs.YtfgpmccmalddjaaDoor
open Go.RowKit

theorem take_range (w : World) (g : Nat) (c : Int) (h : c < 0 ∨ 32 < c) :
    Calls Tryd.prog 82 #[.pointer (some ⟨g, 0, none⟩), .int .i64 c] w fun e w' => e = .returned (.tuple #[.int .i64 0, .iface 39 (.int .i64 7)]) ∧ w = w' := by
  have HC := Lib.hid h
  clear h
  go_enter Tryd.func82, Tryd.ntmps82
  go_wp2_with fail
  refine (isCount_no _ _ HC.out).mono ?_
  rintro e w' ⟨rfl, rfl⟩
  go_wp2
  go_ret2
  exact ⟨rfl, rfl⟩
theorem take_short (w : World) (B g : Nat) (h : Bool) (v : Value) (l : List UInt8) (p c : Nat) (H : Rd w B g h v l p) (hp : p ≤ 8 * l.length) (hl : l.length ≤ 1000000000000) (hc : c ≤ 32) (hs : 8 * l.length - p < c) :
    Calls Tryd.prog 82 #[.pointer (some ⟨g, 0, none⟩), .int .i64 c] w fun e w' => e = .returned (.tuple #[.int .i64 0, .iface 39 (.int .i64 8)]) ∧ Below w.heap.size w w' := by
  have HH := Lib.hid H
  obtain ⟨r, hr⟩ : ∃ r, 8 * l.length - p = r := ⟨_, rfl⟩
  have HR := Lib.hid hr
  have d1 : decide (r < c) = true := by simp; omega
  clear hr H hs
  go_enter Tryd.func82, Tryd.ntmps82
  go_wp2_with fail
  refine (isCount_yes c _ hc).mono ?_
  rintro e w' ⟨rfl, rfl⟩
  go_wp2_with fail
  refine (left_any _ B g h v l p HH.out hp hl).mono ?_
  rintro e w' ⟨rfl, n, rfl⟩
  rw [HR.out]
  go_wp2
  go_ret2
  exact ⟨rfl, ⟨rfl, rfl, rfl, Nat.le_refl _, fun _ _ => rfl⟩⟩
def TakeRPost (w : World) (B g : Nat) (h : Bool) (v : Value) (l : List UInt8) (p c : Nat) (e : Ending) (w' : World) : Prop :=
  e = .returned (.tuple #[.int .i64 (Bt.num h (((Bt.rbits h l).drop p).take c) : Nat), .nilIface]) ∧ Rd w' B g h v l (p + c) ∧ Ch w w' (fun k => k = g)
/-- In the midst of a number that is read. -/
def RdMid (w : World) (B g : Nat) (h : Bool) (v : Value) (l : List UInt8) (p : Nat) (wx : World) : Prop := Rd wx B g h v l p ∧ Ch w wx (fun k => k = g)
theorem rd_shf_le (h : Bool) (size fro some : Nat) (hs : fro + some ≤ size) : Bt.shf h size fro some + some ≤ size := by
  cases h <;> simp [Bt.shf] <;> omega
theorem Bt.part8_val (x sh s : Nat) (hx : x < 256) (hsh : sh ≤ 64) (hs : s ≤ 32) :
    bits .and .i64 ((x : Int) / 2 ^ min sh 64) (IntKind.i64.wrap (IntKind.i64.wrap (2 ^ s) - 1)) = ((x >>> sh &&& (2 ^ s - 1) : Nat) : Int) := Bt.part_val x sh s (by omega) hsh hs
theorem Bt.acc_val (n p s sh c : Nat) (hn : n < 2 ^ c) (hp : p < 2 ^ s) (hs : sh + s ≤ c) (hc : c ≤ 32) :
    bits .or .i64 (n : Int) (IntKind.i64.wrap ((p : Int) * 2 ^ min sh 64)) = ((n ||| p <<< sh : Nat) : Int) ∧ n ||| p <<< sh < 2 ^ c := by
  have h1 := Bt.shl_lt p s sh c hp hs
  have h2 := Bt.pow_le c 32 hc
  have h3 := Nat.or_lt_two_pow hn h1
  rw [show min sh 64 = sh by omega, Bt.pow_cast, show (p : Int) * ((2 ^ sh : Nat) : Int) = ((p <<< sh : Nat) : Int) by rw [Nat.shiftLeft_eq]; simp]
  generalize p <<< sh = y at *
  generalize 2 ^ c = z at *
  simp only [Nat.reducePow] at h2
  rw [IntWalk.i64_in _ ⟨by omega, by omega⟩]
  exact ⟨i64_or_nat n y (by omega) (by omega), h3⟩

set_option maxHeartbeats 4000000 in
set_option maxRecDepth 100000 in
theorem takeR_ok (w : World) (B g : Nat) (h : Bool) (v : Value) (l : List UInt8) (p c : Nat) (H : Rd w B g h v l p) (hB : B ≤ w.heap.size) (hl : l.length ≤ 1000000000000) (hc : c ≤ 32) (hs : p + c ≤ 8 * l.length) :
    Calls Tryd.prog 82 #[.pointer (some ⟨g, 0, none⟩), .int .i64 c] w (TakeRPost w B g h v l p c) := by
  have HH := Lib.hid H
  obtain ⟨r, hr⟩ : ∃ r, 8 * l.length - p = r := ⟨_, rfl⟩
  have HR := Lib.hid hr
  have d1 : decide (r < c) = false := by simp; omega
  clear hr H
  go_enter Tryd.func82, Tryd.ntmps82
  go_wp2_with fail
  refine (isCount_yes c _ hc).mono ?_
  rintro e w' ⟨rfl, rfl⟩
  go_wp2_with fail
  refine (left_any _ B g h v l p HH.out (by omega) hl).mono ?_
  rintro e w' ⟨rfl, dn, rfl⟩
  rw [HR.out]
  have HM0 := Lib.hid (show RdMid w B g h v l p (w.drewN dn) from ⟨HH.out.mono (drewN_below w dn), Ch.of_below (drewN_below w dn)⟩)
  clear HH HR
  obtain ⟨t, ht⟩ : ∃ t, (Bt.rbits h l).drop p = t := ⟨_, rfl⟩
  have htl : c ≤ t.length := by rw [← ht, List.length_drop, Bt.rbits_length]; omega
  have HT := Lib.hid ht
  have HTL := Lib.hid htl
  clear ht htl
  go_wp2
  go_loopg [6, 7] c (fun gk n i wr => ∃ d : Nat, d ≤ c ∧ gk = c - d ∧ i = .int .i64 d ∧ n = .int .i64 (Bt.tk h t c d : Nat) ∧ Hid (RdMid w B g h v l (p + d) wr))
  case atStart => exact ⟨0, by omega, by omega, rfl, by rw [Bt.tk_zero]; rfl, HM0⟩
  case round =>
    obtain ⟨d, hd, rfl, rfl, rfl, HM⟩ := hrel
    by_cases hlt : d < c
    · have k2 := HM.out.1.c2
      have HTK := Lib.hid (Bt.tk_lt h t c d hd)
      have hf8 : (p + d) % 8 < 8 := by omega
      have hz := HM.out.1.lt
      obtain ⟨s, hsd⟩ : ∃ s, s = min (8 - (p + d) % 8) (c - d) := ⟨_, rfl⟩
      have hs1 : 1 ≤ s := by omega
      have hs2 : (p + d) % 8 + s ≤ 8 := by omega
      have hs3 : d + s ≤ c := by omega
      have Hs := Lib.hid hsd
      clear hsd
      have HSTEP := Lib.hid (Bt.tk_step h t c d s hs3 HTL.out hs1)
      have HPART := Lib.hid (Bt.part_byte h l (p + d) s hs2 (by omega) hs1)
      have Htd := Lib.hid (show ((Bt.rbits h l).drop (p + d)).take s = (t.drop d).take s by rw [← HT.out, List.drop_drop])
      obtain ⟨u, hu⟩ : ∃ u, u = p + d := ⟨_, rfl⟩
      rw [← hu] at HM k2 hf8 hs2 Hs HPART Htd
      have hub : u < 8 * l.length := by omega
      have hub2 : u ≤ 8000000000000 := by omega
      have Hu := Lib.hid hu
      clear hu
      go_upto_region 9 with (fail)
      go_cut [8, 9] (fun s8 s9 wx => wr = wx ∧ s8 = .int .i64 ((u % 8 : Nat) : Int) ∧ s9 = .int .i64 ((s : Nat) : Int))
      case first =>
        go_wp2_with fail
        all_goals go_meet
        all_goals exact ⟨rfl, int_eq (by omega), int_eq (by have := Hs.out; omega)⟩
      case rest =>
        obtain ⟨rfl, rfl, rfl⟩ := hcut
        clear Hs
        have k0 := HM.out.1.c0
        have k1 := HM.out.1.c1
        obtain ⟨va, cap, rfl⟩ : ∃ gv cap, v = .slice (some ⟨gv, 0, none⟩) l.length cap := by
          rcases own_nil_or HM.out.1.own with ⟨_, hx⟩ | ⟨gv, cap, e, _⟩
          · omega
          · exact ⟨gv, cap, e⟩
        have hq : u / 8 < l.length := by omega
        have o1 : wr.cell? ⟨va, u / 8, none⟩ = some (.int .u8 (gb l (u / 8))) := by
          rw [HM.out.1.own.cellAt (u / 8) (by omega), bvs_get l _ hq]
        have n0 := World.new_ne _ _ k0
        have n1 := World.new_ne _ _ k1
        have n2 := World.new_ne _ _ k2
        have n3 := World.new_ne _ _ o1
        have hx := gb_lt l (u / 8)
        obtain ⟨q, hqd⟩ : ∃ q, u / 8 = q := ⟨_, rfl⟩
        rw [hqd] at hq o1 n3 hx HPART
        have a1 : (u : Int).tdiv 8 = q := by rw [Int.tdiv_eq_ediv_of_nonneg (by omega)]; omega
        have a4 : IntKind.i64.wrap (q : Int) = q := IntWalk.i64_in _ ⟨by omega, by omega⟩
        have a5 : (u : Int) / 8 = q := by omega
        have a2 : (0 : Int) ≤ q := by omega
        have a3 : (q : Int) < (l.length : Int) := by omega
        clear hqd
        obtain ⟨f, hfd⟩ : ∃ f, u % 8 = f := ⟨_, rfl⟩
        rw [hfd] at hf8 hs2 HPART ⊢
        clear hfd
        have Hlen := Lib.hid hub
        generalize gb l q = x at *
        go_upto_region 10 with (fail)
        go_cut [10] (fun s10 wx => s10 = .int .i64 ((x >>> Bt.shf h 8 f s &&& (2 ^ s - 1) : Nat) : Int) ∧ Hid (RdMid w B g h (.slice (some ⟨va, 0, none⟩) l.length cap) l u wx))
        case first =>
          have hM2 : Hid (RdMid w B g h (.slice (some ⟨va, 0, none⟩) l.length cap) l u (wr.alloc (.cells #[.bool h] 145)).drew) := Lib.hid
            ⟨HM.out.1.mono (below_alloc wr _).drew, (HM.out.2.alloc _).drew⟩
          have Hval := Lib.hid (Bt.part8_val x (Bt.shf h 8 f s) s hx (by have := rd_shf_le h 8 f s (by omega); omega) (by omega))
          clear HM
          go_region_held3 (fun w' => w'.cell? ⟨g, 0, none⟩ = some (.bool h) ∧ w'.cell? ⟨g, 1, none⟩ = some (.slice (some ⟨va, 0, none⟩) l.length cap) ∧ w'.cell? ⟨g, 2, none⟩ = some (.int .i64 (u : Nat)) ∧ w'.cell? ⟨va, q, none⟩ = some (.int .u8 (x : Nat))) (go_keep)
            (first | (go_at_call 89; refine (shift_any h 8 f s _ (by omega) (by omega)).mono ?_; rintro e w' ⟨rfl, rfl⟩))
          go_wp2_with fail
          go_meet
          exact ⟨int_eq (by rw [IntWalk.i64_in (x : Int) ⟨by omega, by omega⟩]; exact Hval.out), hM2⟩
        case rest =>
          obtain ⟨rfl, HM3⟩ := hcut
          clear HM k0 k1 k2 o1 n0 n1 n2 n3 a1 a2 a3 a4 a5
          have k0 := HM3.out.1.c0
          rw [HPART.out, Htd.out] at *
          obtain ⟨b, hb⟩ : ∃ b, Bt.num h ((t.drop d).take s) = b := ⟨_, rfl⟩
          have hb2 : b < 2 ^ s := by
            rw [← hb]
            have := Bt.num_lt h ((t.drop d).take s)
            rwa [show ((t.drop d).take s).length = s by have := HTL.out; simp; omega] at this
          have HACC := Lib.hid (Bt.acc_val (Bt.tk h t c d) b s (Bt.shf h c d s) c HTK.out hb2 (by have := rd_shf_le h c d s (by omega); omega) hc)
          rw [hb] at HSTEP ⊢
          rw [← HSTEP.out] at HACC
          clear hb hb2 HSTEP HPART Htd HTK
          go_wp2_with fail
          refine (shift_any h c d s _ (by omega) (by omega)).mono ?_
          rintro e w' ⟨rfl, rfl⟩
          have HM4 := Lib.hid (show RdMid w B g h (.slice (some ⟨va, 0, none⟩) l.length cap) l u (wc.alloc (.cells #[.bool h] 145)) from
            ⟨HM3.out.1.mono (below_alloc wc _), HM3.out.2.alloc _⟩)
          have k2 := HM4.out.1.c2
          have f2 := HM4.out.1.fr 2
          have HM5 := Lib.hid (show RdMid w B g h (.slice (some ⟨va, 0, none⟩) l.length cap) l (u + s) ((wc.alloc (.cells #[.bool h] 145)).setCell ⟨g, 2, none⟩ (.int .i64 ((u + s : Nat) : Int))) from
            ⟨HM4.out.1.setAt (u + s), HM4.out.2.set (.inl rfl) _⟩)
          rw [show Value.int .i64 ((u + s : Nat) : Int) = .int .i64 ((u : Int) + s) from int_eq (by omega)] at HM5
          clear HM3 HM4 k0
          go_wp2
          go_roundg (c - (d + s))
          case measure => omega
          case rel =>
            refine ⟨d + s, hs3, rfl, by go_num, ?_, ?_⟩
            · refine int_eq ?_
              have := HACC.out.1
              first | exact this | (rw [Bt.wrapEq] at this; exact this)
            · rw [show p + (d + s) = u + s by have := Hu.out; omega]; exact HM5
    · obtain rfl : d = c := by omega
      have e := Lib.hid (Bt.tk_full h t d)
      have hx := Lib.hid (show TakeRPost w B g h v l p d (.returned (.tuple #[.int .i64 (Bt.tk h t d d : Nat), .nilIface])) wr from ⟨by rw [e.out, ← HT.out], HM.out⟩)
      clear HM
      go_wp2
      go_ret2
      exact hx.out
end Go.Proofs.YtfgpmccmalddjaaDoor
end

section
namespace Go.Proofs.YtfgpmccmalddjaaDoor
open Go.RowKit

/-- Numbers as cells. -/
def ivs (l : List Int) : List Value := l.map fun n => .int .i64 n
theorem ivs_length (l : List Int) : (ivs l).length = l.length := by simp [ivs]
theorem ivs_append (l m : List Int) : ivs (l ++ m) = ivs l ++ ivs m := by simp [ivs]
theorem ivs_one (l : List Int) : ∀ u ∈ ivs l, u.oneCell' = true := by
  intro u hu
  simp only [ivs, List.mem_map] at hu
  obtain ⟨x, _, rfl⟩ := hu
  rfl
theorem ivs_get (l : List Int) (i : Nat) (h : i < l.length) : (ivs l)[i]? = some (.int .i64 (l.getD i 0)) := by
  simp [ivs, List.getD, List.getElem?_eq_getElem h]
theorem ivs_set (l : List Int) (j : Nat) (n : Int) : (ivs l).set j (.int .i64 n) = ivs (l.set j n) := by simp [ivs, List.map_set]
/-- All of them are numbers of a machine. -/
def Wf (l : List Int) : Prop := ∀ n ∈ l, (Lit.int .i64 n).wf = true
theorem tyI : RowTy Tryd.prog 50 3 (.int .i64 0) 1 8 := ⟨Tryd.underlying50, by kernel_rfl, rfl, by omega⟩
theorem Is.mono {k : IntKind} {w w' : World} {a : Option Addr} {len cap : Nat} {l : List Int} (h : Is k w a len cap l) (hb : Below w.heap.size w w') : Is k w' a len cap l :=
  ⟨h.hlen, h.hle, h.hnil, fun i hi => by
    obtain ⟨b, off, e, hlt, hc⟩ := h.at' i hi
    exact ⟨b, off, e, Nat.lt_of_lt_of_le hlt hb.size, by rw [hb.cell (p := ⟨b, off + i, none⟩) hlt]; exact hc⟩, h.wf⟩
theorem Is.src {w : World} {a : Option Addr} {len cap : Nat} {l : List Int} (h : Is .i64 w a len cap l) : SrcRow w a len cap (ivs l) 1 := by
  refine ⟨by rw [ivs_length, h.hlen, Nat.mul_one], fun e => ?_, fun ad e j u hu => ?_, ivs_one l⟩
  · have := h.hnil e; have := h.hle; omega
  · have hj : j < l.length := by have := (List.getElem?_eq_some_iff.1 hu).1; simpa [ivs] using this
    obtain ⟨b, off, e2, _, hc⟩ := h.at' j (by rw [← h.hlen]; exact hj)
    rw [e] at e2
    obtain rfl := Option.some.inj e2
    rw [Addr.add_mid, hc, ← ivs_get l j hj]
    exact hu
/-- A row that the call owns reads as its numbers, any part of it. -/
theorem is_of_own {w : World} {base : Nat} {e : TypeId} {g n cap : Nat} {l : List Int} (h : w.ownsRow base e 1 (.slice (some ⟨g, 0, none⟩) n cap) n (ivs l)) (hw : Wf l) (s k c : Nat) (hk : s + k ≤ n) (hc : k ≤ c) :
    Is .i64 w (some ⟨g, s, none⟩) k c ((l.drop s).take k) := by
  have hn : l.length = n := by have := h.1; rw [ivs_length] at this; omega
  have hlt : g < w.heap.size := (h.lt g rfl).2
  refine ⟨by simp; omega, hc, fun h => by simp at h, fun i hi => ⟨g, s, rfl, hlt, ?_⟩, fun n hn => hw n (List.mem_of_mem_drop (List.mem_of_mem_take hn))⟩
  rw [h.cellAt (s + i) (by omega), ivs_get l (s + i) (by omega)]
  simp [List.getD, List.getElem?_take, hi, List.getElem?_drop]
theorem own_is {w : World} {base : Nat} {e : TypeId} {v : Value} {n : Nat} {l : List Int} (h : w.ownsRow base e 1 v n (ivs l)) (hw : Wf l) :
    ∃ a cap, v = .slice a n cap ∧ Is .i64 w a n cap l := by
  have hn : l.length = n := by have := h.1; rw [ivs_length] at this; omega
  rcases own_nil_or h with ⟨rfl, rfl⟩ | ⟨g, cap, rfl, hle, _⟩
  · have : l = [] := List.eq_nil_of_length_eq_zero hn
    subst this
    exact ⟨none, 0, rfl, rfl, Nat.le_refl _, fun _ => rfl, fun i hi => absurd hi (by omega), fun n hn => by simp at hn⟩
  · have := is_of_own h hw 0 n cap (by omega) hle
    rw [List.drop_zero, List.take_of_length_le (by omega)] at this
    exact ⟨_, cap, rfl, this⟩
theorem is_nil (w : World) : Is .i64 w none 0 0 [] := ⟨rfl, Nat.le_refl _, fun _ => rfl, fun i hi => absurd hi (by omega), fun n hn => by simp at hn⟩
/-- One number, as what is appended. -/
theorem src_int (w : World) (n : Int) : SrcRow (w.alloc (.cells #[Value.int .i64 n] 3)) (some ⟨w.heap.size, 0, none⟩) 1 1 (ivs [n]) 1 :=
  src_new w #[Value.int .i64 n] 3 1 1 1 rfl (ivs_one [n])
theorem own_int (w : World) (base : Nat) (n : Int) (hb : base ≤ w.heap.size) : (w.alloc (.cells #[Value.int .i64 n] 3)).ownsRow base 3 1 (.slice (some ⟨w.heap.size, 0, none⟩) 1 1) 1 (ivs [n]) :=
  ⟨by simp [ivs], .inr ⟨w.heap.size, 1, #[Value.int .i64 n], rfl, hb, heap_alloc_last w _, by omega, by unfold maxLen; omega, rfl, rfl⟩⟩
/-- Bits as numbers. -/
def bi (l : List Bool) : List Int := l.map fun b => (b.toNat : Int)
theorem bi_length (l : List Bool) : (bi l).length = l.length := by simp [bi]
theorem bi_append (l m : List Bool) : bi (l ++ m) = bi l ++ bi m := by simp [bi]
theorem bi_getD (l : List Bool) (i : Nat) : (bi l).getD i 0 = ((l.getD i false).toNat : Int) := by
  by_cases h : i < l.length
  · simp [bi, List.getD, List.getElem?_eq_getElem h]
  · simp [bi, List.getD, List.getElem?_eq_none (Nat.le_of_not_lt h)]
theorem bi_wf (l : List Bool) : Wf (bi l) := by
  intro n hn
  simp only [bi, List.mem_map] at hn
  obtain ⟨b, _, rfl⟩ := hn
  cases b <;> rfl
end Go.Proofs.YtfgpmccmalddjaaDoor
end

section
namespace Go.Proofs.YtfgpmccmalddjaaDoor
open Go.RowKit

theorem Is.getW {k : IntKind} {w : World} {a : Option Addr} {len cap : Nat} {l : List Int} (h : Is k w a len cap l) (i : Nat) (hi : i < len) : (Lit.int k (l.getD i 0)).wf = true := by
  have hil : i < l.length := by rw [h.hlen]; exact hi
  exact h.wf _ (by simp [List.getD, List.getElem?_eq_getElem hil])
theorem ints_snoc (l : List Int) (k : Nat) (h : k < l.length) : l.take (k + 1) = l.take k ++ [l.getD k 0] := by
  rw [List.take_succ_eq_append_getElem h]; simp [List.getD, List.getElem?_eq_getElem h]
theorem own_set {w : World} {base n cap g : Nat} {l : List Int} (h : w.ownsRow base 3 1 (.slice (some ⟨g, 0, none⟩) n cap) n (ivs l)) (j : Nat) (z : Int) :
    (w.setCell ⟨g, j, none⟩ (.int .i64 z)).ownsRow base 3 1 (.slice (some ⟨g, 0, none⟩) n cap) n (ivs (l.set j z)) := by
  rw [← ivs_set]; exact (h.stored j _).1
end Go.Proofs.YtfgpmccmalddjaaDoor
end

section
namespace Go.Proofs.YtfgpmccmalddjaaDoor
open Go.RowKit

theorem made_ints1 (n : Nat) : (madeCells #[.int .i64 0] (n * 1)).toList = ivs (List.replicate n 0) := by
  rw [made_all _ _ (.int .i64 0) (by simp) (fun i hi => by
    match i, hi with
    | 0, _ => rfl), Nat.mul_one]
  simp [ivs]
theorem wpl_make_full {P : Program} {w : World} {ops : Array Oper} {rest : List Oper} {o : Oper} {a : Act} {Q : Exit → Act → World → Prop} {t e : TypeId} {z : Value} {size by' : Nat} (R : RowTy P t e z size by') (hg : o.guard = none) (l c : Operand) (hop : o.op = Op.makeSlice t l c) (base : Nat)
    (kl kc : IntKind) (L C : Int) (n : Nat) (hl : a.eval l = .int kl L) (hc : a.eval c = .int kc C) (hL : L = (n : Int)) (hC : C = (n : Int)) (b2 : by' * n ≤ 281474976710656) (b3 : n ≤ 9223372036854775807) (b4 : base ≤ w.heap.size)
    (hK : ∀ w', w'.ownsRow base e size (.slice (some ⟨w.heap.size, 0, none⟩) n n) n (madeCells z.cells (n * size)).toList → w.grownBy w' none → wpList P ops Q rest (a.put o.dst (.slice (some ⟨w.heap.size, 0, none⟩) n n)) w') :
    wpList P ops Q (o :: rest) a w := by
  obtain ⟨i0, hi, hz0, hz1, hz2⟩ := info_parts R.info
  subst hz2
  exact wpList_make_full w hg l c t hop base e i0 z size R.ht hi hz0 hz1 kl kc L C n hl hc hL hC b2 (by unfold maxLen; omega) b4 hK
end Go.Proofs.YtfgpmccmalddjaaDoor
end

section
namespace Go.Proofs.YtfgpmccmalddjaaDoor
open Go.RowKit

theorem Is.kept {w w' : World} {T : Nat → Prop} {a : Option Addr} {len cap : Nat} {l : List Int} (h : Is .i64 w a len cap l) (c : Ch w w' T) (hn : ∀ ad, a = some ad → ¬ T ad.block) : Is .i64 w' a len cap l :=
  ⟨h.hlen, h.hle, h.hnil, fun i hi => by
    obtain ⟨b, off, e, hlt, hc⟩ := h.at' i hi
    exact ⟨b, off, e, Nat.lt_of_lt_of_le hlt c.size, by rw [World.cell?_of_block (w := w) (c.block b hlt (hn _ e))]; exact hc⟩, h.wf⟩
theorem Is.blk {w : World} {a : Option Addr} {len cap : Nat} {l : List Int} (h : Is .i64 w a len cap l) (hp : 0 < len) : ∀ ad, a = some ad → ad.block < w.heap.size := by
  intro ad e
  obtain ⟨b, off, e2, hlt, _⟩ := h.at' 0 hp
  rw [e] at e2; cases e2; exact hlt
end Go.Proofs.YtfgpmccmalddjaaDoor
end

section
namespace Go.Proofs.YtfgpmccmalddjaaDoor
open Go.RowKit

/-- The bits of all bytes, the lowest first. -/
def lob (bs : List UInt8) : List Bool := Bt.rbits false bs
theorem lob_length (bs : List UInt8) : (lob bs).length = 8 * bs.length := Bt.rbits_length false bs
def nis (ns : List Nat) : List Int := ns.map fun n => ((n : Nat) : Int)
/-- What a call of the reader's answers: a value, or an error's number; only the bits' own place has changed. -/
def NumsPost (w : World) (B gb : Nat) (vb : Value) (bs : List UInt8) (r : Ip.Rs (List Nat)) (e : Ending) (w' : World) : Prop :=
  match r with
  | .ok ns q => ∃ v, e = .returned (.tuple #[v, .nilIface]) ∧ w'.ownsRow w.heap.size 3 1 v ns.length (ivs (nis ns)) ∧ Rd w' B gb false vb bs q ∧ Ch w w' (fun k => k = gb)
  | .err n => n ≠ 0 ∧ e = .returned (.tuple #[.slice none 0 0, .iface 39 (.int .i64 n)]) ∧ Ch w w' (fun k => k = gb)
/-- In the midst: j numbers have been read. -/
structure NmX (w wr : World) (B gb q0 : Nat) (vb : Value) (bs : List UInt8) (len : Nat) (cnts : List Nat) (p j : Nat) : Prop where
  ex : ∃ ns q, Ip.numbers (cnts.take j) (lob bs) p = .ok ns q ∧ ns.length = j ∧ q ≤ 8 * bs.length ∧ Rd wr B gb false vb bs q ∧ wr.ownsRow w.heap.size 3 1 (.slice (some ⟨q0, 0, none⟩) len len) len (ivs (nis ns ++ List.replicate (len - j) 0))
  ch : Ch w wr (fun k => k = gb)
set_option maxRecDepth 100000 in
set_option maxHeartbeats 4000000 in
theorem numbers_any {w : World} {B gr gb p : Nat} {T : TypeId} {cs : Array Value} {vb : Value} {bs : List UInt8} {a : Option Addr} {len cap : Nat} {cnts : List Nat} (hrow : w.heap[gr]? = some (.cells cs T (0, 0))) (hc0 : cs[0]? = some (.pointer (some ⟨gb, 0, none⟩))) (hd : gr ≠ gb)
    (H : Rd w B gb false vb bs p) (hB : B ≤ w.heap.size) (hp : p ≤ 8 * bs.length) (hbl : bs.length ≤ 1000000000000) (hI : Is .i64 w a len cap (nis cnts)) (hag : ∀ ad, a = some ad → ad.block ≠ gb) (hl : len ≤ 1000000) (hc : ∀ c ∈ cnts, c ≤ 32) :
    Calls Tryd.prog 76 #[.pointer (some ⟨gr, 0, none⟩), .slice a len cap] w (NumsPost w B gb vb bs (Ip.numbers cnts (lob bs) p)) := by
  have hcl : cnts.length = len := by have := hI.hlen; simpa [nis] using this
  have HCL := Lib.hid hcl
  have HI := Lib.hid hI
  have HROW := Lib.hid hrow
  have HC := Lib.hid hc
  have HAG := Lib.hid hag
  have HC0 := Lib.hid hc0
  have HH := Lib.hid H
  have hgb := H.lt
  have hgr := (Array.getElem?_eq_some_iff.1 hrow).1
  clear hI H hrow hc hag hc0 hcl
  go_enter Tryd.func76, Tryd.ntmps76
  go_wp2_with (at_make; refine wpl_make_full tyI rfl _ _ rfl w.heap.size .i64 .i64 _ _ len rfl rfl rfl rfl (by omega) (by omega) (Nat.le_refl _) ?_)
  intro w1 own1 hg1
  have hb1 : Below w.heap.size w w1 := (Below.refl _ _).grown hg1 (Nat.le_refl _) (by simp)
  have own2 : w1.ownsRow w.heap.size 3 1 (.slice (some ⟨w.heap.size, 0, none⟩) len len) len (ivs (nis [] ++ List.replicate (len - 0) 0)) := by
    have e2 := made_ints1 len
    rw [Nat.mul_one] at e2
    rw [show nis [] ++ List.replicate (len - 0) 0 = List.replicate len 0 by simp [nis], ← e2]; exact own1
  have HX : Hid (NmX w w1 B gb w.heap.size vb bs len cnts p 0) := Lib.hid ⟨⟨[], p, rfl, rfl, hp, HH.out.mono hb1, own2⟩, Ch.of_below hb1⟩
  have HVB := Lib.hid (fun k (hk : vb.ownBlock = some k) => (HH.out.own.lt k hk).2)
  clear own1 own2 hg1 hb1
  go_wp2
  go_loopw [16] (fun i wr => ∃ j : Nat, j ≤ len ∧ i = .int .i64 j ∧ Hid (NmX w wr B gb w.heap.size vb bs len cnts p j)) (fun i _ => len - (intOf i).toNat)
  case atStart => exact ⟨0, by omega, rfl, HX⟩
  case round =>
    obtain ⟨j, hj, rfl, HK⟩ := hrel
    obtain ⟨⟨ns, q, hns, hnl, hq, hrd, hown⟩, hch⟩ := HK.out
    have hzr := hch.size
    by_cases hlt : j < len
    · obtain ⟨b, off, rfl, _, hcell⟩ := (HI.out.kept hch (fun ad e => HAG.out ad e)).at' j hlt
      have hcc : (nis cnts).getD j 0 = ((cnts.getD j 0 : Nat) : Int) := by
        have hj2 : j < cnts.length := by rw [HCL.out]; exact hlt
        simp [nis, List.getD, List.getElem?_eq_getElem hj2]
      have hc32 : cnts.getD j 0 ≤ 32 := by
        have hj2 : j < cnts.length := by rw [HCL.out]; exact hlt
        have h1 : cnts.getD j 0 = cnts[j] := by simp [List.getD, List.getElem?_eq_getElem hj2]
        rw [h1]; exact HC.out _ (List.getElem_mem hj2)
      have hcell2 : wr.cell? ⟨b, off + j, none⟩ = some (.int .i64 ((cnts.getD j 0 : Nat) : Int)) := by rw [← hcc]; exact hcell
      have g0 : wr.cell? ⟨gr, 0, none⟩ = some (.pointer (some ⟨gb, 0, none⟩)) := by
        rw [cell_of_row _ _ _ _ _ (0, 0) ((hch.block gr hgr hd).trans HROW.out)]; exact HC0.out
      have HOK := Lib.hid (fun h => Ip.numbers_ok hns (by rw [HCL.out]; exact hlt) h)
      have HSH := Lib.hid (fun h => Ip.numbers_short hns (by rw [HCL.out]; exact hlt) h)
      have HRD := Lib.hid hrd
      have HOWN := Lib.hid hown
      have HCH := Lib.hid hch
      clear hcc hcell hns hrd hown hch HK
      generalize hcj : cnts.getD j 0 = c at *
      clear hcj
      by_cases hfit : q + c ≤ 8 * bs.length
      · have HOK2 := Lib.hid (HOK.out (by rw [lob_length]; exact hfit))
        go_wp2_with fail
        refine (takeR_ok wr B gb false vb bs q c HRD.out (by omega) hbl hc32 hfit).mono ?_
        rintro e w2 ⟨rfl, hrd2, hch2⟩
        have hown2 := hch2.own HOWN.out (fun k hk e => by simp [Value.ownBlock] at hk; omega)
        have k0 := hown2.cellAt j (by omega)
        obtain ⟨z, k1⟩ : ∃ z, w2.cell? ⟨w.heap.size, j, none⟩ = some z := ⟨_, k0.trans (by rw [ivs_get _ _ (by simp [nis, hnl]; omega)])⟩
        have f1 : w2.frozen? ⟨w.heap.size, j, none⟩ = false := by
          rcases hown2.2 with ⟨h1, _⟩ | ⟨g2, cap2, cur, h1, _, hg, _⟩
          · simp at h1
          · simp only [Value.slice.injEq, Option.some.injEq, Addr.mk.injEq, and_true, true_and] at h1
            obtain ⟨rfl, rfl⟩ := h1
            exact frozen_of_row _ _ _ _ _ hg
        have HX2 : Hid (NmX w (w2.setCell ⟨w.heap.size, j, none⟩ (.int .i64 (Bt.num false (((Bt.rbits false bs).drop q).take c) : Nat))) B gb w.heap.size vb bs len cnts p (j + 1)) := Lib.hid (by
          have cs2 := (Ch.refl w2 (fun k => k = w.heap.size)).set (p := ⟨w.heap.size, j, none⟩) (.inl rfl) (.int .i64 (Bt.num false (((Bt.rbits false bs).drop q).take c) : Nat))
          refine ⟨⟨_, _, HOK2.out, by simp [hnl], hfit, hrd2.kept cs2 (by omega) (fun k hk e => by have := HVB.out k hk; omega), ?_⟩, ?_⟩
          · have h3 := own_set hown2 j (Bt.num false (((Bt.rbits false bs).drop q).take c) : Nat)
            have e4 : (nis ns ++ List.replicate (len - j) 0).set j ((Bt.num false (((Bt.rbits false bs).drop q).take c) : Nat) : Int) = nis (ns ++ [Bt.num false (((lob bs).drop q).take c)]) ++ List.replicate (len - (j + 1)) 0 := by
              obtain ⟨r, hr⟩ : ∃ r, len - j = r + 1 := ⟨len - j - 1, by omega⟩
              have hl2 : (nis ns).length = j := by simp [nis, hnl]
              rw [hr, List.replicate_succ, List.set_append_right _ _ (by omega), hl2, Nat.sub_self, show len - (j + 1) = r by omega]
              simp [nis, lob]
            rwa [e4] at h3
          · exact ((HCH.out.trans hch2 (fun n hn => .inl hn)).set (p := ⟨w.heap.size, j, none⟩) (.inr (Nat.le_refl _)) _))
        clear hrd2 hch2 hown2 k0 HRD HOWN HCH HOK HSH HOK2
        generalize Bt.num false (((Bt.rbits false bs).drop q).take c) = nn at *
        go_wp2
        go_roundw
        case rel => exact ⟨j + 1, by omega, by go_num, HX2⟩
        case measure => simp [intOf]; omega
      · have HS2 := Lib.hid (HSH.out (by rw [lob_length]; exact hfit))
        go_wp2_with fail
        refine (take_short wr B gb false vb bs q c HRD.out hq hbl hc32 (by omega)).mono ?_
        rintro e w2 ⟨rfl, hb2⟩
        have HP : Hid (NumsPost w B gb vb bs (Ip.numbers cnts (lob bs) p) (.returned (.tuple #[.slice none 0 0, .iface 39 (.int .i64 8)])) w2) := Lib.hid (by
          rw [HS2.out]
          exact ⟨by decide, rfl, HCH.out.trans (Ch.of_below (T := fun _ => False) hb2) (fun n hn => hn.elim)⟩)
        clear hb2 HRD HOWN HCH HOK HSH HS2
        go_wp2
        go_ret2
        exact HP.out
    · obtain rfl : len = j := by omega
      have HP : Hid (NumsPost w B gb vb bs (Ip.numbers cnts (lob bs) p) (.returned (.tuple #[.slice (some ⟨w.heap.size, 0, none⟩) len len, .nilIface])) wr) := Lib.hid (by
        rw [List.take_of_length_le (by rw [HCL.out]; exact Nat.le_refl _)] at hns
        rw [hns]
        refine ⟨_, rfl, ?_, hrd, hch⟩
        rw [hnl]
        have e : nis ns ++ List.replicate (len - len) 0 = nis ns := by simp
        rw [e] at hown; exact hown)
      clear hns hrd hown hch HK
      go_wp2
      go_ret2
      exact HP.out
end Go.Proofs.YtfgpmccmalddjaaDoor
end
