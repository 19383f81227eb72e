/- The document's tables, step by step. -/
import Derived.Test.YtcagdnajapcmkaaDpMath
namespace Go.Proofs.Ytcagdnajapcmkaa

namespace Mg
def Tab (m : Nat) (rest : Nat → Int) (d : Nat) (f : Nat → Nat → Int) : Prop :=
  (∀ i n, i ≤ m → n ≤ m → f i n = -1 ∨ (0 ≤ f i n ∧ Path m rest d i n (f i n))) ∧ (∀ i n c, Path m rest d i n c → 0 ≤ f i n ∧ f i n ≤ c)
def Bst (m : Nat) (rest : Nat → Int) (d : Nat) (b : Int) : Prop := (b = -1 ∨ (0 ≤ b ∧ Final m rest d b)) ∧ ∀ c, Final m rest d c → 0 ≤ b ∧ b ≤ c
def opn (m i n k : Nat) : Nat := min (2 * (n - k)) (m - i - k)
structure Lvl (m : Nat) (rest : Nat → Int) (d : Nat) (f g : Nat → Nat → Int) (b : Int) (P : Nat → Nat → Nat → Prop) : Prop where
  tab : Tab m rest d f
  gs : ∀ i n, i ≤ m → n ≤ m → g i n = -1 ∨ (0 ≤ g i n ∧ Path m rest (d + 1) i n (g i n))
  gc : ∀ i n k, P i n k → 0 ≤ f i n → i ≤ m → n ≤ m → k ≤ n → i + k < m → opn m i n k ≠ 0 → 0 ≤ g (i + k) (opn m i n k) ∧ g (i + k) (opn m i n k) ≤ f i n + rest (i + k)
  bs : b = -1 ∨ (0 ≤ b ∧ Final m rest d b)
  b0 : ∀ c, Final m rest (d - 1) c → 0 ≤ b ∧ b ≤ c
  bc : ∀ i n k, P i n k → 0 ≤ f i n → i ≤ m → n ≤ m → k ≤ n → i + k = m → 0 ≤ b ∧ b ≤ f i n
def Dn (i n k : Nat) : Nat → Nat → Nat → Prop := fun i' n' k' => i' < i ∨ (i' = i ∧ (n' < n ∨ (n' = n ∧ k' < k)))
section
variable {m : Nat} {rest : Nat → Int} {d : Nat} {f g : Nat → Nat → Int} {b : Int} {P Q : Nat → Nat → Nat → Prop}
theorem Lvl.start (ht : Tab m rest d f) (hb : Bst m rest (d - 1) b) : Lvl m rest d f (fun _ _ => -1) b (Dn 0 0 0) :=
  ⟨ht, fun i n _ _ => .inl rfl, fun i n k h => by unfold Dn at h; omega, hb.1.imp id (fun h => ⟨h.1, h.2.mono (by omega)⟩), hb.2, fun i n k h => by unfold Dn at h; omega⟩
theorem Lvl.imp (h : Lvl m rest d f g b P) (hq : ∀ i n k, Q i n k → P i n k ∨ f i n < 0 ∨ ¬ (i ≤ m ∧ n ≤ m ∧ k ≤ n ∧ i + k ≤ m)) : Lvl m rest d f g b Q :=
  ⟨h.tab, h.gs, fun i n k hk h0 h1 h2 h3 h4 h5 => by
    rcases hq i n k hk with q | q | q
    · exact h.gc i n k q h0 h1 h2 h3 h4 h5
    · omega
    · omega, h.bs, h.b0, fun i n k hk h0 h1 h2 h3 h4 => by
    rcases hq i n k hk with q | q | q
    · exact h.bc i n k q h0 h1 h2 h3 h4
    · omega
    · omega⟩
theorem dn_succ {i n k i' n' k' : Nat} (h : Dn i n (k + 1) i' n' k') : Dn i n k i' n' k' ∨ (i' = i ∧ n' = n ∧ k' = k) := by
  unfold Dn at *; omega
/-- All are placed. -/
theorem Lvl.best {i n k : Nat} (h : Lvl m rest d f g b (Dn i n k)) (hi : i ≤ m) (hn : n ≤ m) (hk : k ≤ n) (he : i + k = m) (h0 : 0 ≤ f i n) (b' : Int) (hb' : (b' = f i n ∧ (b < 0 ∨ f i n < b)) ∨ (b' = b ∧ 0 ≤ b ∧ b ≤ f i n)) : Lvl m rest d f g b' (Dn i n (k + 1)) := by
  have hp : Final m rest d (f i n) := by
    rcases h.tab.1 i n hi hn with e | ⟨_, e⟩
    · omega
    · exact ⟨d, i, n, k, Nat.le_refl _, e, hk, he⟩
  have hle : 0 ≤ b' ∧ b' ≤ f i n ∧ (0 ≤ b → b' ≤ b) := by omega
  have hbs := h.bs
  refine ⟨h.tab, h.gs, fun i' n' k' hd q0 q1 q2 q3 q4 q5 => ?_, ?_, fun c hc => ?_, fun i' n' k' hd q0 q1 q2 q3 q4 => ?_⟩
  · rcases dn_succ hd with hd | ⟨rfl, rfl, rfl⟩
    · exact h.gc i' n' k' hd q0 q1 q2 q3 q4 q5
    · omega
  · right
    refine ⟨hle.1, ?_⟩
    rcases hb' with ⟨rfl, _⟩ | ⟨rfl, h1, _⟩
    · exact hp
    · rcases hbs with e | ⟨_, e⟩
      · omega
      · exact e
  · have := h.b0 c hc
    exact ⟨hle.1, by have := hle.2.2 this.1; omega⟩
  · rcases dn_succ hd with hd | ⟨rfl, rfl, rfl⟩
    · have := h.bc i' n' k' hd q0 q1 q2 q3 q4
      exact ⟨hle.1, by have := hle.2.2 this.1; omega⟩
    · exact ⟨hle.1, hle.2.1⟩
/-- Nothing is open. -/
theorem Lvl.none {i n k : Nat} (h : Lvl m rest d f g b (Dn i n k)) (he : i + k < m) (ho : opn m i n k = 0) : Lvl m rest d f g b (Dn i n (k + 1)) :=
  ⟨h.tab, h.gs, fun i' n' k' hd q0 q1 q2 q3 q4 q5 => by
    rcases dn_succ hd with hd | ⟨rfl, rfl, rfl⟩
    · exact h.gc i' n' k' hd q0 q1 q2 q3 q4 q5
    · exact absurd ho q5, h.bs, h.b0, fun i' n' k' hd q0 q1 q2 q3 q4 => by
    rcases dn_succ hd with hd | ⟨rfl, rfl, rfl⟩
    · exact h.bc i' n' k' hd q0 q1 q2 q3 q4
    · omega⟩
def upd (g : Nat → Nat → Int) (a o : Nat) (c : Int) : Nat → Nat → Int := fun i n => if i = a ∧ n = o then c else g i n
/-- Nodes are open, with a cost. -/
theorem Lvl.put {i n k : Nat} (h : Lvl m rest d f g b (Dn i n k)) (hr : ∀ i, 0 ≤ rest i) (hi : i ≤ m) (hn : n ≤ m) (hk : k ≤ n) (he : i + k < m) (h0 : 0 ≤ f i n) (ho : opn m i n k ≠ 0) (g' : Nat → Nat → Int)
    (hg' : (g' = upd g (i + k) (opn m i n k) (f i n + rest (i + k)) ∧ (g (i + k) (opn m i n k) < 0 ∨ f i n + rest (i + k) < g (i + k) (opn m i n k))) ∨ (g' = g ∧ 0 ≤ g (i + k) (opn m i n k) ∧ g (i + k) (opn m i n k) ≤ f i n + rest (i + k))) :
    Lvl m rest d f g' b (Dn i n (k + 1)) := by
  have hp : Path m rest (d + 1) (i + k) (opn m i n k) (f i n + rest (i + k)) := by
    rcases h.tab.1 i n hi hn with e | ⟨_, e⟩
    · omega
    · exact Path.step k e hk he ho
  have hr1 := hr (i + k)
  have hmono : ∀ a o, a ≤ m → o ≤ m → 0 ≤ g a o → 0 ≤ g' a o ∧ g' a o ≤ g a o := fun a o _ _ hg => by
    rcases hg' with ⟨rfl, hc⟩ | ⟨rfl, _⟩
    · unfold upd
      by_cases e : a = i + k ∧ o = opn m i n k
      · rw [if_pos e]
        obtain ⟨rfl, rfl⟩ := e
        omega
      · rw [if_neg e]; omega
    · omega
  have hown : 0 ≤ g' (i + k) (opn m i n k) ∧ g' (i + k) (opn m i n k) ≤ f i n + rest (i + k) := by
    rcases hg' with ⟨rfl, _⟩ | ⟨rfl, h1, h2⟩
    · unfold upd; rw [if_pos ⟨rfl, rfl⟩]; omega
    · exact ⟨h1, h2⟩
  refine ⟨h.tab, fun a o ha hoo => ?_, fun i' n' k' hd q0 q1 q2 q3 q4 q5 => ?_, h.bs, h.b0, fun i' n' k' hd q0 q1 q2 q3 q4 => ?_⟩
  · rcases hg' with ⟨rfl, _⟩ | ⟨rfl, _⟩
    · unfold upd
      by_cases e : a = i + k ∧ o = opn m i n k
      · rw [if_pos e]
        obtain ⟨rfl, rfl⟩ := e
        exact .inr ⟨by omega, hp⟩
      · rw [if_neg e]; exact h.gs a o ha hoo
    · exact h.gs a o ha hoo
  · rcases dn_succ hd with hd | ⟨rfl, rfl, rfl⟩
    · have h1 := h.gc i' n' k' hd q0 q1 q2 q3 q4 q5
      have h2 := hmono (i' + k') (opn m i' n' k') (by omega) (by unfold opn; omega) h1.1
      exact ⟨h2.1, by omega⟩
    · exact hown
  · rcases dn_succ hd with hd | ⟨rfl, rfl, rfl⟩
    · exact h.bc i' n' k' hd q0 q1 q2 q3 q4
    · omega
/-- A level is done. -/
theorem Lvl.done (h : Lvl m rest d f g b (Dn (m + 1) 0 0)) (hd : 1 ≤ d) : Tab m rest (d + 1) g ∧ Bst m rest d b := by
  have hall : ∀ i n k, i ≤ m → Dn (m + 1) 0 0 i n k := fun i n k hi => .inl (by omega)
  refine ⟨⟨h.gs, fun i n c hp => ?_⟩, h.bs, fun c hc => ?_⟩
  · cases hp with
    | start => omega
    | step k hp h1 h2 h3 =>
      have hle := hp.le
      have ht := h.tab.2 _ _ _ hp
      have := h.gc _ _ k (hall _ _ _ hle.1) ht.1 hle.1 hle.2 h1 h2 h3
      exact ⟨this.1, by have := this.2; show g _ (opn m _ _ _) ≤ _; omega⟩
  · obtain ⟨e, i, o, k, he, hp, h1, h2⟩ := hc
    by_cases hlt : e ≤ d - 1
    · exact h.b0 c ⟨e, i, o, k, hlt, hp, h1, h2⟩
    · obtain rfl : e = d := by omega
      have hle := hp.le
      have ht := h.tab.2 _ _ _ hp
      have := h.bc _ _ k (hall _ _ _ hle.1) ht.1 hle.1 hle.2 h1 h2
      exact ⟨this.1, by omega⟩
theorem tab_start (hr : 0 ≤ rest 0) : Tab m rest 1 (upd (fun _ _ => -1) 0 (min 2 m) (rest 0)) := by
  refine ⟨fun i n _ _ => ?_, fun i n c hp => ?_⟩
  · unfold upd
    by_cases e : i = 0 ∧ n = min 2 m
    · rw [if_pos e]
      obtain ⟨rfl, rfl⟩ := e
      exact .inr ⟨hr, Path.start⟩
    · rw [if_neg e]; exact .inl rfl
  · cases hp with
    | start => unfold upd; rw [if_pos ⟨rfl, rfl⟩]; omega
    | step k hp => have := hp.pos; omega
theorem bst_start : Bst m rest 0 (-1) := ⟨.inl rfl, fun c hc => by
  obtain ⟨d, i, o, k, hd, hp, _⟩ := hc
  have := hp.pos; omega⟩
end
end Mg
end Go.Proofs.Ytcagdnajapcmkaa
