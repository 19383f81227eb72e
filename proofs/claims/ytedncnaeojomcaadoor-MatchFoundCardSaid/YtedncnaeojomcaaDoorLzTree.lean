/- Trees of places: in the order of what stands there from left to right, and the latest above. -/
import Derived.Test.YtedncnaeojomcaaDoorLzMath
namespace Go.Proofs.YtedncnaeojomcaaDoor.Lz
inductive T where
  | nil : T
  | node : Nat → T → T → T
/-- The places of a tree. -/
def T.mem : T → Nat → Prop
  | .nil, _ => False
  | .node x l r, y => y = x ∨ l.mem y ∨ r.mem y
/-- A tree in order, as far as n bytes tell. -/
def Ok (b : Nat → Nat) (n : Nat) : T → Prop
  | .nil => True
  | .node x l r => (∀ y, l.mem y → y < x ∧ le b n y x) ∧ (∀ y, r.mem y → y < x ∧ le b n x y) ∧ (∀ y, l.mem y → ¬ r.mem y) ∧ Ok b n l ∧ Ok b n r
theorem Ok.less {b : Nat → Nat} {m n : Nat} (hm : m ≤ n) : ∀ {t : T}, Ok b n t → Ok b m t
  | .nil, _ => trivial
  | .node _ _ _, h => ⟨fun y hy => ⟨(h.1 y hy).1, le_less (h.1 y hy).2 hm⟩, fun y hy => ⟨(h.2.1 y hy).1, le_less (h.2.1 y hy).2 hm⟩, h.2.2.1, h.2.2.2.1.less hm, h.2.2.2.2.less hm⟩
/-- A tree split at a new place: what is less, and what is greater; without what is too far, and without one that is all alike. -/
def split (b : Nat → Nat) (t n : Nat) : T → T × T
  | .nil => (.nil, .nil)
  | .node x l r =>
    if 32768 < t - x then (.nil, .nil)
    else if cp b x t n = n then (l, r)
    else if b (x + cp b x t n) < b (t + cp b x t n) then (.node x l (split b t n r).1, (split b t n r).2)
    else ((split b t n l).1, .node x (split b t n l).2 r)
/-- The records on the way down. -/
def recs (b : Nat → Nat) (t n : Nat) : Nat → T → List (Nat × Nat)
  | _, .nil => []
  | g, .node x l r =>
    if 32768 < t - x then []
    else (if g < cp b x t n then [(cp b x t n, t - x)] else []) ++
      (if cp b x t n = n then []
       else if b (x + cp b x t n) < b (t + cp b x t n) then recs b t n (max g (cp b x t n)) r
       else recs b t n (max g (cp b x t n)) l)
section
variable {b : Nat → Nat} {t n : Nat}
theorem split_mem : ∀ {s : T}, (∀ y, (split b t n s).1.mem y → s.mem y) ∧ (∀ y, (split b t n s).2.mem y → s.mem y)
  | .nil => ⟨fun _ h => h, fun _ h => h⟩
  | .node x l r => by
    have hl := @split_mem l
    have hr := @split_mem r
    unfold split
    split
    · exact ⟨fun _ h => h.elim, fun _ h => h.elim⟩
    split
    · exact ⟨fun _ h => .inr (.inl h), fun _ h => .inr (.inr h)⟩
    split
    · refine ⟨fun y h => ?_, fun y h => .inr (.inr (hr.2 y h))⟩
      rcases h with h | h | h
      · exact .inl h
      · exact .inr (.inl h)
      · exact .inr (.inr (hr.1 y h))
    · refine ⟨fun y h => .inr (.inl (hl.1 y h)), fun y h => ?_⟩
      rcases h with h | h | h
      · exact .inl h
      · exact .inr (.inl (hl.2 y h))
      · exact .inr (.inr h)
theorem less_le {x : Nat} (h1 : b (x + cp b x t n) < b (t + cp b x t n)) : le b n x t := .inr h1
theorem more_le {x : Nat} (h0 : cp b x t n ≠ n) (h1 : ¬ b (x + cp b x t n) < b (t + cp b x t n)) : le b n t x := by
  have h2 := cp_le b n x t
  have h3 := cp_ne b n x t (by omega)
  refine .inr ?_
  rw [cp_comm b t x n]
  omega
theorem like_le {x : Nat} (h : cp b x t n = n) : le b n x t ∧ le b n t x := ⟨.inl h, .inl (by rw [cp_comm]; exact h)⟩
theorem split_ord : ∀ {s : T}, Ok b n s → (∀ y, (split b t n s).1.mem y → le b n y t) ∧ (∀ y, (split b t n s).2.mem y → le b n t y)
  | .nil, _ => ⟨fun _ h => h.elim, fun _ h => h.elim⟩
  | .node x l r, h => by
    have hl := @split_ord l h.2.2.2.1
    have hr := @split_ord r h.2.2.2.2
    unfold split
    split
    · exact ⟨fun _ h => h.elim, fun _ h => h.elim⟩
    split
    · rename_i hc
      have := like_le hc
      exact ⟨fun y hy => (between (h.1 y hy).2 this.1).1, fun y hy => (between this.2 (h.2.1 y hy).2).1⟩
    split
    · rename_i hc
      have hx := less_le hc
      refine ⟨fun y hy => ?_, hr.2⟩
      rcases hy with rfl | hy | hy
      · exact hx
      · exact (between (h.1 y hy).2 hx).1
      · exact hr.1 y hy
    · rename_i hc0 hc
      have hx := more_le hc0 hc
      refine ⟨hl.1, fun y hy => ?_⟩
      rcases hy with rfl | hy | hy
      · exact hx
      · exact hl.2 y hy
      · exact (between hx (h.2.1 y hy).2).1
theorem split_apart : ∀ {s : T}, Ok b n s → ∀ y, (split b t n s).1.mem y → ¬ (split b t n s).2.mem y
  | .nil, _ => fun _ h => h.elim
  | .node x l r, h => by
    have hl := @split_apart l h.2.2.2.1
    have hr := @split_apart r h.2.2.2.2
    have ml := @split_mem b t n l
    have mr := @split_mem b t n r
    unfold split
    split
    · exact fun _ h => h.elim
    split
    · exact h.2.2.1
    split
    · intro y hy h2
      have h3 := mr.2 y h2
      rcases hy with rfl | hy | hy
      · have := (h.2.1 _ h3).1; omega
      · exact h.2.2.1 y hy h3
      · exact hr y hy h2
    · intro y hy h2
      have h3 := ml.1 y hy
      rcases h2 with rfl | h2 | h2
      · have := (h.1 _ h3).1; omega
      · exact hl y hy h2
      · exact h.2.2.1 y h3 h2
theorem split_ok : ∀ {s : T}, Ok b n s → Ok b n (split b t n s).1 ∧ Ok b n (split b t n s).2
  | .nil, _ => ⟨trivial, trivial⟩
  | .node x l r, h => by
    have hl := @split_ok l h.2.2.2.1
    have hr := @split_ok r h.2.2.2.2
    have ml := @split_mem b t n l
    have mr := @split_mem b t n r
    unfold split
    split
    · exact ⟨trivial, trivial⟩
    split
    · exact ⟨h.2.2.2.1, h.2.2.2.2⟩
    split
    · exact ⟨⟨h.1, fun y hy => h.2.1 y (mr.1 y hy), fun y hy h2 => h.2.2.1 y hy (mr.1 y h2), h.2.2.2.1, hr.1⟩, hr.2⟩
    · exact ⟨hl.1, ⟨fun y hy => h.1 y (ml.2 y hy), h.2.1, fun y hy h2 => h.2.2.1 y (ml.2 y hy) h2, hl.2, h.2.2.2.2⟩⟩
/-- The new tree is in order. -/
theorem new_ok {s : T} (h : Ok b n s) (ht : ∀ y, s.mem y → y < t) : Ok b n (.node t (split b t n s).1 (split b t n s).2) :=
  ⟨fun y hy => ⟨ht y (split_mem.1 y hy), (split_ord h).1 y hy⟩, fun y hy => ⟨ht y (split_mem.2 y hy), (split_ord h).2 y hy⟩, split_apart h, (split_ok h).1, (split_ok h).2⟩
/-- What isn't too far stays, but for one that is all alike. -/
theorem split_keeps : ∀ {s : T}, Ok b n s → ∀ y, s.mem y → t - y ≤ 32768 → (split b t n s).1.mem y ∨ (split b t n s).2.mem y ∨ cp b y t n = n
  | .nil, _ => fun _ h => h.elim
  | .node x l r, h => by
    have hl := @split_keeps l h.2.2.2.1
    have hr := @split_keeps r h.2.2.2.2
    intro y hy hf
    have hyx : y ≤ x := by
      rcases hy with rfl | hy | hy
      · exact Nat.le_refl _
      · exact Nat.le_of_lt (h.1 y hy).1
      · exact Nat.le_of_lt (h.2.1 y hy).1
    unfold split
    split
    · omega
    split
    · rename_i hc
      rcases hy with rfl | hy | hy
      · exact .inr (.inr hc)
      · exact .inl hy
      · exact .inr (.inl hy)
    split
    · rcases hy with rfl | hy | hy
      · exact .inl (.inl rfl)
      · exact .inl (.inr (.inl hy))
      · rcases hr y hy hf with h1 | h1 | h1
        · exact .inl (.inr (.inr h1))
        · exact .inr (.inl h1)
        · exact .inr (.inr h1)
    · rcases hy with rfl | hy | hy
      · exact .inr (.inl (.inl rfl))
      · rcases hl y hy hf with h1 | h1 | h1
        · exact .inl h1
        · exact .inr (.inl (.inr (.inl h1)))
        · exact .inr (.inr h1)
      · exact .inr (.inl (.inr (.inr hy)))
/-- Where records come from. -/
theorem recs_from : ∀ {g : Nat} {s : T}, Ok b n s → (∀ y, s.mem y → y < t) → ∀ q, q ∈ recs b t n g s → ∃ y, s.mem y ∧ q = (cp b y t n, t - y) ∧ g < cp b y t n ∧ t - y ≤ 32768
  | _, .nil, _, _ => fun _ h => by simp [recs] at h
  | g, .node x l r, h, ht => by
    have hl := fun g => @recs_from g l h.2.2.2.1 (fun y hy => ht y (.inr (.inl hy)))
    have hr := fun g => @recs_from g r h.2.2.2.2 (fun y hy => ht y (.inr (.inr hy)))
    intro q hq
    unfold recs at hq
    split at hq
    · simp at hq
    rename_i hf
    rw [List.mem_append] at hq
    rcases hq with hq | hq
    · split at hq
      · rename_i hg
        simp only [List.mem_singleton] at hq
        exact ⟨x, .inl rfl, hq, hg, by omega⟩
      · simp at hq
    · split at hq
      · simp at hq
      split at hq
      · obtain ⟨y, h1, h2, h3, h4⟩ := hr _ q hq
        exact ⟨y, .inr (.inr h1), h2, by omega, h4⟩
      · obtain ⟨y, h1, h2, h3, h4⟩ := hl _ q hq
        exact ⟨y, .inr (.inl h1), h2, by omega, h4⟩
/-- Records rise, and they are ever farther. -/
theorem recs_rise : ∀ {g : Nat} {s : T}, Ok b n s → (∀ y, s.mem y → y < t) → (recs b t n g s).Pairwise (fun p q => p.1 < q.1 ∧ p.2 < q.2)
  | _, .nil, _, _ => by simp [recs]
  | g, .node x l r, h, ht => by
    have hl := fun g => @recs_rise g l h.2.2.2.1 (fun y hy => ht y (.inr (.inl hy)))
    have hr := fun g => @recs_rise g r h.2.2.2.2 (fun y hy => ht y (.inr (.inr hy)))
    have fl := fun g => @recs_from b t n g l h.2.2.2.1 (fun y hy => ht y (.inr (.inl hy)))
    have fr := fun g => @recs_from b t n g r h.2.2.2.2 (fun y hy => ht y (.inr (.inr hy)))
    have hx := ht x (.inl rfl)
    unfold recs
    split
    · exact List.Pairwise.nil
    rw [List.pairwise_append]
    refine ⟨by split <;> simp, ?_, ?_⟩
    · split
      · exact List.Pairwise.nil
      split
      · exact hr _
      · exact hl _
    · intro p hp q hq
      split at hp
      · simp only [List.mem_singleton] at hp
        subst hp
        split at hq
        · simp at hq
        split at hq
        · obtain ⟨y, h1, rfl, h3, _⟩ := fr _ q hq
          have := (h.2.1 y h1).1
          exact ⟨by show cp b x t n < cp b y t n; omega, by show t - x < t - y; omega⟩
        · obtain ⟨y, h1, rfl, h3, _⟩ := fl _ q hq
          have := (h.1 y h1).1
          exact ⟨by show cp b x t n < cp b y t n; omega, by show t - x < t - y; omega⟩
      · simp at hp
/-- No place that isn't too far has more in common than a record that is no farther. -/
theorem recs_all : ∀ {g : Nat} {s : T}, Ok b n s → (∀ y, s.mem y → y < t) → ∀ y, s.mem y → t - y ≤ 32768 → cp b y t n ≤ g ∨ ∃ q, q ∈ recs b t n g s ∧ q.2 ≤ t - y ∧ cp b y t n ≤ q.1
  | _, .nil, _, _ => fun _ h => h.elim
  | g, .node x l r, h, ht => by
    have hl := fun g => @recs_all g l h.2.2.2.1 (fun y hy => ht y (.inr (.inl hy)))
    have hr := fun g => @recs_all g r h.2.2.2.2 (fun y hy => ht y (.inr (.inr hy)))
    intro y hy hf
    have hyx : y ≤ x := by
      rcases hy with rfl | hy | hy
      · exact Nat.le_refl _
      · exact Nat.le_of_lt (h.1 y hy).1
      · exact Nat.le_of_lt (h.2.1 y hy).1
    have hx := ht x (.inl rfl)
    unfold recs
    rw [if_neg (by omega)]
    -- what x itself has in common, or less
    have own : cp b y t n ≤ cp b x t n → cp b y t n ≤ g ∨ ∃ q, q ∈ (if g < cp b x t n then [(cp b x t n, t - x)] else []) ∧ q.2 ≤ t - y ∧ cp b y t n ≤ q.1 := fun hle => by
      by_cases hg : g < cp b x t n
      · rw [if_pos hg]
        exact .inr ⟨_, List.mem_singleton.2 rfl, by show t - x ≤ t - y; omega, hle⟩
      · exact .inl (by omega)
    have wrap : (cp b y t n ≤ g ∨ ∃ q, q ∈ (if g < cp b x t n then [(cp b x t n, t - x)] else []) ∧ q.2 ≤ t - y ∧ cp b y t n ≤ q.1) → ∀ rest, (cp b y t n ≤ g ∨ ∃ q, q ∈ (if g < cp b x t n then [(cp b x t n, t - x)] else []) ++ rest ∧ q.2 ≤ t - y ∧ cp b y t n ≤ q.1) := fun h0 rest => by
      rcases h0 with h0 | ⟨q, h1, h2, h3⟩
      · exact .inl h0
      · exact .inr ⟨q, List.mem_append.2 (.inl h1), h2, h3⟩
    have hyn := cp_le b n y t
    by_cases hc : cp b x t n = n
    · exact wrap (own (by omega)) _
    rw [if_neg hc]
    have go : ∀ (u : T), (cp b y t n ≤ max g (cp b x t n) ∨ ∃ q, q ∈ recs b t n (max g (cp b x t n)) u ∧ q.2 ≤ t - y ∧ cp b y t n ≤ q.1) → cp b y t n ≤ g ∨ ∃ q, q ∈ (if g < cp b x t n then [(cp b x t n, t - x)] else []) ++ recs b t n (max g (cp b x t n)) u ∧ q.2 ≤ t - y ∧ cp b y t n ≤ q.1 := fun u h0 => by
      rcases h0 with h0 | ⟨q, h1, h2, h3⟩
      · by_cases hg : cp b y t n ≤ g
        · exact .inl hg
        · exact wrap (own (by omega)) _
      · exact .inr ⟨q, List.mem_append.2 (.inr h1), h2, h3⟩
    by_cases hlt : b (x + cp b x t n) < b (t + cp b x t n)
    · rw [if_pos hlt]
      have hxt := less_le hlt
      rcases hy with rfl | hy | hy
      · exact wrap (own (Nat.le_refl _)) _
      · exact wrap (own (between (h.1 y hy).2 hxt).2.2) _
      · exact go r (hr _ y hy hf)
    · rw [if_neg hlt]
      have hxt := more_le hc hlt
      rcases hy with rfl | hy | hy
      · exact wrap (own (Nat.le_refl _)) _
      · exact go l (hl _ y hy hf)
      · refine wrap (own ?_) _
        have := (between hxt (h.2.1 y hy).2).2.1
        rwa [cp_comm b t y n, cp_comm b t x n] at this
end
end Go.Proofs.YtedncnaeojomcaaDoor.Lz
