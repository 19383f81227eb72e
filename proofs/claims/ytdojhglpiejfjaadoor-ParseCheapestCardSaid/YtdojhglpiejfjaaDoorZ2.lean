/- Trees of places: in the order of what stands there from left to right, and the latest above. The forest of a text's places: what a new place finds, and how it is entered. The nearest match of a length, by a place's records. What is nearest at a place, by its records. -/
import Derived.Test.YtdojhglpiejfjaaDoorZ1
set_option linter.unusedSimpArgs false
set_option linter.unusedVariables false
section
namespace Go.Proofs.YtdojhglpiejfjaaDoor.Lz
inductive T where
  | nil : T
  | node : Nat → T → T → T
/-- The places of a tree. -/
def T.mem : T → Nat → Prop
  | .nil, _ => False
  | .node x l r, y => y = x ∨ l.mem y ∨ r.mem y
/-- A tree in order, as far as n bytes tell. -/
def Ok (b : Nat → Nat) (n : Nat) : T → Prop
  | .nil => True
  | .node x l r => (∀ y, l.mem y → y < x ∧ le b n y x) ∧ (∀ y, r.mem y → y < x ∧ le b n x y) ∧ (∀ y, l.mem y → ¬ r.mem y) ∧ Ok b n l ∧ Ok b n r
theorem Ok.less {b : Nat → Nat} {m n : Nat} (hm : m ≤ n) : ∀ {t : T}, Ok b n t → Ok b m t
  | .nil, _ => trivial
  | .node _ _ _, h => ⟨fun y hy => ⟨(h.1 y hy).1, le_less (h.1 y hy).2 hm⟩, fun y hy => ⟨(h.2.1 y hy).1, le_less (h.2.1 y hy).2 hm⟩, h.2.2.1, h.2.2.2.1.less hm, h.2.2.2.2.less hm⟩
/-- A tree split at a new place: what is less, and what is greater; without what is too far, and without one that is all alike. -/
def split (b : Nat → Nat) (t n : Nat) : T → T × T
  | .nil => (.nil, .nil)
  | .node x l r =>
    if 32768 < t - x then (.nil, .nil)
    else if cp b x t n = n then (l, r)
    else if b (x + cp b x t n) < b (t + cp b x t n) then (.node x l (split b t n r).1, (split b t n r).2)
    else ((split b t n l).1, .node x (split b t n l).2 r)
/-- The records on the way down. -/
def recs (b : Nat → Nat) (t n : Nat) : Nat → T → List (Nat × Nat)
  | _, .nil => []
  | g, .node x l r =>
    if 32768 < t - x then []
    else (if g < cp b x t n then [(cp b x t n, t - x)] else []) ++
      (if cp b x t n = n then []
       else if b (x + cp b x t n) < b (t + cp b x t n) then recs b t n (max g (cp b x t n)) r
       else recs b t n (max g (cp b x t n)) l)
section
variable {b : Nat → Nat} {t n : Nat}
theorem split_mem : ∀ {s : T}, (∀ y, (split b t n s).1.mem y → s.mem y) ∧ (∀ y, (split b t n s).2.mem y → s.mem y)
  | .nil => ⟨fun _ h => h, fun _ h => h⟩
  | .node x l r => by
    have hl := @split_mem l
    have hr := @split_mem r
    unfold split
    split
    · exact ⟨fun _ h => h.elim, fun _ h => h.elim⟩
    split
    · exact ⟨fun _ h => .inr (.inl h), fun _ h => .inr (.inr h)⟩
    split
    · refine ⟨fun y h => ?_, fun y h => .inr (.inr (hr.2 y h))⟩
      rcases h with h | h | h
      · exact .inl h
      · exact .inr (.inl h)
      · exact .inr (.inr (hr.1 y h))
    · refine ⟨fun y h => .inr (.inl (hl.1 y h)), fun y h => ?_⟩
      rcases h with h | h | h
      · exact .inl h
      · exact .inr (.inl (hl.2 y h))
      · exact .inr (.inr h)
theorem less_le {x : Nat} (h1 : b (x + cp b x t n) < b (t + cp b x t n)) : le b n x t := .inr h1
theorem more_le {x : Nat} (h0 : cp b x t n ≠ n) (h1 : ¬ b (x + cp b x t n) < b (t + cp b x t n)) : le b n t x := by
  have h2 := cp_le b n x t
  have h3 := cp_ne b n x t (by omega)
  refine .inr ?_
  rw [cp_comm b t x n]
  omega
theorem like_le {x : Nat} (h : cp b x t n = n) : le b n x t ∧ le b n t x := ⟨.inl h, .inl (by rw [cp_comm]; exact h)⟩
theorem split_ord : ∀ {s : T}, Ok b n s → (∀ y, (split b t n s).1.mem y → le b n y t) ∧ (∀ y, (split b t n s).2.mem y → le b n t y)
  | .nil, _ => ⟨fun _ h => h.elim, fun _ h => h.elim⟩
  | .node x l r, h => by
    have hl := @split_ord l h.2.2.2.1
    have hr := @split_ord r h.2.2.2.2
    unfold split
    split
    · exact ⟨fun _ h => h.elim, fun _ h => h.elim⟩
    split
    · rename_i hc
      have := like_le hc
      exact ⟨fun y hy => (between (h.1 y hy).2 this.1).1, fun y hy => (between this.2 (h.2.1 y hy).2).1⟩
    split
    · rename_i hc
      have hx := less_le hc
      refine ⟨fun y hy => ?_, hr.2⟩
      rcases hy with rfl | hy | hy
      · exact hx
      · exact (between (h.1 y hy).2 hx).1
      · exact hr.1 y hy
    · rename_i hc0 hc
      have hx := more_le hc0 hc
      refine ⟨hl.1, fun y hy => ?_⟩
      rcases hy with rfl | hy | hy
      · exact hx
      · exact hl.2 y hy
      · exact (between hx (h.2.1 y hy).2).1
theorem split_apart : ∀ {s : T}, Ok b n s → ∀ y, (split b t n s).1.mem y → ¬ (split b t n s).2.mem y
  | .nil, _ => fun _ h => h.elim
  | .node x l r, h => by
    have hl := @split_apart l h.2.2.2.1
    have hr := @split_apart r h.2.2.2.2
    have ml := @split_mem b t n l
    have mr := @split_mem b t n r
    unfold split
    split
    · exact fun _ h => h.elim
    split
    · exact h.2.2.1
    split
    · intro y hy h2
      have h3 := mr.2 y h2
      rcases hy with rfl | hy | hy
      · have := (h.2.1 _ h3).1; omega
      · exact h.2.2.1 y hy h3
      · exact hr y hy h2
    · intro y hy h2
      have h3 := ml.1 y hy
      rcases h2 with rfl | h2 | h2
      · have := (h.1 _ h3).1; omega
      · exact hl y hy h2
      · exact h.2.2.1 y h3 h2
theorem split_ok : ∀ {s : T}, Ok b n s → Ok b n (split b t n s).1 ∧ Ok b n (split b t n s).2
  | .nil, _ => ⟨trivial, trivial⟩
  | .node x l r, h => by
    have hl := @split_ok l h.2.2.2.1
    have hr := @split_ok r h.2.2.2.2
    have ml := @split_mem b t n l
    have mr := @split_mem b t n r
    unfold split
    split
    · exact ⟨trivial, trivial⟩
    split
    · exact ⟨h.2.2.2.1, h.2.2.2.2⟩
    split
    · exact ⟨⟨h.1, fun y hy => h.2.1 y (mr.1 y hy), fun y hy h2 => h.2.2.1 y hy (mr.1 y h2), h.2.2.2.1, hr.1⟩, hr.2⟩
    · exact ⟨hl.1, ⟨fun y hy => h.1 y (ml.2 y hy), h.2.1, fun y hy h2 => h.2.2.1 y (ml.2 y hy) h2, hl.2, h.2.2.2.2⟩⟩
/-- The new tree is in order. -/
theorem new_ok {s : T} (h : Ok b n s) (ht : ∀ y, s.mem y → y < t) : Ok b n (.node t (split b t n s).1 (split b t n s).2) :=
  ⟨fun y hy => ⟨ht y (split_mem.1 y hy), (split_ord h).1 y hy⟩, fun y hy => ⟨ht y (split_mem.2 y hy), (split_ord h).2 y hy⟩, split_apart h, (split_ok h).1, (split_ok h).2⟩
/-- What isn't too far stays, but for one that is all alike. -/
theorem split_keeps : ∀ {s : T}, Ok b n s → ∀ y, s.mem y → t - y ≤ 32768 → (split b t n s).1.mem y ∨ (split b t n s).2.mem y ∨ cp b y t n = n
  | .nil, _ => fun _ h => h.elim
  | .node x l r, h => by
    have hl := @split_keeps l h.2.2.2.1
    have hr := @split_keeps r h.2.2.2.2
    intro y hy hf
    have hyx : y ≤ x := by
      rcases hy with rfl | hy | hy
      · exact Nat.le_refl _
      · exact Nat.le_of_lt (h.1 y hy).1
      · exact Nat.le_of_lt (h.2.1 y hy).1
    unfold split
    split
    · omega
    split
    · rename_i hc
      rcases hy with rfl | hy | hy
      · exact .inr (.inr hc)
      · exact .inl hy
      · exact .inr (.inl hy)
    split
    · rcases hy with rfl | hy | hy
      · exact .inl (.inl rfl)
      · exact .inl (.inr (.inl hy))
      · rcases hr y hy hf with h1 | h1 | h1
        · exact .inl (.inr (.inr h1))
        · exact .inr (.inl h1)
        · exact .inr (.inr h1)
    · rcases hy with rfl | hy | hy
      · exact .inr (.inl (.inl rfl))
      · rcases hl y hy hf with h1 | h1 | h1
        · exact .inl h1
        · exact .inr (.inl (.inr (.inl h1)))
        · exact .inr (.inr h1)
      · exact .inr (.inl (.inr (.inr hy)))
/-- Where records come from. -/
theorem recs_from : ∀ {g : Nat} {s : T}, Ok b n s → (∀ y, s.mem y → y < t) → ∀ q, q ∈ recs b t n g s → ∃ y, s.mem y ∧ q = (cp b y t n, t - y) ∧ g < cp b y t n ∧ t - y ≤ 32768
  | _, .nil, _, _ => fun _ h => by simp [recs] at h
  | g, .node x l r, h, ht => by
    have hl := fun g => @recs_from g l h.2.2.2.1 (fun y hy => ht y (.inr (.inl hy)))
    have hr := fun g => @recs_from g r h.2.2.2.2 (fun y hy => ht y (.inr (.inr hy)))
    intro q hq
    unfold recs at hq
    split at hq
    · simp at hq
    rename_i hf
    rw [List.mem_append] at hq
    rcases hq with hq | hq
    · split at hq
      · rename_i hg
        simp only [List.mem_singleton] at hq
        exact ⟨x, .inl rfl, hq, hg, by omega⟩
      · simp at hq
    · split at hq
      · simp at hq
      split at hq
      · obtain ⟨y, h1, h2, h3, h4⟩ := hr _ q hq
        exact ⟨y, .inr (.inr h1), h2, by omega, h4⟩
      · obtain ⟨y, h1, h2, h3, h4⟩ := hl _ q hq
        exact ⟨y, .inr (.inl h1), h2, by omega, h4⟩
/-- Records rise, and they are ever farther. -/
theorem recs_rise : ∀ {g : Nat} {s : T}, Ok b n s → (∀ y, s.mem y → y < t) → (recs b t n g s).Pairwise (fun p q => p.1 < q.1 ∧ p.2 < q.2)
  | _, .nil, _, _ => by simp [recs]
  | g, .node x l r, h, ht => by
    have hl := fun g => @recs_rise g l h.2.2.2.1 (fun y hy => ht y (.inr (.inl hy)))
    have hr := fun g => @recs_rise g r h.2.2.2.2 (fun y hy => ht y (.inr (.inr hy)))
    have fl := fun g => @recs_from b t n g l h.2.2.2.1 (fun y hy => ht y (.inr (.inl hy)))
    have fr := fun g => @recs_from b t n g r h.2.2.2.2 (fun y hy => ht y (.inr (.inr hy)))
    have hx := ht x (.inl rfl)
    unfold recs
    split
    · exact List.Pairwise.nil
    rw [List.pairwise_append]
    refine ⟨by split <;> simp, ?_, ?_⟩
    · split
      · exact List.Pairwise.nil
      split
      · exact hr _
      · exact hl _
    · intro p hp q hq
      split at hp
      · simp only [List.mem_singleton] at hp
        subst hp
        split at hq
        · simp at hq
        split at hq
        · obtain ⟨y, h1, rfl, h3, _⟩ := fr _ q hq
          have := (h.2.1 y h1).1
          exact ⟨by show cp b x t n < cp b y t n; omega, by show t - x < t - y; omega⟩
        · obtain ⟨y, h1, rfl, h3, _⟩ := fl _ q hq
          have := (h.1 y h1).1
          exact ⟨by show cp b x t n < cp b y t n; omega, by show t - x < t - y; omega⟩
      · simp at hp
/-- No place that isn't too far has more in common than a record that is no farther. -/
theorem recs_all : ∀ {g : Nat} {s : T}, Ok b n s → (∀ y, s.mem y → y < t) → ∀ y, s.mem y → t - y ≤ 32768 → cp b y t n ≤ g ∨ ∃ q, q ∈ recs b t n g s ∧ q.2 ≤ t - y ∧ cp b y t n ≤ q.1
  | _, .nil, _, _ => fun _ h => h.elim
  | g, .node x l r, h, ht => by
    have hl := fun g => @recs_all g l h.2.2.2.1 (fun y hy => ht y (.inr (.inl hy)))
    have hr := fun g => @recs_all g r h.2.2.2.2 (fun y hy => ht y (.inr (.inr hy)))
    intro y hy hf
    have hyx : y ≤ x := by
      rcases hy with rfl | hy | hy
      · exact Nat.le_refl _
      · exact Nat.le_of_lt (h.1 y hy).1
      · exact Nat.le_of_lt (h.2.1 y hy).1
    have hx := ht x (.inl rfl)
    unfold recs
    rw [if_neg (by omega)]
    -- what x itself has in common, or less
    have own : cp b y t n ≤ cp b x t n → cp b y t n ≤ g ∨ ∃ q, q ∈ (if g < cp b x t n then [(cp b x t n, t - x)] else []) ∧ q.2 ≤ t - y ∧ cp b y t n ≤ q.1 := fun hle => by
      by_cases hg : g < cp b x t n
      · rw [if_pos hg]
        exact .inr ⟨_, List.mem_singleton.2 rfl, by show t - x ≤ t - y; omega, hle⟩
      · exact .inl (by omega)
    have wrap : (cp b y t n ≤ g ∨ ∃ q, q ∈ (if g < cp b x t n then [(cp b x t n, t - x)] else []) ∧ q.2 ≤ t - y ∧ cp b y t n ≤ q.1) → ∀ rest, (cp b y t n ≤ g ∨ ∃ q, q ∈ (if g < cp b x t n then [(cp b x t n, t - x)] else []) ++ rest ∧ q.2 ≤ t - y ∧ cp b y t n ≤ q.1) := fun h0 rest => by
      rcases h0 with h0 | ⟨q, h1, h2, h3⟩
      · exact .inl h0
      · exact .inr ⟨q, List.mem_append.2 (.inl h1), h2, h3⟩
    have hyn := cp_le b n y t
    by_cases hc : cp b x t n = n
    · exact wrap (own (by omega)) _
    rw [if_neg hc]
    have go : ∀ (u : T), (cp b y t n ≤ max g (cp b x t n) ∨ ∃ q, q ∈ recs b t n (max g (cp b x t n)) u ∧ q.2 ≤ t - y ∧ cp b y t n ≤ q.1) → cp b y t n ≤ g ∨ ∃ q, q ∈ (if g < cp b x t n then [(cp b x t n, t - x)] else []) ++ recs b t n (max g (cp b x t n)) u ∧ q.2 ≤ t - y ∧ cp b y t n ≤ q.1 := fun u h0 => by
      rcases h0 with h0 | ⟨q, h1, h2, h3⟩
      · by_cases hg : cp b y t n ≤ g
        · exact .inl hg
        · exact wrap (own (by omega)) _
      · exact .inr ⟨q, List.mem_append.2 (.inr h1), h2, h3⟩
    by_cases hlt : b (x + cp b x t n) < b (t + cp b x t n)
    · rw [if_pos hlt]
      have hxt := less_le hlt
      rcases hy with rfl | hy | hy
      · exact wrap (own (Nat.le_refl _)) _
      · exact wrap (own (between (h.1 y hy).2 hxt).2.2) _
      · exact go r (hr _ y hy hf)
    · rw [if_neg hlt]
      have hxt := more_le hc hlt
      rcases hy with rfl | hy | hy
      · exact wrap (own (Nat.le_refl _)) _
      · exact go l (hl _ y hy hf)
      · refine wrap (own ?_) _
        have := (between hxt (h.2.1 y hy).2).2.1
        rwa [cp_comm b t y n, cp_comm b t x n] at this
end
end Go.Proofs.YtdojhglpiejfjaaDoor.Lz
end

section
namespace Go.Proofs.YtdojhglpiejfjaaDoor.Lz
/-- How many bytes count at a place. -/
def L (N t : Nat) : Nat := min 258 (N - t)
/-- The three bytes that a place begins with. -/
def key (b : Nat → Nat) (z : Nat) : Nat × Nat × Nat := (b z, b (z + 1), b (z + 2))
/-- The records of a place: matches that are longer than all nearer ones. -/
def Rec (b : Nat → Nat) (N t : Nat) (R : List (Nat × Nat)) : Prop :=
  R.Pairwise (fun p q => p.1 < q.1 ∧ p.2 < q.2) ∧
  (∀ q, q ∈ R → 1 ≤ q.2 ∧ q.2 ≤ t ∧ q.2 ≤ 32768 ∧ 3 ≤ q.1 ∧ q.1 = cp b (t - q.2) t (L N t)) ∧
  (∀ far, 1 ≤ far → far ≤ t → far ≤ 32768 → 3 ≤ cp b (t - far) t (L N t) → ∃ q, q ∈ R ∧ q.2 ≤ far ∧ cp b (t - far) t (L N t) ≤ q.1)
/-- The trees by their three bytes, when all places ahead of t have been entered. -/
structure Fo (b : Nat → Nat) (N t : Nat) (tr : Nat × Nat × Nat → T) : Prop where
  ok : ∀ k, Ok b (L N t) (tr k)
  mem : ∀ k y, (tr k).mem y → y < t ∧ y + 3 ≤ N ∧ key b y = k
  cov : ∀ z, z < t → z + 3 ≤ N → t - z ≤ 32768 → ∃ y, (tr (key b z)).mem y ∧ z ≤ y ∧ cp b z y (L N t) = L N t
theorem L_less (N t : Nat) : L N (t + 1) ≤ L N t := by unfold L; omega
theorem key_cp {b : Nat → Nat} {x y n : Nat} (h : key b x = key b y) (hn : 3 ≤ n) : 3 ≤ cp b x y n := by
  simp only [key, Prod.mk.injEq] at h
  refine cp_ge hn (fun i hi => ?_)
  rcases (show i = 0 ∨ i = 1 ∨ i = 2 by omega) with rfl | rfl | rfl
  · exact h.1
  · exact h.2.1
  · exact h.2.2
theorem cp_key {b : Nat → Nat} {x y n : Nat} (h : 3 ≤ cp b x y n) : key b x = key b y := by
  simp only [key, Prod.mk.injEq]
  exact ⟨cp_eq b n x y 0 (by omega), cp_eq b n x y 1 (by omega), cp_eq b n x y 2 (by omega)⟩
theorem fo_nil (b : Nat → Nat) (N : Nat) : Fo b N 0 (fun _ => .nil) := ⟨fun _ => trivial, fun _ _ h => h.elim, fun z hz => absurd hz (by omega)⟩
theorem Fo.short {b : Nat → Nat} {N t : Nat} {tr : Nat × Nat × Nat → T} (h : Fo b N t tr) (ht : N < t + 3) : Fo b N (t + 1) tr ∧ Rec b N t [] := by
  refine ⟨⟨fun k => (h.ok k).less (L_less N t), fun k y hy => ⟨by have := (h.mem k y hy).1; omega, (h.mem k y hy).2⟩, fun z hz h3 hf => ?_⟩, List.Pairwise.nil, fun q hq => by simp at hq, fun far h1 h2 h3 h4 => ?_⟩
  · obtain ⟨y, h1, h2, h4⟩ := h.cov z (by omega) h3 (by omega)
    have := L_less N t
    exact ⟨y, h1, h2, by rw [cp_min b z y this, h4]; omega⟩
  · have := cp_le b (L N t) (t - far) t
    unfold L at *
    omega
/-- A place is entered. -/
def enter (tr : Nat × Nat × Nat → T) (k : Nat × Nat × Nat) (s : T) : Nat × Nat × Nat → T := fun j => if j = k then s else tr j
theorem Fo.long {b : Nat → Nat} {N t : Nat} {tr : Nat × Nat × Nat → T} (h : Fo b N t tr) (ht : t + 3 ≤ N) :
    Fo b N (t + 1) (enter tr (key b t) (.node t (split b t (L N t) (tr (key b t))).1 (split b t (L N t) (tr (key b t))).2)) ∧ Rec b N t (recs b t (L N t) 0 (tr (key b t))) := by
  have hok := h.ok (key b t)
  have hm := h.mem (key b t)
  have hlt : ∀ y, (tr (key b t)).mem y → y < t := fun y hy => (hm y hy).1
  have hL3 : 3 ≤ L N t := by unfold L; omega
  have hLL := L_less N t
  refine ⟨⟨fun k => ?_, fun k y hy => ?_, fun z hz h3 hf => ?_⟩, recs_rise hok hlt, fun q hq => ?_, fun far h1 h2 h3 h4 => ?_⟩
  · unfold enter
    split
    · exact (new_ok hok hlt).less hLL
    · exact (h.ok k).less hLL
  · unfold enter at hy
    split at hy
    · rename_i hk
      subst hk
      rcases hy with rfl | hy | hy
      · exact ⟨by omega, ht, rfl⟩
      · have := hm y (split_mem.1 y hy); exact ⟨by omega, this.2⟩
      · have := hm y (split_mem.2 y hy); exact ⟨by omega, this.2⟩
    · have := h.mem k y hy; exact ⟨by omega, this.2⟩
  · unfold enter
    by_cases hzt : z = t
    · subst hzt
      rw [if_pos rfl]
      exact ⟨z, .inl rfl, Nat.le_refl _, cp_self _ _ _⟩
    obtain ⟨y, h1, h2, h4⟩ := h.cov z (by omega) h3 (by omega)
    split
    · rename_i hk
      rw [hk] at h1
      rcases split_keeps (t := t) hok y h1 (by omega) with h5 | h5 | h5
      · exact ⟨y, .inr (.inl h5), h2, by rw [cp_min b z y hLL, h4]; omega⟩
      · exact ⟨y, .inr (.inr h5), h2, by rw [cp_min b z y hLL, h4]; omega⟩
      · refine ⟨t, .inl rfl, by omega, ?_⟩
        rw [cp_min b z t hLL, cp_like h4 t, h5]; omega
    · exact ⟨y, h1, h2, by rw [cp_min b z y hLL, h4]; omega⟩
  · obtain ⟨y, h1, rfl, h3, h4⟩ := recs_from hok hlt q hq
    have h5 := hm y h1
    refine ⟨by show 1 ≤ t - y; omega, by show t - y ≤ t; omega, h4, ?_, ?_⟩
    · exact key_cp h5.2.2 hL3
    · show cp b y t (L N t) = cp b (t - (t - y)) t (L N t)
      rw [show t - (t - y) = y by omega]
  · have hk := cp_key h4
    obtain ⟨y, h5, h6, h7⟩ := h.cov (t - far) (by omega) (by omega) (by omega)
    rw [hk] at h5
    rcases recs_all (g := 0) hok hlt y h5 (by omega) with h8 | ⟨q, h8, h9, h10⟩
    · rw [← cp_like h7 t] at h8; omega
    · exact ⟨q, h8, by omega, by rw [cp_like h7 t]; exact h10⟩

/-- How a tree lies: each place's left and right. -/
def Rep (f : Nat → Bool → Int) (v : Int) : T → Prop
  | .nil => v = -1
  | .node x l r => v = (x : Int) ∧ Rep f (f x false) l ∧ Rep f (f x true) r
theorem Rep.kept {f f' : Nat → Bool → Int} : ∀ {s : T} {v : Int}, Rep f v s → (∀ y d, s.mem y → f' y d = f y d) → Rep f' v s
  | .nil, _, h, _ => h
  | .node x l r, _, h, hk => ⟨h.1, by rw [hk x false (.inl rfl)]; exact h.2.1.kept (fun y d hy => hk y d (.inr (.inl hy))), by rw [hk x true (.inl rfl)]; exact h.2.2.kept (fun y d hy => hk y d (.inr (.inr hy)))⟩
def upd (f : Nat → Bool → Int) (x : Nat) (c : Bool) (v : Int) : Nat → Bool → Int := fun y d => if y = x ∧ d = c then v else f y d
theorem upd_self (f : Nat → Bool → Int) (x : Nat) (c : Bool) (v : Int) : upd f x c v x c = v := if_pos ⟨rfl, rfl⟩
theorem upd_other (f : Nat → Bool → Int) {x y : Nat} {c d : Bool} (v : Int) (h : ¬ (y = x ∧ d = c)) : upd f x c v y d = f y d := if_neg h
/-- What entering leaves behind: the two parts lie at the new place's sides, and nothing else has changed. -/
def Goal (b : Nat → Nat) (t n : Nat) (s0 : T) (f0 f' : Nat → Bool → Int) : Prop :=
  Rep f' (f' t false) (split b t n s0).1 ∧ Rep f' (f' t true) (split b t n s0).2 ∧ ∀ y d, y ≠ t → ¬ s0.mem y → f' y d = f0 y d
/-- On the way down: s is what is still to be split, it lies at v; the parts' next pieces hang at (x1, c1) and (x2, c2). -/
structure Lp (b : Nat → Nat) (t n : Nat) (s0 : T) (f0 : Nat → Bool → Int) (s : T) (f : Nat → Bool → Int) (v : Int) (x1 : Nat) (c1 : Bool) (x2 : Nat) (c2 : Bool) (p q g : Nat) (out : List (Nat × Nat)) : Prop where
  rep : Rep f v s
  ok : Ok b n s
  lt : ∀ y, s.mem y → y < t
  old : ∀ y, s.mem y → s0.mem y
  ne : ¬ (x1 = x2 ∧ c1 = c2)
  n1 : ¬ s.mem x1
  n2 : ¬ s.mem x2
  o1 : x1 = t ∨ s0.mem x1
  o2 : x2 = t ∨ s0.mem x2
  hp : p ≤ n ∧ ∀ y, s.mem y → le b n y t → p ≤ cp b y t n
  hq : q ≤ n ∧ ∀ y, s.mem y → le b n t y → q ≤ cp b y t n
  hg : g ≤ n
  out' : out ++ recs b t n g s = recs b t n 0 s0
  kont : ∀ f', (∀ y d, ¬ (y = x1 ∧ d = c1) → ¬ (y = x2 ∧ d = c2) → ¬ s.mem y → f' y d = f y d) → Rep f' (f' x1 c1) (split b t n s).1 → Rep f' (f' x2 c2) (split b t n s).2 → Goal b t n s0 f0 f'
section
variable {b : Nat → Nat} {t n : Nat} {s0 : T} {f0 : Nat → Bool → Int} {s l r : T} {f : Nat → Bool → Int} {v : Int} {x1 x2 x : Nat} {c1 c2 : Bool} {p q g : Nat} {out : List (Nat × Nat)}
theorem Lp.start (hr : Rep f0 v s0) (hok : Ok b n s0) (hlt : ∀ y, s0.mem y → y < t) (h3 : 3 ≤ n) (hk : ∀ y, s0.mem y → 3 ≤ cp b y t n) : Lp b t n s0 f0 s0 f0 v t false t true 3 3 0 [] :=
  ⟨hr, hok, hlt, fun _ h => h, by simp, fun h => by have := hlt _ h; omega, fun h => by have := hlt _ h; omega, .inl rfl, .inl rfl, ⟨h3, fun y hy _ => hk y hy⟩, ⟨h3, fun y hy _ => hk y hy⟩, by omega, rfl,
    fun f' h1 h2 h4 => ⟨h2, h4, fun y d hy hs => h1 y d (fun e => hy e.1) (fun e => hy e.1) hs⟩⟩
theorem Lp.least (h : Lp b t n s0 f0 (.node x l r) f v x1 c1 x2 c2 p q g out) : min p q ≤ cp b x t n := by
  rcases le_total b n x t with h1 | h1
  · have := h.hp.2 x (.inl rfl) h1; omega
  · have := h.hq.2 x (.inl rfl) h1; omega
/-- What the records come to at a place that isn't too far. -/
def more (g c far : Nat) : List (Nat × Nat) := if g < c then [(c, far)] else []
theorem Lp.right (h : Lp b t n s0 f0 (.node x l r) f v x1 c1 x2 c2 p q g out) (hf : ¬ 32768 < t - x) (hc : cp b x t n ≠ n) (hlt : b (x + cp b x t n) < b (t + cp b x t n)) :
    Lp b t n s0 f0 r (upd f x1 c1 (x : Int)) (f x true) x true x2 c2 (cp b x t n) q (max g (cp b x t n)) (out ++ more g (cp b x t n) (t - x)) := by
  have hle := less_le hlt
  have hcn := cp_le b n x t
  have hx1 : x1 ≠ x := fun e => h.n1 (.inl e)
  have hx2 : x2 ≠ x := fun e => h.n2 (.inl e)
  have hxr : ¬ r.mem x := fun hm => by have := (h.ok.2.1 x hm).1; omega
  have hsp : split b t n (.node x l r) = (.node x l (split b t n r).1, (split b t n r).2) := by
    conv => lhs; unfold split
    rw [if_neg hf, if_neg hc, if_pos hlt]
  refine ⟨?_, h.ok.2.2.2.2, fun y hy => h.lt y (.inr (.inr hy)), fun y hy => h.old y (.inr (.inr hy)), fun e => hx2 e.1.symm, hxr, fun hm => h.n2 (.inr (.inr hm)), .inr (h.old x (.inl rfl)), h.o2, ⟨hcn, fun y hy hy2 => (between (h.ok.2.1 y hy).2 hy2).2.2⟩, ⟨h.hq.1, fun y hy => h.hq.2 y (.inr (.inr hy))⟩, by have := h.hg; omega, ?_, ?_⟩
  · exact h.rep.2.2.kept (fun y d hy => upd_other _ _ (fun e => h.n1 (.inr (.inr (e.1 ▸ hy)))))
  · rw [← h.out', List.append_assoc]
    conv => rhs; unfold recs
    rw [if_neg hf, if_neg hc, if_pos hlt]
    rfl
  · intro f' k1 k2 k3
    have e1 : f' x1 c1 = (x : Int) := by
      rw [k1 x1 c1 (fun e => hx1 e.1) h.ne (fun hm => h.n1 (.inr (.inr hm))), upd_self]
    have e2 : ∀ y d, ¬ r.mem y → ¬ (y = x ∧ d = true) → ¬ (y = x1 ∧ d = c1) → ¬ (y = x2 ∧ d = c2) → f' y d = f y d := fun y d a1 a2 a3 a4 => by
      rw [k1 y d a2 a4 a1, upd_other _ _ a3]
    refine h.kont f' (fun y d a1 a2 a3 => e2 y d (fun hm => a3 (.inr (.inr hm))) (fun e => a3 (.inl e.1)) a1 a2) ?_ ?_
    · rw [hsp]
      refine ⟨e1, ?_, k2⟩
      rw [e2 x false hxr (fun e => by simp at e) (fun e => hx1 e.1.symm) (fun e => hx2 e.1.symm)]
      exact h.rep.2.1.kept (fun y d hy => e2 y d (h.ok.2.2.1 y hy) (fun e => by have := (h.ok.1 y hy).1; omega) (fun e => h.n1 (.inr (.inl (e.1 ▸ hy)))) (fun e => h.n2 (.inr (.inl (e.1 ▸ hy)))))
    · rw [hsp]; exact k3
theorem Lp.left (h : Lp b t n s0 f0 (.node x l r) f v x1 c1 x2 c2 p q g out) (hf : ¬ 32768 < t - x) (hc : cp b x t n ≠ n) (hlt : ¬ b (x + cp b x t n) < b (t + cp b x t n)) :
    Lp b t n s0 f0 l (upd f x2 c2 (x : Int)) (f x false) x1 c1 x false p (cp b x t n) (max g (cp b x t n)) (out ++ more g (cp b x t n) (t - x)) := by
  have hle := more_le hc hlt
  have hcn := cp_le b n x t
  have hx1 : x1 ≠ x := fun e => h.n1 (.inl e)
  have hx2 : x2 ≠ x := fun e => h.n2 (.inl e)
  have hxl : ¬ l.mem x := fun hm => by have := (h.ok.1 x hm).1; omega
  have hsp : split b t n (.node x l r) = ((split b t n l).1, .node x (split b t n l).2 r) := by
    conv => lhs; unfold split
    rw [if_neg hf, if_neg hc, if_neg hlt]
  refine ⟨?_, h.ok.2.2.2.1, fun y hy => h.lt y (.inr (.inl hy)), fun y hy => h.old y (.inr (.inl hy)), fun e => hx1 e.1, fun hm => h.n1 (.inr (.inl hm)), hxl, h.o1, .inr (h.old x (.inl rfl)), ⟨h.hp.1, fun y hy => h.hp.2 y (.inr (.inl hy))⟩, ⟨hcn, fun y hy hy2 => ?_⟩, by have := h.hg; omega, ?_, ?_⟩
  · exact h.rep.2.1.kept (fun y d hy => upd_other _ _ (fun e => h.n2 (.inr (.inl (e.1 ▸ hy)))))
  · have := (between hy2 (h.ok.1 y hy).2).2.1
    rwa [cp_comm b t x n, cp_comm b t y n] at this
  · rw [← h.out', List.append_assoc]
    conv => rhs; unfold recs
    rw [if_neg hf, if_neg hc, if_neg hlt]
    rfl
  · intro f' k1 k2 k3
    have e1 : f' x2 c2 = (x : Int) := by
      rw [k1 x2 c2 (fun e => h.ne ⟨e.1.symm, e.2.symm⟩) (fun e => hx2 e.1) (fun hm => h.n2 (.inr (.inl hm))), upd_self]
    have e2 : ∀ y d, ¬ l.mem y → ¬ (y = x ∧ d = false) → ¬ (y = x1 ∧ d = c1) → ¬ (y = x2 ∧ d = c2) → f' y d = f y d := fun y d a1 a2 a3 a4 => by
      rw [k1 y d a3 a2 a1, upd_other _ _ a4]
    refine h.kont f' (fun y d a1 a2 a3 => e2 y d (fun hm => a3 (.inr (.inl hm))) (fun e => a3 (.inl e.1)) a1 a2) ?_ ?_
    · rw [hsp]; exact k2
    · rw [hsp]
      refine ⟨e1, k3, ?_⟩
      rw [e2 x true hxl (fun e => by simp at e) (fun e => hx1 e.1.symm) (fun e => hx2 e.1.symm)]
      exact h.rep.2.2.kept (fun y d hy => e2 y d (fun hm => h.ok.2.2.1 y hm hy) (fun e => by have := (h.ok.2.1 y hy).1; omega) (fun e => h.n1 (.inr (.inr (e.1 ▸ hy)))) (fun e => h.n2 (.inr (.inr (e.1 ▸ hy)))))
/-- It ends: nothing is left, or what is left is too far. -/
theorem Lp.done (h : Lp b t n s0 f0 s f v x1 c1 x2 c2 p q g out) (hs : split b t n s = (.nil, .nil)) (hr : recs b t n g s = []) :
    Goal b t n s0 f0 (upd (upd f x1 c1 (-1)) x2 c2 (-1)) ∧ out = recs b t n 0 s0 := by
  refine ⟨h.kont _ (fun y d a1 a2 _ => by rw [upd_other _ _ a2, upd_other _ _ a1]) ?_ ?_, ?_⟩
  · rw [hs, upd_other _ _ h.ne, upd_self]; rfl
  · rw [hs, upd_self]; rfl
  · rw [← h.out', hr, List.append_nil]
theorem split_far (hf : 32768 < t - x) : split b t n (.node x l r) = (.nil, .nil) ∧ recs b t n g (.node x l r) = [] := by
  constructor
  · unfold split; rw [if_pos hf]
  · unfold recs; rw [if_pos hf]
/-- It ends: a place is all alike. -/
theorem Lp.like (h : Lp b t n s0 f0 (.node x l r) f v x1 c1 x2 c2 p q g out) (hf : ¬ 32768 < t - x) (hc : cp b x t n = n) :
    Goal b t n s0 f0 (upd (upd f x1 c1 (f x false)) x2 c2 (f x true)) ∧ out ++ more g (cp b x t n) (t - x) = recs b t n 0 s0 := by
  have hsp : split b t n (.node x l r) = (l, r) := by unfold split; rw [if_neg hf, if_pos hc]
  have hk : ∀ y d, T.mem (.node x l r) y → upd (upd f x1 c1 (f x false)) x2 c2 (f x true) y d = f y d := fun y d hy => by
    have hy1 : ¬ (y = x1 ∧ d = c1) := fun e => h.n1 (by rw [← e.1]; exact hy)
    have hy2 : ¬ (y = x2 ∧ d = c2) := fun e => h.n2 (by rw [← e.1]; exact hy)
    rw [upd_other _ _ hy2, upd_other _ _ hy1]
  refine ⟨h.kont _ (fun y d a1 a2 _ => by rw [upd_other _ _ a2, upd_other _ _ a1]) ?_ ?_, ?_⟩
  · rw [hsp, upd_other _ _ h.ne, upd_self]
    exact h.rep.2.1.kept (fun y d hy => hk y d (.inr (.inl hy)))
  · rw [hsp, upd_self]
    exact h.rep.2.2.kept (fun y d hy => hk y d (.inr (.inr hy)))
  · rw [← h.out']
    congr 1
    unfold recs more
    rw [if_neg hf, if_pos hc, List.append_nil]
theorem cp_add {b : Nat → Nat} {x y n k : Nat} (h : k ≤ cp b x y n) : k + cp b (x + k) (y + k) (n - k) = cp b x y n := by
  have h1 := cp_le b (n - k) (x + k) (y + k)
  have h2 := cp_le b n x y
  refine (cp_is (by omega) (fun i hi => ?_) (fun hlt => ?_)).symm
  · by_cases hik : i < k
    · exact cp_eq b n x y i (by omega)
    · have := cp_eq b (n - k) (x + k) (y + k) (i - k) (by omega)
      rwa [show x + k + (i - k) = x + i by omega, show y + k + (i - k) = y + i by omega] at this
  · have := cp_ne b (n - k) (x + k) (y + k) (by omega)
    rwa [Nat.add_assoc, Nat.add_assoc] at this
end
end Go.Proofs.YtdojhglpiejfjaaDoor.Lz
end

section
namespace Go.Proofs.YtdojhglpiejfjaaDoor.Lz
/-- Is there a match of n bytes at a distance? -/
def Mat (b : Nat → Nat) (N t n far : Nat) : Prop := 1 ≤ far ∧ far ≤ t ∧ far ≤ 32768 ∧ n ≤ cp b (t - far) t (L N t)
/-- The first record of at least n bytes is the nearest match of n bytes. -/
theorem near_some {b : Nat → Nat} {N t n : Nat} {R : List (Nat × Nat)} {q : Nat × Nat} (h : Rec b N t R) (h3 : 3 ≤ n) (hq : R.find? (fun q => decide (n ≤ q.1)) = some q) :
    Mat b N t n q.2 ∧ ∀ far, far < q.2 → ¬ Mat b N t n far := by
  obtain ⟨hp, as, bs, hR, has⟩ := List.find?_eq_some_iff_append.1 hq
  have hn : n ≤ q.1 := by simpa using hp
  have hmem : q ∈ R := by rw [hR]; simp
  obtain ⟨s1, s2, s3, s4, s5⟩ := h.2.1 q hmem
  refine ⟨⟨s1, s2, s3, by rw [← s5]; exact hn⟩, fun far hlt hm => ?_⟩
  obtain ⟨q', hq', k1, k2⟩ := h.2.2 far hm.1 hm.2.1 hm.2.2.1 (by have := hm.2.2.2; omega)
  have hn' : n ≤ q'.1 := Nat.le_trans hm.2.2.2 k2
  have hpw := h.1
  rw [hR] at hq' hpw
  rcases List.mem_append.1 hq' with h1 | h1
  · have := has q' h1
    simp at this
    omega
  · rcases List.mem_cons.1 h1 with rfl | h1
    · omega
    · have := (List.pairwise_append.1 hpw).2.1
      have := (List.pairwise_cons.1 this).1 q' h1
      omega
theorem near_none {b : Nat → Nat} {N t n : Nat} {R : List (Nat × Nat)} (h : Rec b N t R) (h3 : 3 ≤ n) (hq : R.find? (fun q => decide (n ≤ q.1)) = none) : ∀ far, ¬ Mat b N t n far := fun far hm => by
  obtain ⟨q', hq', k1, k2⟩ := h.2.2 far hm.1 hm.2.1 hm.2.2.1 (by have := hm.2.2.2; omega)
  have := List.find?_eq_none.1 hq q' hq'
  simp at this
  have := hm.2.2.2
  omega
/-- The longest match is the last record. -/
theorem last_most {b : Nat → Nat} {N t : Nat} {R : List (Nat × Nat)} {q : Nat × Nat} (h : Rec b N t R) (hq : R.getLast? = some q) : (∀ p, p ∈ R → p.1 ≤ q.1 ∧ p.2 ≤ q.2) ∧ ∀ n far, 3 ≤ n → Mat b N t n far → n ≤ q.1 := by
  have hall : ∀ p, p ∈ R → p.1 ≤ q.1 ∧ p.2 ≤ q.2 := fun p hp => by
    obtain ⟨as, hR⟩ := List.getLast?_eq_some_iff.1 hq
    have hpw := h.1
    rw [hR] at hp hpw
    rcases List.mem_append.1 hp with h1 | h1
    · have := (List.pairwise_append.1 hpw).2.2 p h1 q (by simp)
      omega
    · simp at h1; subst h1; exact ⟨Nat.le_refl _, Nat.le_refl _⟩
  refine ⟨hall, fun n far h3 hm => ?_⟩
  obtain ⟨q', hq', k1, k2⟩ := h.2.2 far hm.1 hm.2.1 hm.2.2.1 (by have := hm.2.2.2; omega)
  have := (hall q' hq').1
  have := hm.2.2.2
  omega
end Go.Proofs.YtdojhglpiejfjaaDoor.Lz
end

section
namespace Go.Proofs.YtdojhglpiejfjaaDoor.Lz
/-- How long the longest match is; 2 where there is none. -/
def top (R : List (Nat × Nat)) : Nat := match R.getLast? with | some q => q.1 | none => 2
/-- How far the nearest match of n bytes is. -/
def far (R : List (Nat × Nat)) (n : Nat) : Nat := match R.find? (fun q => decide (n ≤ q.1)) with | some q => q.2 | none => 0
theorem top_nil : top [] = 2 := rfl
theorem top_snoc (R : List (Nat × Nat)) (q : Nat × Nat) : top (R ++ [q]) = q.1 := by simp [top]
theorem far_nil (n : Nat) : far [] n = 0 := rfl
theorem find_top {R : List (Nat × Nat)} {n : Nat} (h3 : 3 ≤ n) (hn : n ≤ top R) : ∃ q, R.find? (fun q => decide (n ≤ q.1)) = some q := by
  cases hf : R.find? (fun q => decide (n ≤ q.1)) with
  | some q => exact ⟨q, rfl⟩
  | none =>
    exfalso
    unfold top at hn
    cases hl : R.getLast? with
    | none => rw [hl] at hn; simp at hn; omega
    | some q =>
      rw [hl] at hn
      obtain ⟨as, rfl⟩ := List.getLast?_eq_some_iff.1 hl
      have := List.find?_eq_none.1 hf q (by simp)
      simp at this
      simp at hn
      omega
theorem find_over {b : Nat → Nat} {N t n : Nat} {R : List (Nat × Nat)} (h : Rec b N t R) (hn : top R < n) : R.find? (fun q => decide (n ≤ q.1)) = none := by
  rw [List.find?_eq_none]
  intro q hq
  cases hl : R.getLast? with
  | none => rw [List.getLast?_eq_none_iff.1 hl] at hq; simp at hq
  | some p =>
    have h1 := ((last_most h hl).1 q hq).1
    have h2 : top R = p.1 := by unfold top; rw [hl]
    simp
    omega
theorem top_ge {b : Nat → Nat} {N t : Nat} {R : List (Nat × Nat)} (h : Rec b N t R) : 2 ≤ top R := by
  unfold top
  cases hl : R.getLast? with
  | none => exact Nat.le_refl _
  | some q =>
    have := (h.2.1 q (List.mem_of_getLast? hl)).2.2.2.1
    show 2 ≤ q.1
    omega
theorem top_le {b : Nat → Nat} {N t : Nat} {R : List (Nat × Nat)} (h : Rec b N t R) : top R ≤ 258 := by
  unfold top
  cases hl : R.getLast? with
  | none => show 2 ≤ 258; omega
  | some q =>
    have h1 := (h.2.1 q (List.mem_of_getLast? hl)).2.2.2.2
    have h2 := cp_le b (L N t) (t - q.2) t
    have h3 : L N t ≤ 258 := by unfold L; omega
    show q.1 ≤ 258
    omega
theorem top_le_L {b : Nat → Nat} {N t : Nat} {R : List (Nat × Nat)} (h : Rec b N t R) (h3 : 3 ≤ top R) : top R ≤ L N t := by
  unfold top at h3 ⊢
  cases hl : R.getLast? with
  | none => rw [hl] at h3; simp at h3
  | some q =>
    have h1 := (h.2.1 q (List.mem_of_getLast? hl)).2.2.2.2
    have h2 := cp_le b (L N t) (t - q.2) t
    show q.1 ≤ L N t
    omega
theorem far_some {b : Nat → Nat} {N t n : Nat} {R : List (Nat × Nat)} (h : Rec b N t R) (h3 : 3 ≤ n) (hn : n ≤ top R) : Mat b N t n (far R n) ∧ ∀ f, f < far R n → ¬ Mat b N t n f := by
  obtain ⟨q, hq⟩ := find_top h3 hn
  have : far R n = q.2 := by unfold far; rw [hq]
  rw [this]
  exact near_some h h3 hq
theorem far_none {b : Nat → Nat} {N t n : Nat} {R : List (Nat × Nat)} (h : Rec b N t R) (h3 : 3 ≤ n) (hn : top R < n) : ∀ f, ¬ Mat b N t n f := near_none h h3 (find_over h hn)
/-- A match of n bytes there is just where n isn't beyond the longest one. -/
theorem mat_top {b : Nat → Nat} {N t n f : Nat} {R : List (Nat × Nat)} (h : Rec b N t R) (h3 : 3 ≤ n) (hm : Mat b N t n f) : n ≤ top R ∧ far R n ≤ f := by
  have h1 : n ≤ top R := by
    rcases Nat.lt_or_ge (top R) n with h' | h'
    · exact absurd hm (far_none h h3 h' f)
    · exact h'
  refine ⟨h1, ?_⟩
  rcases Nat.lt_or_ge f (far R n) with h' | h'
  · exact absurd hm ((far_some h h3 h1).2 f h')
  · exact h'
theorem top_nil_iff {b : Nat → Nat} {N t : Nat} {R : List (Nat × Nat)} (h : Rec b N t R) : R = [] ↔ top R = 2 := by
  constructor
  · rintro rfl; rfl
  · intro h2
    cases hl : R.getLast? with
    | none => exact List.getLast?_eq_none_iff.1 hl
    | some q =>
      have h1 := (h.2.1 q (List.mem_of_getLast? hl)).2.2.2.1
      unfold top at h2
      rw [hl] at h2
      simp at h2
      omega
/-- The lengths that a record adds are at its distance. -/
theorem far_mid {b : Nat → Nat} {N t n : Nat} {pre s : List (Nat × Nat)} {q : Nat × Nat} (h : Rec b N t (pre ++ q :: s)) (h1 : top pre < n) (h2 : n ≤ q.1) : far (pre ++ q :: s) n = q.2 := by
  unfold far
  have hpre : pre.find? (fun q => decide (n ≤ q.1)) = none := by
    rw [List.find?_eq_none]
    intro p hp
    have hpw := (List.pairwise_append.1 h.1).1
    cases hl : pre.getLast? with
    | none => rw [List.getLast?_eq_none_iff.1 hl] at hp; simp at hp
    | some z =>
      obtain ⟨as, rfl⟩ := List.getLast?_eq_some_iff.1 hl
      rw [top_snoc] at h1
      rcases List.mem_append.1 hp with h' | h'
      · have := (List.pairwise_append.1 hpw).2.2 p h' z (by simp)
        simp
        omega
      · simp at h'; subst h'
        simp; omega
  rw [List.find?_append, hpre]
  simp [h2]
theorem far_last {b : Nat → Nat} {N t : Nat} {R : List (Nat × Nat)} {q : Nat × Nat} (h : Rec b N t (R ++ [q])) : far (R ++ [q]) (top (R ++ [q])) = q.2 := by
  rw [top_snoc]
  refine far_mid h ?_ (Nat.le_refl _)
  cases hl : R.getLast? with
  | none =>
    rw [List.getLast?_eq_none_iff.1 hl] at h ⊢
    have := (h.2.1 q (by simp)).2.2.2.1
    rw [top_nil]; omega
  | some z =>
    obtain ⟨as, rfl⟩ := List.getLast?_eq_some_iff.1 hl
    rw [top_snoc]
    exact ((List.pairwise_append.1 h.1).2.2 z (by simp) q (by simp)).1
/-- The document's list: of each length from 3 on the nearest match's distance. -/
def want (R : List (Nat × Nat)) : List Nat := (List.range (top R - 2)).map fun i => far R (3 + i)
theorem want_length (R : List (Nat × Nat)) : (want R).length = top R - 2 := by simp [want]
theorem want_get (R : List (Nat × Nat)) (i : Nat) (h : i < top R - 2) : (want R)[i]? = some (far R (3 + i)) := by simp [want, h]
theorem want_getD (R : List (Nat × Nat)) (i : Nat) (h : i < top R - 2) : (want R).getD i 0 = far R (3 + i) := by simp [List.getD, want_get R i h]
theorem want_nil : want [] = [] := rfl
/-- Distances don't decrease. -/
theorem far_mono {b : Nat → Nat} {N t n m : Nat} {R : List (Nat × Nat)} (h : Rec b N t R) (h3 : 3 ≤ n) (hnm : n ≤ m) (hm : m ≤ top R) : far R n ≤ far R m := by
  obtain ⟨k1, k2, k3, k4⟩ := (far_some h (by omega) hm).1
  exact (mat_top h h3 (f := far R m) ⟨k1, k2, k3, by omega⟩).2
/-- A length with its distance, as it is handed over. -/
def near (R : List (Nat × Nat)) : List (Nat × Nat) := (List.range (top R - 2)).map fun i => (3 + i, far R (3 + i))
theorem near_length (R : List (Nat × Nat)) : (near R).length = top R - 2 := by simp [near]
theorem near_get (R : List (Nat × Nat)) (i : Nat) (h : i < top R - 2) : (near R)[i]? = some (3 + i, far R (3 + i)) := by simp [near, h]
theorem near_next (R : List (Nat × Nat)) (i : Nat) (h : i < top R - 2) : ∃ t, near R = (near R).take i ++ (3 + i, far R (3 + i)) :: t := by
  refine ⟨(near R).drop (i + 1), ?_⟩
  have hi : i < (near R).length := by rw [near_length]; exact h
  have e : (near R)[i] = (3 + i, far R (3 + i)) := by
    have := near_get R i h
    rw [List.getElem?_eq_getElem hi] at this
    simpa using this
  rw [← e, ← List.drop_eq_getElem_cons hi, List.take_append_drop]
theorem near_take (R : List (Nat × Nat)) (i : Nat) (h : i < top R - 2) : (near R).take (i + 1) = (near R).take i ++ [(3 + i, far R (3 + i))] := by
  rw [List.take_add_one, near_get R i h]; rfl
theorem near_pre {R : List (Nat × Nat)} {pre t : List (Nat × Nat)} {x : Nat × Nat} (h : near R = pre ++ x :: t) : pre.length < top R - 2 ∧ x = (3 + pre.length, far R (3 + pre.length)) := by
  have h1 : pre.length < top R - 2 := by
    have := congrArg List.length h
    rw [near_length] at this
    simp at this
    omega
  refine ⟨h1, ?_⟩
  have h2 := near_get R pre.length h1
  rw [h] at h2
  simpa using h2
end Go.Proofs.YtdojhglpiejfjaaDoor.Lz
end
