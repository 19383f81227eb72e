/- The forest of a text's places: what a new place finds, and how it is entered. -/
import Derived.Test.YtedncnaeojomcaaDoorLzTree
namespace Go.Proofs.YtedncnaeojomcaaDoor.Lz
/-- How many bytes count at a place. -/
def L (N t : Nat) : Nat := min 258 (N - t)
/-- The three bytes that a place begins with. -/
def key (b : Nat → Nat) (z : Nat) : Nat × Nat × Nat := (b z, b (z + 1), b (z + 2))
/-- The records of a place: matches that are longer than all nearer ones. -/
def Rec (b : Nat → Nat) (N t : Nat) (R : List (Nat × Nat)) : Prop :=
  R.Pairwise (fun p q => p.1 < q.1 ∧ p.2 < q.2) ∧
  (∀ q, q ∈ R → 1 ≤ q.2 ∧ q.2 ≤ t ∧ q.2 ≤ 32768 ∧ 3 ≤ q.1 ∧ q.1 = cp b (t - q.2) t (L N t)) ∧
  (∀ far, 1 ≤ far → far ≤ t → far ≤ 32768 → 3 ≤ cp b (t - far) t (L N t) → ∃ q, q ∈ R ∧ q.2 ≤ far ∧ cp b (t - far) t (L N t) ≤ q.1)
/-- The trees by their three bytes, when all places ahead of t have been entered. -/
structure Fo (b : Nat → Nat) (N t : Nat) (tr : Nat × Nat × Nat → T) : Prop where
  ok : ∀ k, Ok b (L N t) (tr k)
  mem : ∀ k y, (tr k).mem y → y < t ∧ y + 3 ≤ N ∧ key b y = k
  cov : ∀ z, z < t → z + 3 ≤ N → t - z ≤ 32768 → ∃ y, (tr (key b z)).mem y ∧ z ≤ y ∧ cp b z y (L N t) = L N t
theorem L_less (N t : Nat) : L N (t + 1) ≤ L N t := by unfold L; omega
theorem key_cp {b : Nat → Nat} {x y n : Nat} (h : key b x = key b y) (hn : 3 ≤ n) : 3 ≤ cp b x y n := by
  simp only [key, Prod.mk.injEq] at h
  refine cp_ge hn (fun i hi => ?_)
  rcases (show i = 0 ∨ i = 1 ∨ i = 2 by omega) with rfl | rfl | rfl
  · exact h.1
  · exact h.2.1
  · exact h.2.2
theorem cp_key {b : Nat → Nat} {x y n : Nat} (h : 3 ≤ cp b x y n) : key b x = key b y := by
  simp only [key, Prod.mk.injEq]
  exact ⟨cp_eq b n x y 0 (by omega), cp_eq b n x y 1 (by omega), cp_eq b n x y 2 (by omega)⟩
theorem fo_nil (b : Nat → Nat) (N : Nat) : Fo b N 0 (fun _ => .nil) := ⟨fun _ => trivial, fun _ _ h => h.elim, fun z hz => absurd hz (by omega)⟩
theorem Fo.short {b : Nat → Nat} {N t : Nat} {tr : Nat × Nat × Nat → T} (h : Fo b N t tr) (ht : N < t + 3) : Fo b N (t + 1) tr ∧ Rec b N t [] := by
  refine ⟨⟨fun k => (h.ok k).less (L_less N t), fun k y hy => ⟨by have := (h.mem k y hy).1; omega, (h.mem k y hy).2⟩, fun z hz h3 hf => ?_⟩, List.Pairwise.nil, fun q hq => by simp at hq, fun far h1 h2 h3 h4 => ?_⟩
  · obtain ⟨y, h1, h2, h4⟩ := h.cov z (by omega) h3 (by omega)
    have := L_less N t
    exact ⟨y, h1, h2, by rw [cp_min b z y this, h4]; omega⟩
  · have := cp_le b (L N t) (t - far) t
    unfold L at *
    omega
/-- A place is entered. -/
def enter (tr : Nat × Nat × Nat → T) (k : Nat × Nat × Nat) (s : T) : Nat × Nat × Nat → T := fun j => if j = k then s else tr j
theorem Fo.long {b : Nat → Nat} {N t : Nat} {tr : Nat × Nat × Nat → T} (h : Fo b N t tr) (ht : t + 3 ≤ N) :
    Fo b N (t + 1) (enter tr (key b t) (.node t (split b t (L N t) (tr (key b t))).1 (split b t (L N t) (tr (key b t))).2)) ∧ Rec b N t (recs b t (L N t) 0 (tr (key b t))) := by
  have hok := h.ok (key b t)
  have hm := h.mem (key b t)
  have hlt : ∀ y, (tr (key b t)).mem y → y < t := fun y hy => (hm y hy).1
  have hL3 : 3 ≤ L N t := by unfold L; omega
  have hLL := L_less N t
  refine ⟨⟨fun k => ?_, fun k y hy => ?_, fun z hz h3 hf => ?_⟩, recs_rise hok hlt, fun q hq => ?_, fun far h1 h2 h3 h4 => ?_⟩
  · unfold enter
    split
    · exact (new_ok hok hlt).less hLL
    · exact (h.ok k).less hLL
  · unfold enter at hy
    split at hy
    · rename_i hk
      subst hk
      rcases hy with rfl | hy | hy
      · exact ⟨by omega, ht, rfl⟩
      · have := hm y (split_mem.1 y hy); exact ⟨by omega, this.2⟩
      · have := hm y (split_mem.2 y hy); exact ⟨by omega, this.2⟩
    · have := h.mem k y hy; exact ⟨by omega, this.2⟩
  · unfold enter
    by_cases hzt : z = t
    · subst hzt
      rw [if_pos rfl]
      exact ⟨z, .inl rfl, Nat.le_refl _, cp_self _ _ _⟩
    obtain ⟨y, h1, h2, h4⟩ := h.cov z (by omega) h3 (by omega)
    split
    · rename_i hk
      rw [hk] at h1
      rcases split_keeps (t := t) hok y h1 (by omega) with h5 | h5 | h5
      · exact ⟨y, .inr (.inl h5), h2, by rw [cp_min b z y hLL, h4]; omega⟩
      · exact ⟨y, .inr (.inr h5), h2, by rw [cp_min b z y hLL, h4]; omega⟩
      · refine ⟨t, .inl rfl, by omega, ?_⟩
        rw [cp_min b z t hLL, cp_like h4 t, h5]; omega
    · exact ⟨y, h1, h2, by rw [cp_min b z y hLL, h4]; omega⟩
  · obtain ⟨y, h1, rfl, h3, h4⟩ := recs_from hok hlt q hq
    have h5 := hm y h1
    refine ⟨by show 1 ≤ t - y; omega, by show t - y ≤ t; omega, h4, ?_, ?_⟩
    · exact key_cp h5.2.2 hL3
    · show cp b y t (L N t) = cp b (t - (t - y)) t (L N t)
      rw [show t - (t - y) = y by omega]
  · have hk := cp_key h4
    obtain ⟨y, h5, h6, h7⟩ := h.cov (t - far) (by omega) (by omega) (by omega)
    rw [hk] at h5
    rcases recs_all (g := 0) hok hlt y h5 (by omega) with h8 | ⟨q, h8, h9, h10⟩
    · rw [← cp_like h7 t] at h8; omega
    · exact ⟨q, h8, by omega, by rw [cp_like h7 t]; exact h10⟩

/-- How a tree lies: each place's left and right. -/
def Rep (f : Nat → Bool → Int) (v : Int) : T → Prop
  | .nil => v = -1
  | .node x l r => v = (x : Int) ∧ Rep f (f x false) l ∧ Rep f (f x true) r
theorem Rep.kept {f f' : Nat → Bool → Int} : ∀ {s : T} {v : Int}, Rep f v s → (∀ y d, s.mem y → f' y d = f y d) → Rep f' v s
  | .nil, _, h, _ => h
  | .node x l r, _, h, hk => ⟨h.1, by rw [hk x false (.inl rfl)]; exact h.2.1.kept (fun y d hy => hk y d (.inr (.inl hy))), by rw [hk x true (.inl rfl)]; exact h.2.2.kept (fun y d hy => hk y d (.inr (.inr hy)))⟩
def upd (f : Nat → Bool → Int) (x : Nat) (c : Bool) (v : Int) : Nat → Bool → Int := fun y d => if y = x ∧ d = c then v else f y d
theorem upd_self (f : Nat → Bool → Int) (x : Nat) (c : Bool) (v : Int) : upd f x c v x c = v := if_pos ⟨rfl, rfl⟩
theorem upd_other (f : Nat → Bool → Int) {x y : Nat} {c d : Bool} (v : Int) (h : ¬ (y = x ∧ d = c)) : upd f x c v y d = f y d := if_neg h
/-- What entering leaves behind: the two parts lie at the new place's sides, and nothing else has changed. -/
def Goal (b : Nat → Nat) (t n : Nat) (s0 : T) (f0 f' : Nat → Bool → Int) : Prop :=
  Rep f' (f' t false) (split b t n s0).1 ∧ Rep f' (f' t true) (split b t n s0).2 ∧ ∀ y d, y ≠ t → ¬ s0.mem y → f' y d = f0 y d
/-- On the way down: s is what is still to be split, it lies at v; the parts' next pieces hang at (x1, c1) and (x2, c2). -/
structure Lp (b : Nat → Nat) (t n : Nat) (s0 : T) (f0 : Nat → Bool → Int) (s : T) (f : Nat → Bool → Int) (v : Int) (x1 : Nat) (c1 : Bool) (x2 : Nat) (c2 : Bool) (p q g : Nat) (out : List (Nat × Nat)) : Prop where
  rep : Rep f v s
  ok : Ok b n s
  lt : ∀ y, s.mem y → y < t
  old : ∀ y, s.mem y → s0.mem y
  ne : ¬ (x1 = x2 ∧ c1 = c2)
  n1 : ¬ s.mem x1
  n2 : ¬ s.mem x2
  o1 : x1 = t ∨ s0.mem x1
  o2 : x2 = t ∨ s0.mem x2
  hp : p ≤ n ∧ ∀ y, s.mem y → le b n y t → p ≤ cp b y t n
  hq : q ≤ n ∧ ∀ y, s.mem y → le b n t y → q ≤ cp b y t n
  hg : g ≤ n
  out' : out ++ recs b t n g s = recs b t n 0 s0
  kont : ∀ f', (∀ y d, ¬ (y = x1 ∧ d = c1) → ¬ (y = x2 ∧ d = c2) → ¬ s.mem y → f' y d = f y d) → Rep f' (f' x1 c1) (split b t n s).1 → Rep f' (f' x2 c2) (split b t n s).2 → Goal b t n s0 f0 f'
section
variable {b : Nat → Nat} {t n : Nat} {s0 : T} {f0 : Nat → Bool → Int} {s l r : T} {f : Nat → Bool → Int} {v : Int} {x1 x2 x : Nat} {c1 c2 : Bool} {p q g : Nat} {out : List (Nat × Nat)}
theorem Lp.start (hr : Rep f0 v s0) (hok : Ok b n s0) (hlt : ∀ y, s0.mem y → y < t) (h3 : 3 ≤ n) (hk : ∀ y, s0.mem y → 3 ≤ cp b y t n) : Lp b t n s0 f0 s0 f0 v t false t true 3 3 0 [] :=
  ⟨hr, hok, hlt, fun _ h => h, by simp, fun h => by have := hlt _ h; omega, fun h => by have := hlt _ h; omega, .inl rfl, .inl rfl, ⟨h3, fun y hy _ => hk y hy⟩, ⟨h3, fun y hy _ => hk y hy⟩, by omega, rfl,
    fun f' h1 h2 h4 => ⟨h2, h4, fun y d hy hs => h1 y d (fun e => hy e.1) (fun e => hy e.1) hs⟩⟩
theorem Lp.least (h : Lp b t n s0 f0 (.node x l r) f v x1 c1 x2 c2 p q g out) : min p q ≤ cp b x t n := by
  rcases le_total b n x t with h1 | h1
  · have := h.hp.2 x (.inl rfl) h1; omega
  · have := h.hq.2 x (.inl rfl) h1; omega
/-- What the records come to at a place that isn't too far. -/
def more (g c far : Nat) : List (Nat × Nat) := if g < c then [(c, far)] else []
theorem Lp.right (h : Lp b t n s0 f0 (.node x l r) f v x1 c1 x2 c2 p q g out) (hf : ¬ 32768 < t - x) (hc : cp b x t n ≠ n) (hlt : b (x + cp b x t n) < b (t + cp b x t n)) :
    Lp b t n s0 f0 r (upd f x1 c1 (x : Int)) (f x true) x true x2 c2 (cp b x t n) q (max g (cp b x t n)) (out ++ more g (cp b x t n) (t - x)) := by
  have hle := less_le hlt
  have hcn := cp_le b n x t
  have hx1 : x1 ≠ x := fun e => h.n1 (.inl e)
  have hx2 : x2 ≠ x := fun e => h.n2 (.inl e)
  have hxr : ¬ r.mem x := fun hm => by have := (h.ok.2.1 x hm).1; omega
  have hsp : split b t n (.node x l r) = (.node x l (split b t n r).1, (split b t n r).2) := by
    conv => lhs; unfold split
    rw [if_neg hf, if_neg hc, if_pos hlt]
  refine ⟨?_, h.ok.2.2.2.2, fun y hy => h.lt y (.inr (.inr hy)), fun y hy => h.old y (.inr (.inr hy)), fun e => hx2 e.1.symm, hxr, fun hm => h.n2 (.inr (.inr hm)), .inr (h.old x (.inl rfl)), h.o2, ⟨hcn, fun y hy hy2 => (between (h.ok.2.1 y hy).2 hy2).2.2⟩, ⟨h.hq.1, fun y hy => h.hq.2 y (.inr (.inr hy))⟩, by have := h.hg; omega, ?_, ?_⟩
  · exact h.rep.2.2.kept (fun y d hy => upd_other _ _ (fun e => h.n1 (.inr (.inr (e.1 ▸ hy)))))
  · rw [← h.out', List.append_assoc]
    conv => rhs; unfold recs
    rw [if_neg hf, if_neg hc, if_pos hlt]
    rfl
  · intro f' k1 k2 k3
    have e1 : f' x1 c1 = (x : Int) := by
      rw [k1 x1 c1 (fun e => hx1 e.1) h.ne (fun hm => h.n1 (.inr (.inr hm))), upd_self]
    have e2 : ∀ y d, ¬ r.mem y → ¬ (y = x ∧ d = true) → ¬ (y = x1 ∧ d = c1) → ¬ (y = x2 ∧ d = c2) → f' y d = f y d := fun y d a1 a2 a3 a4 => by
      rw [k1 y d a2 a4 a1, upd_other _ _ a3]
    refine h.kont f' (fun y d a1 a2 a3 => e2 y d (fun hm => a3 (.inr (.inr hm))) (fun e => a3 (.inl e.1)) a1 a2) ?_ ?_
    · rw [hsp]
      refine ⟨e1, ?_, k2⟩
      rw [e2 x false hxr (fun e => by simp at e) (fun e => hx1 e.1.symm) (fun e => hx2 e.1.symm)]
      exact h.rep.2.1.kept (fun y d hy => e2 y d (h.ok.2.2.1 y hy) (fun e => by have := (h.ok.1 y hy).1; omega) (fun e => h.n1 (.inr (.inl (e.1 ▸ hy)))) (fun e => h.n2 (.inr (.inl (e.1 ▸ hy)))))
    · rw [hsp]; exact k3
theorem Lp.left (h : Lp b t n s0 f0 (.node x l r) f v x1 c1 x2 c2 p q g out) (hf : ¬ 32768 < t - x) (hc : cp b x t n ≠ n) (hlt : ¬ b (x + cp b x t n) < b (t + cp b x t n)) :
    Lp b t n s0 f0 l (upd f x2 c2 (x : Int)) (f x false) x1 c1 x false p (cp b x t n) (max g (cp b x t n)) (out ++ more g (cp b x t n) (t - x)) := by
  have hle := more_le hc hlt
  have hcn := cp_le b n x t
  have hx1 : x1 ≠ x := fun e => h.n1 (.inl e)
  have hx2 : x2 ≠ x := fun e => h.n2 (.inl e)
  have hxl : ¬ l.mem x := fun hm => by have := (h.ok.1 x hm).1; omega
  have hsp : split b t n (.node x l r) = ((split b t n l).1, .node x (split b t n l).2 r) := by
    conv => lhs; unfold split
    rw [if_neg hf, if_neg hc, if_neg hlt]
  refine ⟨?_, h.ok.2.2.2.1, fun y hy => h.lt y (.inr (.inl hy)), fun y hy => h.old y (.inr (.inl hy)), fun e => hx1 e.1, fun hm => h.n1 (.inr (.inl hm)), hxl, h.o1, .inr (h.old x (.inl rfl)), ⟨h.hp.1, fun y hy => h.hp.2 y (.inr (.inl hy))⟩, ⟨hcn, fun y hy hy2 => ?_⟩, by have := h.hg; omega, ?_, ?_⟩
  · exact h.rep.2.1.kept (fun y d hy => upd_other _ _ (fun e => h.n2 (.inr (.inl (e.1 ▸ hy)))))
  · have := (between hy2 (h.ok.1 y hy).2).2.1
    rwa [cp_comm b t x n, cp_comm b t y n] at this
  · rw [← h.out', List.append_assoc]
    conv => rhs; unfold recs
    rw [if_neg hf, if_neg hc, if_neg hlt]
    rfl
  · intro f' k1 k2 k3
    have e1 : f' x2 c2 = (x : Int) := by
      rw [k1 x2 c2 (fun e => h.ne ⟨e.1.symm, e.2.symm⟩) (fun e => hx2 e.1) (fun hm => h.n2 (.inr (.inl hm))), upd_self]
    have e2 : ∀ y d, ¬ l.mem y → ¬ (y = x ∧ d = false) → ¬ (y = x1 ∧ d = c1) → ¬ (y = x2 ∧ d = c2) → f' y d = f y d := fun y d a1 a2 a3 a4 => by
      rw [k1 y d a3 a2 a1, upd_other _ _ a4]
    refine h.kont f' (fun y d a1 a2 a3 => e2 y d (fun hm => a3 (.inr (.inl hm))) (fun e => a3 (.inl e.1)) a1 a2) ?_ ?_
    · rw [hsp]; exact k2
    · rw [hsp]
      refine ⟨e1, k3, ?_⟩
      rw [e2 x true hxl (fun e => by simp at e) (fun e => hx1 e.1.symm) (fun e => hx2 e.1.symm)]
      exact h.rep.2.2.kept (fun y d hy => e2 y d (fun hm => h.ok.2.2.1 y hm hy) (fun e => by have := (h.ok.2.1 y hy).1; omega) (fun e => h.n1 (.inr (.inr (e.1 ▸ hy)))) (fun e => h.n2 (.inr (.inr (e.1 ▸ hy)))))
/-- It ends: nothing is left, or what is left is too far. -/
theorem Lp.done (h : Lp b t n s0 f0 s f v x1 c1 x2 c2 p q g out) (hs : split b t n s = (.nil, .nil)) (hr : recs b t n g s = []) :
    Goal b t n s0 f0 (upd (upd f x1 c1 (-1)) x2 c2 (-1)) ∧ out = recs b t n 0 s0 := by
  refine ⟨h.kont _ (fun y d a1 a2 _ => by rw [upd_other _ _ a2, upd_other _ _ a1]) ?_ ?_, ?_⟩
  · rw [hs, upd_other _ _ h.ne, upd_self]; rfl
  · rw [hs, upd_self]; rfl
  · rw [← h.out', hr, List.append_nil]
theorem split_far (hf : 32768 < t - x) : split b t n (.node x l r) = (.nil, .nil) ∧ recs b t n g (.node x l r) = [] := by
  constructor
  · unfold split; rw [if_pos hf]
  · unfold recs; rw [if_pos hf]
/-- It ends: a place is all alike. -/
theorem Lp.like (h : Lp b t n s0 f0 (.node x l r) f v x1 c1 x2 c2 p q g out) (hf : ¬ 32768 < t - x) (hc : cp b x t n = n) :
    Goal b t n s0 f0 (upd (upd f x1 c1 (f x false)) x2 c2 (f x true)) ∧ out ++ more g (cp b x t n) (t - x) = recs b t n 0 s0 := by
  have hsp : split b t n (.node x l r) = (l, r) := by unfold split; rw [if_neg hf, if_pos hc]
  have hk : ∀ y d, T.mem (.node x l r) y → upd (upd f x1 c1 (f x false)) x2 c2 (f x true) y d = f y d := fun y d hy => by
    have hy1 : ¬ (y = x1 ∧ d = c1) := fun e => h.n1 (by rw [← e.1]; exact hy)
    have hy2 : ¬ (y = x2 ∧ d = c2) := fun e => h.n2 (by rw [← e.1]; exact hy)
    rw [upd_other _ _ hy2, upd_other _ _ hy1]
  refine ⟨h.kont _ (fun y d a1 a2 _ => by rw [upd_other _ _ a2, upd_other _ _ a1]) ?_ ?_, ?_⟩
  · rw [hsp, upd_other _ _ h.ne, upd_self]
    exact h.rep.2.1.kept (fun y d hy => hk y d (.inr (.inl hy)))
  · rw [hsp, upd_self]
    exact h.rep.2.2.kept (fun y d hy => hk y d (.inr (.inr hy)))
  · rw [← h.out']
    congr 1
    unfold recs more
    rw [if_neg hf, if_pos hc, List.append_nil]
theorem cp_add {b : Nat → Nat} {x y n k : Nat} (h : k ≤ cp b x y n) : k + cp b (x + k) (y + k) (n - k) = cp b x y n := by
  have h1 := cp_le b (n - k) (x + k) (y + k)
  have h2 := cp_le b n x y
  refine (cp_is (by omega) (fun i hi => ?_) (fun hlt => ?_)).symm
  · by_cases hik : i < k
    · exact cp_eq b n x y i (by omega)
    · have := cp_eq b (n - k) (x + k) (y + k) (i - k) (by omega)
      rwa [show x + k + (i - k) = x + i by omega, show y + k + (i - k) = y + i by omega] at this
  · have := cp_ne b (n - k) (x + k) (y + k) (by omega)
    rwa [Nat.add_assoc, Nat.add_assoc] at this
end
end Go.Proofs.YtedncnaeojomcaaDoor.Lz
