/- The document's Unroll: its contract. -/
import Derived.Test.YtbgaaocgdjkkeaaFlRefOf
import Derived.Test.YtbgaaocgdjkkeaaFlRoll
import Derived.Test.YtbgaaocgdjkkeaaFlBk
import Derived.Test.YtbgaaocgdjkkeaaFlSub
import Derived.Test.YtbgaaocgdjkkeaaRegionS
namespace Go.Proofs.Ytbgaaocgdjkkeaa
open Go.RowKit

namespace Fi
def QPost (w : World) (b : Nat) (r : List UInt8) (n : Nat) (e : Ending) (w' : World) : Prop :=
  Below w.heap.size w w' ∧ ∃ v, e = .returned (.tuple #[v, .int .i64 b]) ∧ w'.ownsRow w.heap.size 5 1 v (if b = 0 then n else 0) (bvs (if b = 0 then r else []))
theorem QPost.bad {w w' : World} {b : Nat} (hb : b ≠ 0) (r : List UInt8) (n : Nat) (h : Below w.heap.size w w') : QPost w b r n (.returned (.tuple #[.slice none 0 0, .int .i64 b])) w' :=
  ⟨h, _, rfl, by rw [if_neg hb, if_neg hb]; exact World.ownsRow_nil _ _ _ _⟩
/-- Behind k rows. -/
structure Rr (w wr : World) (l : List UInt8) (s p k : Nat) (ao : Option Addr) (al acap : Nat) (v : Value) (Q : Nat) : Prop where
  bel : Below w.heap.size w wr
  ahd : Bs wr ao al acap (prv l s p k)
  al : al = 0 ∨ al = s
  own : wr.ownsRow w.heap.size 5 1 v Q (bvs (outN l s p k))
  pre : ∀ j, j < k → (j + 1) * (s + 1) ≤ l.length
end Fi
theorem Bs.grown {w w' : World} {a : Option Addr} {len cap : Nat} {l : List UInt8} {blk : Option Nat} (h : Bs w a len cap l) (hg : w.grownBy w' blk) (hne : ∀ ad, a = some ad → blk ≠ some ad.block) : Bs w' a len cap l :=
  ⟨h.hlen, h.hle, h.hcap, h.hmax, h.hnil, fun i hi => by
    obtain ⟨b, off, e, hlt, hcc⟩ := h.at' i hi
    refine ⟨b, off, e, Nat.lt_of_lt_of_le hlt hg.size, ?_⟩
    rw [World.cell?_of_block (hg.block b hlt (fun e2 => hne _ e (by simpa using e2.symm)))]; exact hcc⟩
theorem refUnroll_bad (a : Option Addr) (n cap : Nat) (s c p : Int) (w : World) (hb : Fi.frm s c p = true) :
    Calls Try.prog 53 #[.slice a n cap, .int .i64 s, .int .i64 c, .int .i64 p] w fun e w' => e = .returned (.tuple #[.slice none 0 0, .int .i64 6]) ∧ w = w' := by
  cases d1 : decide (s < 1)
  · cases d2 : decide (c < 1)
    · cases d3 : decide (p < 1)
      · cases d4 : decide (8 < p)
        · cases d5 : decide (1048576 < s)
          · have d6 : decide (1048576 < c) = true := by rw [Fi.frm_true] at hb; simp at d1 d2 d3 d4 d5 ⊢; omega
            clear hb
            go_enter Try.func53, Try.ntmps53
            go_wp2
            go_ret2
            exact ⟨rfl, rfl⟩
          all_goals
            clear hb
            go_enter Try.func53, Try.ntmps53
            go_wp2
            go_ret2
            exact ⟨rfl, rfl⟩
        all_goals
          clear hb
          go_enter Try.func53, Try.ntmps53
          go_wp2
          go_ret2
          exact ⟨rfl, rfl⟩
      all_goals
        clear hb
        go_enter Try.func53, Try.ntmps53
        go_wp2
        go_ret2
        exact ⟨rfl, rfl⟩
    all_goals
      clear hb
      go_enter Try.func53, Try.ntmps53
      go_wp2
      go_ret2
      exact ⟨rfl, rfl⟩
  all_goals
    clear hb
    go_enter Try.func53, Try.ntmps53
    go_wp2
    go_ret2
    exact ⟨rfl, rfl⟩
set_option maxRecDepth 100000 in
set_option maxHeartbeats 2000000 in
theorem refUnroll_good (a : Option Addr) (n cap s c p : Nat) (l : List UInt8) (w : World) (h : Bs w a n cap l) (hn : n ≤ 100000000) (hc : cap ≤ 140737488355328) (hs : 1 ≤ s) (hs2 : s ≤ 1048576) (hc1 : 1 ≤ c) (hc2 : c ≤ 1048576) (hp : 1 ≤ p) (hp8 : p ≤ 8) :
    Calls Try.prog 53 #[.slice a n cap, .int .i64 s, .int .i64 c, .int .i64 p] w (Fi.QPost w (Fi.chkN l s c 0) (Fi.outN l s p c) (c * s)) := by
  have d1 : decide ((s : Int) < 1) = false := by simp; omega
  have d2 : decide ((c : Int) < 1) = false := by simp; omega
  have d3 : decide ((p : Int) < 1) = false := by simp; omega
  have d4 : decide (8 < (p : Int)) = false := by simp; omega
  have d5 : decide (1048576 < (s : Int)) = false := by simp; omega
  have d6 : decide (1048576 < (c : Int)) = false := by simp; omega
  have HLN := Lib.hid h.hlen
  have H := Lib.hid h
  clear h
  go_enter Try.func53, Try.ntmps53
  go_wp2
  clear d1 d2 d3 d4 d5 d6
  go_loopw [10, 11, 12, 13] (fun v av ai i wr => ∃ (k A Q : Nat) (ao : Option Addr) (al acap : Nat), k ≤ c ∧ A ≤ n ∧ Q ≤ n ∧ i = .int .i64 k ∧ ai = .int .i64 A ∧ av = .slice ao al acap ∧ Hid (k * (s + 1) = A) ∧ Hid (k * s = Q) ∧ Hid (Fi.chkN l s (c - k) k = Fi.chkN l s c 0) ∧ Hid (Fi.Rr w wr l s p k ao al acap v Q)) (fun _ _ _ i _ => c - (intOf i).toNat)
  case atStart => exact ⟨0, 0, 0, none, 0, 0, by omega, by omega, by omega, rfl, rfl, rfl, Lib.hid (by simp), Lib.hid (by simp), Lib.hid rfl, Lib.hid ⟨Below.refl _ _, bs_nil _, .inl rfl, World.ownsRow_nil _ _ _ _, fun j hj => by omega⟩⟩
  case round =>
    obtain ⟨k, A, Q, ao, al, acap, hk, hAn, hQn, rfl, rfl, rfl, HA, HQ, HE, HR⟩ := hrel
    by_cases hkc : k < c
    · have hstep : Fi.chkN l s (c - k) k = if l.length ≤ k * (s + 1) + s then 8 else if 4 < gb l (k * (s + 1)) then 2 else Fi.chkN l s (c - (k + 1)) (k + 1) := by
        rw [show c - k = (c - (k + 1)) + 1 by omega]; rfl
      have hst := HE.out.symm.trans hstep
      rw [HA.out, HLN.out] at hst
      have HST := Lib.hid hst
      clear hstep HE hst
      by_cases h1 : n ≤ A + s
      · have e1 : decide ((n : Int) - (A : Int) < (s : Int) + 1) = true := by simp; omega
        have hx := HST.out
        rw [if_pos h1] at hx
        have HF := Lib.hid (Fi.QPost.bad (b := 8) (by omega) (Fi.outN l s p c) (c * s) HR.out.bel)
        rw [hx]
        clear hx HST h1
        go_wp2
        go_ret2
        exact HF.out
      · have e1 : decide ((n : Int) - (A : Int) < (s : Int) + 1) = false := by simp; omega
        have hAn2 : A < n := by omega
        have hHw := H.out.mono HR.out.bel
        have hx := HST.out
        rw [if_neg h1] at hx
        obtain ⟨b, off, rfl, hbl, c0⟩ := hHw.at' A hAn2
        have hgl := gb_lt l A
        by_cases h4 : 4 < gb l A
        · rw [if_pos h4] at hx
          have e2 : decide (4 < gb l A) = true := by simpa using h4
          have e3 : decide ((4 : Int) < (gb l A : Int)) = true := by simp; omega
          have HF := Lib.hid (Fi.QPost.bad (b := 2) (by omega) (Fi.outN l s p c) (c * s) HR.out.bel)
          rw [hx]
          clear hx HST h1 h4 hHw hgl
          generalize gb l A = x at *
          go_wp2
          go_ret2
          exact HF.out
        · rw [if_neg h4] at hx
          have HX := Lib.hid hx.symm
          have e2 : decide (4 < gb l A) = false := by simpa using h4
          have e3 : decide ((4 : Int) < (gb l A : Int)) = false := by simp; omega
          clear hx HST h4
          obtain ⟨u, hu⟩ : ∃ u, A + 1 = u := ⟨_, rfl⟩
          obtain ⟨t, ht⟩ : ∃ t, u + s = t := ⟨_, rfl⟩
          have htn : t ≤ n := by omega
          have htI : (u : Int) + (s : Int) = (t : Int) := by omega
          have huI : (A : Int) + 1 = (u : Int) := by omega
          have htd : t - u = s := by omega
          have hk1 : k * (s + 1) = A := HA.out
          have hsub0 := hHw.sub u s (by omega)
          have hsub : Bs wr (some ⟨b, off + u, none⟩) s (cap - u) (Fi.dat l s k) := by
            have hd := hHw.drop u (by omega) (some ⟨b, off + u, none⟩) (fun _ => rfl)
            have e9 : Fi.dat l s k = (l.drop u).take s := by unfold Fi.dat; rw [hk1, hu]
            rw [e9]
            exact ⟨hsub0.hlen, by have := hHw.hle; omega, hsub0.hcap, by omega, fun e => by simp at e, fun i hi => hsub0.at' i hi⟩
          have HCALL := Lib.hid (refUnfilter_any (gb l A : Nat) (some ⟨b, off + u, none⟩) s (cap - u) (Fi.dat l s k) ao al acap (Fi.prv l s p k) p wr.drew (hsub.mono ((Below.refl _ wr).drew)) (HR.out.ahd.mono ((Below.refl _ wr).drew)) (by omega) (by have := HR.out.al; omega) hp hp8)
          have hrw : Fi.unf (gb l A : Nat) (Fi.dat l s k) (Fi.prv l s p k) p = Fi.prv l s p (k + 1) := by rw [Fi.prv_succ]; unfold Fi.rwI; rw [hk1]
          rw [hrw] at HCALL
          have hle := H.out.hle
          have HON : Hid (Fi.outN l s p k ++ Fi.prv l s p (k + 1) = Fi.outN l s p (k + 1)) := Lib.hid (by rw [Fi.prv_succ]; rfl)
          have hQ2 : Q + s ≤ 100000000 := by
            have := HQ.out
            have h9 : k * s + k = A := by rw [← hk1, Nat.mul_add, Nat.mul_one]
            omega
          have HQN : Hid ((k + 1) * s = Q + s ∧ Q + s ≤ n) := Lib.hid ⟨by rw [Nat.succ_mul, HQ.out], by
            have h9 : k * s + k = A := by rw [← hk1, Nat.mul_add, Nat.mul_one]
            have := HQ.out
            omega⟩
          have HAN : Hid ((k + 1) * (s + 1) = t) := Lib.hid (by rw [Nat.succ_mul, hk1]; omega)
          have HPR : Hid (∀ j, j < k + 1 → (j + 1) * (s + 1) ≤ l.length) := Lib.hid (fun j hj => by
            by_cases e : j < k
            · exact HR.out.pre j e
            · obtain rfl : j = k := by omega
              rw [HAN.out, HLN.out]; exact htn)
          have HBL := Lib.hid hbl
          have hI1 : (0 : Int) ≤ (u : Int) := by omega
          have hI2 : (u : Int) ≤ (t : Int) := by omega
          have hI3 : (t : Int) ≤ (cap : Int) := by omega
          have hI4 : (A : Int) < (n : Int) := by omega
          have hI5 : u ≤ t := by omega
          have hI6 : t ≤ cap := by omega
          have hI7 : ¬ cap = u := by omega
          have hxw : IntKind.i64.wrap (gb l A : Int) = (gb l A : Int) := IntWalk.i64_in _ ⟨by omega, by omega⟩
          have hxw2 : IntKind.i64.wrap ((A : Int) + 1) = (u : Int) := by rw [huI]; exact IntWalk.i64_in _ ⟨by omega, by omega⟩
          have hxu : IntKind.i64.wrap (u : Int) = (u : Int) := IntWalk.i64_in _ ⟨by omega, by omega⟩
          have hxt : IntKind.i64.wrap (t : Int) = (t : Int) := IntWalk.i64_in _ ⟨by omega, by omega⟩
          have hmx : max (t : Int) 0 = (t : Int) := by omega
          have hxw3 : IntKind.i64.wrap ((u : Int) + (s : Int)) = (t : Int) := by rw [htI]; exact IntWalk.i64_in _ ⟨by omega, by omega⟩
          clear hsub0 hsub hrw hk1 ht hbl hHw hu
          generalize gb l A = x at *
          go_wp2_with fail
          refine wp_region_noPanic ?_
          refine region_RH (fun w' => w'.cell? ⟨b, off + A, none⟩ = some (.int .u8 x)) (by kernel_rfl) ?_
          refine RH_take (i := 0) (v := ?_) rfl (by kernel_rfl) (by kernel_rfl) (by kernel_rfl) (fun _ _ _ h => h) c0 (by rfl) ?_ ?_
          rotate_left
          · (intro w' hw'; first | (go_simp; done) | (go_simp; with_reducible rfl))
          try simp only [List.getElem_toArray, List.getElem_cons_zero, List.getElem_cons_succ, Act.put, List.setIfInBounds_toArray, List.set_cons_zero, List.set_cons_succ]
          refine RH_take (i := 1) (v := ?_) rfl (by kernel_rfl) (by kernel_rfl) (by kernel_rfl) (fun _ _ _ h => h) c0 (by rfl) ?_ ?_
          rotate_left
          · (intro w' hw'; first | (go_simp; done) | (go_simp; with_reducible rfl))
          try simp only [List.getElem_toArray, List.getElem_cons_zero, List.getElem_cons_succ, Act.put, List.setIfInBounds_toArray, List.set_cons_zero, List.set_cons_succ]
          refine RH_take (i := 2) (v := ?_) rfl (by kernel_rfl) (by kernel_rfl) (by kernel_rfl) (fun _ _ _ h => h) c0 (by rfl) ?_ ?_
          rotate_left
          · (intro w' hw'; first | (go_simp; done) | (go_simp; with_reducible rfl))
          try simp only [List.getElem_toArray, List.getElem_cons_zero, List.getElem_cons_succ, Act.put, List.setIfInBounds_toArray, List.set_cons_zero, List.set_cons_succ]
          refine RH_take (i := 3) (v := ?_) rfl (by kernel_rfl) (by kernel_rfl) (by kernel_rfl) (fun _ _ _ h => h) c0 (by rfl) ?_ ?_
          rotate_left
          · (intro w' hw'; first | (go_simp; done) | (go_simp; with_reducible rfl))
          try simp only [List.getElem_toArray, List.getElem_cons_zero, List.getElem_cons_succ, Act.put, List.setIfInBounds_toArray, List.set_cons_zero, List.set_cons_succ]
          refine RH_take (i := 4) (v := ?_) rfl (by kernel_rfl) (by kernel_rfl) (by kernel_rfl) (fun _ _ _ h => h) c0 (by rfl) ?_ ?_
          rotate_left
          · (intro w' hw'; first | (go_simp; done) | (go_simp; with_reducible rfl))
          try simp only [List.getElem_toArray, List.getElem_cons_zero, List.getElem_cons_succ, Act.put, List.setIfInBounds_toArray, List.set_cons_zero, List.set_cons_succ]
          refine RH_take (i := 5) (v := ?_) rfl (by kernel_rfl) (by kernel_rfl) (by kernel_rfl) (fun _ _ _ h => h) c0 (by rfl) ?_ ?_
          rotate_left
          · (intro w' hw'; first | (go_simp; done) | (go_simp; with_reducible rfl))
          try simp only [List.getElem_toArray, List.getElem_cons_zero, List.getElem_cons_succ, Act.put, List.setIfInBounds_toArray, List.set_cons_zero, List.set_cons_succ]
          refine RH_take (i := 6) (v := ?_) rfl (by kernel_rfl) (by kernel_rfl) (by kernel_rfl) (fun _ _ _ h => h) c0 (by rfl) ?_ ?_
          rotate_left
          · (intro w' hw'; first | (go_simp; done) | (go_simp; with_reducible rfl))
          try simp only [List.getElem_toArray, List.getElem_cons_zero, List.getElem_cons_succ, Act.put, List.setIfInBounds_toArray, List.set_cons_zero, List.set_cons_succ]
          refine RH_take (i := 7) (v := ?_) rfl (by kernel_rfl) (by kernel_rfl) (by kernel_rfl) (fun _ _ _ h => h) c0 (by rfl) ?_ ?_
          rotate_left
          · (intro w' hw'; first | (go_simp; done) | (go_simp; with_reducible rfl))
          try simp only [List.getElem_toArray, List.getElem_cons_zero, List.getElem_cons_succ, Act.put, List.setIfInBounds_toArray, List.set_cons_zero, List.set_cons_succ]
          refine RH_take (i := 8) (v := ?_) rfl (by kernel_rfl) (by kernel_rfl) (by kernel_rfl) (fun _ _ _ h => h) c0 (by rfl) ?_ ?_
          rotate_left
          · (intro w' hw'; first | (go_simp; done) | (go_simp; with_reducible rfl))
          try simp only [List.getElem_toArray, List.getElem_cons_zero, List.getElem_cons_succ, Act.put, List.setIfInBounds_toArray, List.set_cons_zero, List.set_cons_succ]
          refine RH_take (i := 9) (v := ?_) rfl (by kernel_rfl) (by kernel_rfl) (by kernel_rfl) (fun _ _ _ h => h) c0 (by rfl) ?_ ?_
          rotate_left
          · (intro w' hw'; first | (go_simp; done) | (go_simp; with_reducible rfl))
          try simp only [List.getElem_toArray, List.getElem_cons_zero, List.getElem_cons_succ, Act.put, List.setIfInBounds_toArray, List.set_cons_zero, List.set_cons_succ]
          refine RH_take (i := 10) (v := ?_) rfl (by kernel_rfl) (by kernel_rfl) (by kernel_rfl) (fun _ _ _ h => h) c0 (by rfl) ?_ ?_
          rotate_left
          · (intro w' hw'; first | (go_simp; done) | (go_simp; with_reducible rfl))
          try simp only [List.getElem_toArray, List.getElem_cons_zero, List.getElem_cons_succ, Act.put, List.setIfInBounds_toArray, List.set_cons_zero, List.set_cons_succ]
          refine RH_take (i := 11) (v := ?_) rfl (by kernel_rfl) (by kernel_rfl) (by kernel_rfl) (fun _ _ _ h => h) c0 (by rfl) ?_ ?_
          rotate_left
          · (intro w' hw'; first | (go_simp; done) | (go_simp; with_reducible rfl))
          try simp only [List.getElem_toArray, List.getElem_cons_zero, List.getElem_cons_succ, Act.put, List.setIfInBounds_toArray, List.set_cons_zero, List.set_cons_succ]
          refine RH_take (i := 12) (v := ?_) rfl (by kernel_rfl) (by kernel_rfl) (by kernel_rfl) (fun _ _ _ h => h) c0 (by rfl) ?_ ?_
          rotate_left
          · (intro w' hw'; first | (go_simp; done) | (go_simp; with_reducible rfl))
          try simp only [List.getElem_toArray, List.getElem_cons_zero, List.getElem_cons_succ, Act.put, List.setIfInBounds_toArray, List.set_cons_zero, List.set_cons_succ]
          refine RH_take (i := 13) (v := ?_) rfl (by kernel_rfl) (by kernel_rfl) (by kernel_rfl) (fun _ _ _ h => h) c0 (by rfl) ?_ ?_
          rotate_left
          · (intro w' hw'; first | (go_simp; done) | (go_simp; with_reducible rfl))
          try simp only [List.getElem_toArray, List.getElem_cons_zero, List.getElem_cons_succ, Act.put, List.setIfInBounds_toArray, List.set_cons_zero, List.set_cons_succ]
          refine RH_take (i := 14) (v := ?_) rfl (by kernel_rfl) (by kernel_rfl) (by kernel_rfl) (fun _ _ _ h => h) c0 (by rfl) ?_ ?_
          rotate_left
          · (intro w' hw'; first | (go_simp; done) | (go_simp; with_reducible rfl))
          try simp only [List.getElem_toArray, List.getElem_cons_zero, List.getElem_cons_succ, Act.put, List.setIfInBounds_toArray, List.set_cons_zero, List.set_cons_succ]
          refine RH_step (i := 15) (by kernel_rfl) rfl (fun K hK => ?_)
          go_simp
          go_at_call 24
          (with_reducible refine HCALL.out.mono ?_)
          rintro e w2 ⟨v2, rfl, own2, hb2⟩
          have c1 : w2.cell? ⟨b, off + A, none⟩ = some (.int .u8 x) := (hb2.cell (p := ⟨b, off + A, none⟩) HBL.out).trans c0
          have HB2 : Hid (Below wr.heap.size wr w2) := Lib.hid (((Below.refl _ wr).drew).trans hb2)
          have HO2 := Lib.hid own2
          clear hb2 own2
          go_simp
          refine hK.out _ _ c1 ?_
          clear hK K
          try simp only [List.getElem_toArray, List.getElem_cons_zero, List.getElem_cons_succ, Act.put, List.setIfInBounds_toArray, List.set_cons_zero, List.set_cons_succ]
          refine RH_take (i := 16) (v := ?_) rfl (by kernel_rfl) (by kernel_rfl) (by kernel_rfl) (fun _ _ _ h => h) c1 (by rfl) ?_ ?_
          rotate_left
          · (intro w' hw'; first | (go_simp; done) | (go_simp; with_reducible rfl))
          try simp only [List.getElem_toArray, List.getElem_cons_zero, List.getElem_cons_succ, Act.put, List.setIfInBounds_toArray, List.set_cons_zero, List.set_cons_succ]
          refine wpAnyH_done (by kernel_rfl) ?_ _
          refine NoPanic.normal ?_
          obtain ⟨va, ca, rfl, hs2'⟩ := own_bs HO2.out (by omega)
          have hown := own_below HR.out.own HB2.out
          have hsrc := hs2'.src
          have hbb : w.heap.size ≤ w2.heap.size := Nat.le_trans HR.out.bel.size HB2.out.size
          have hne : ∀ ad, va = some ad → u10.ownBlock ≠ some ad.block := fun ad e e2 => by
            subst e
            have y1 := HO2.out.lt ad.block rfl
            have y2 := HR.out.own.lt ad.block e2
            have : wr.drew.heap.size = wr.heap.size := rfl
            omega
          have HNE := Lib.hid hne
          have HS2 := Lib.hid hs2'
          have HOW := Lib.hid hown
          have HBE := Lib.hid (below_then HR.out.bel HB2.out)
          clear hne hs2' HO2 HR hxw hxw2 hxw3 hxu hxt hmx hI1 hI2 hI3 hI4 hI5 hI6 hI7 htI huI htd e1 e2 e3 c0 c1 HCALL
          go_wp2_with (at_builtin; refine wpl_append tyB rfl _ _ rfl HOW.out hsrc rfl rfl (by omega) (by omega) hbb ?_)
          intro v3 w3 own3 hg3 _
          have hb3 : Below w.heap.size w w3 := HBE.out.grown hg3 hbb (fun k hk => (HOW.out.lt k hk).1)
          rw [← bvs_append, HON.out] at own3
          have HR3 : Hid (Fi.Rr w w3 l s p (k + 1) va s ca v3 (Q + s)) := Lib.hid ⟨hb3, HS2.out.grown hg3 HNE.out, .inr rfl, own3, HPR.out⟩
          clear own3 hg3 hsrc hb3 hown HOW
          go_wp2
          go_roundw
          case rel => exact ⟨k + 1, t, Q + s, va, s, ca, by omega, htn, HQN.out.2, by go_num, by have := HAN.out; have := HA.out; rw [Nat.succ_mul] at *; go_num, rfl, HAN, Lib.hid HQN.out.1, HX, HR3⟩
          case measure => simp [intOf]; omega
    · obtain rfl : c = k := by omega
      have hx : (if c * (s + 1) < l.length then 2 else 0) = Fi.chkN l s c 0 := by
        have := HE.out
        rw [Nat.sub_self] at this
        exact this
      rw [HA.out, HLN.out] at hx
      by_cases h0 : A < n
      · have e1 : decide ((A : Int) < (n : Int)) = true := by simp; omega
        have e2 : decide (A < n) = true := by simp; omega
        rw [if_pos h0] at hx
        have HF := Lib.hid (Fi.QPost.bad (b := 2) (by omega) (Fi.outN l s p c) (c * s) HR.out.bel)
        have HXE := Lib.hid hx.symm
        clear hx h0
        go_wp2
        go_ret2
        rw [HXE.out]
        exact HF.out
      · have e1 : decide ((A : Int) < (n : Int)) = false := by simp; omega
        have e2 : decide (A < n) = false := by simp; omega
        rw [if_neg h0] at hx
        have HF : Hid (Fi.QPost w 0 (Fi.outN l s p c) (c * s) (.returned (.tuple #[u10, .int .i64 0])) wr) := Lib.hid ⟨HR.out.bel, _, rfl, by rw [if_pos rfl, if_pos rfl, HQ.out]; exact HR.out.own⟩
        have HXE := Lib.hid hx.symm
        clear hx h0
        go_wp2
        go_ret2
        rw [HXE.out]
        exact HF.out
end Go.Proofs.Ytbgaaocgdjkkeaa
