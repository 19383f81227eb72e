/- (*Writer).add: its contract. (*Writer).Put: its contract. (*Writer).Bytes: its contract. -/
import Derived.Test.YtjjbgdmalefdlaaGreatDoorZ18
import Derived.Test.YtjjbgdmalefdlaaGreatDoorZ19
import Derived.Deep.LoopGhost
import Derived.Deep.DeepCutAuto
set_option linter.unusedSimpArgs false
set_option linter.unusedVariables false
section
namespace Go.Proofs.YtjjbgdmalefdlaaGreatDoor
open Go.RowKit

/-- A writer in the midst of a number. -/
structure Wb (w : World) (B g : Nat) (h : Bool) (v : Value) (bs : List UInt8) (count : Nat) : Prop where
  blk : w.heap[g]? = some (.cells #[.bool h, v, .int .i64 count] 73 (0, 0))
  own : w.ownsRow B 5 1 v bs.length (bvs bs)
  hg : B ≤ g
  ne : v.ownBlock ≠ some g
section
variable {w w' : World} {B g : Nat} {h : Bool} {v : Value} {bs : List UInt8} {count : Nat}
theorem Wr.wb {l : List Bool} (H : Wr w B g h v l) : Wb w B g h v (Bt.packs h false l) l.length :=
  ⟨H.blk, by rw [Bt.packs_length]; exact H.own, H.hg, H.ne⟩
theorem Wb.wr {l : List Bool} (H : Wb w B g h v (Bt.packs h false l) l.length) : Wr w B g h v l :=
  ⟨H.blk, by have := H.own; rwa [Bt.packs_length] at this, H.hg, H.ne⟩
theorem Wb.lt (H : Wb w B g h v bs count) : g < w.heap.size := (Array.getElem?_eq_some_iff.1 H.blk).1
theorem Wb.kept {T : Nat → Prop} (H : Wb w B g h v bs count) (c : Ch w w' T) (h1 : ¬ T g) (h2 : ∀ k, v.ownBlock = some k → ¬ T k) : Wb w' B g h v bs count :=
  ⟨by rw [c.block g H.lt h1]; exact H.blk, c.own H.own h2, H.hg, H.ne⟩
theorem Wb.mono (H : Wb w B g h v bs count) (hb : Below w.heap.size w w') : Wb w' B g h v bs count :=
  H.kept (Ch.of_below (T := fun _ => False) hb) (fun h => h) (fun _ _ h => h)
theorem Wb.c0 (H : Wb w B g h v bs count) : w.cell? ⟨g, 0, none⟩ = some (.bool h) := by rw [cell_of_row _ _ _ _ _ (0, 0) H.blk]; rfl
theorem Wb.c1 (H : Wb w B g h v bs count) : w.cell? ⟨g, 1, none⟩ = some v := by rw [cell_of_row _ _ _ _ _ (0, 0) H.blk]; rfl
theorem Wb.c2 (H : Wb w B g h v bs count) : w.cell? ⟨g, 2, none⟩ = some (.int .i64 count) := by rw [cell_of_row _ _ _ _ _ (0, 0) H.blk]; rfl
theorem Wb.fr (H : Wb w B g h v bs count) (o : Nat) : w.frozen? ⟨g, o, none⟩ = false := frozen_of_row w g o _ _ H.blk
theorem Wb.put2 (H : Wb w B g h v bs count) (q : Nat) : Wb (w.setCell ⟨g, 2, none⟩ (.int .i64 q)) B g h v bs q := by
  have c : Ch w (w.setCell ⟨g, 2, none⟩ (.int .i64 q)) (fun k => k = g) := (Ch.refl w (fun k => k = g)).set (.inl rfl) _
  refine ⟨?_, c.own H.own (fun k hk e => by subst e; exact H.ne hk), H.hg, H.ne⟩
  rw [heap_setCell_same w g 2 _ _ _ H.blk]; rfl
/-- The field is appended to. -/
theorem Wb.grow {v2 : Value} {bs2 : List UInt8} (H : Wb w B g h v bs count) (st : Step w w' v v2) (own : w'.ownsRow B 5 1 v2 bs2.length (bvs bs2)) :
    Wb (w'.setCell ⟨g, 1, none⟩ v2) B g h v2 bs2 count ∧ Ch w (w'.setCell ⟨g, 1, none⟩ v2) (Wt g v) := by
  have hne : v2.ownBlock ≠ some g := fun e => (st.block g e).elim H.ne (fun h' => by have := H.lt; omega)
  have hb : w'.heap[g]? = some (.cells #[.bool h, v, .int .i64 count] 73 (0, 0)) := by
    rw [(Ch.step st).block g H.lt H.ne]; exact H.blk
  have c : Ch w' (w'.setCell ⟨g, 1, none⟩ v2) (fun k => k = g) := (Ch.refl w' (fun k => k = g)).set (.inl rfl) _
  refine ⟨⟨?_, c.own own (fun k hk e => by subst e; exact hne hk), H.hg, hne⟩, ?_⟩
  · rw [heap_setCell_same w' g 1 _ _ _ hb]; rfl
  · exact ((Ch.step st).wide (U := Wt g v) (fun k hk => .inl (.inr hk))).set (.inl (.inl rfl)) _
/-- One byte is written over. -/
theorem Wb.store {gv n cap : Nat} (H : Wb w B g h (.slice (some ⟨gv, 0, none⟩) n cap) bs count) (j x : Nat) (hx : x < 256) :
    Wb (w.setCell ⟨gv, j, none⟩ (.int .u8 (x : Nat))) B g h (.slice (some ⟨gv, 0, none⟩) n cap) (bs.set j (UInt8.ofNat x)) count := by
  have hn : n = bs.length := by
    rcases own_nil_or H.own with ⟨e, _⟩ | ⟨_, _, e, _⟩
    · simp at e
    · simp only [Value.slice.injEq] at e; exact e.2.1
  subst hn
  have hne : g ≠ gv := fun e => H.ne (by simp [Value.ownBlock, e])
  have hs := H.own.stored j (.int .u8 (x : Nat))
  have e : (bvs bs).set j (.int .u8 (x : Nat)) = bvs (bs.set j (UInt8.ofNat x)) := by
    rw [← bvs_set, Nat.mod_eq_of_lt hx]
  refine ⟨?_, by rw [← e, List.length_set]; exact hs.1, H.hg, H.ne⟩
  rw [heap_setCell_other w ⟨gv, j, none⟩ g _ hne]; exact H.blk
end
def AddPost (w : World) (B g : Nat) (h : Bool) (v : Value) (l : List Bool) (e : Ending) (w' : World) : Prop :=
  e = .returned (.tuple #[]) ∧ ∃ v', Wr w' B g h v' l ∧ Ch w w' (Wt g v) ∧ ∀ k, v'.ownBlock = some k → v.ownBlock = some k ∨ w.heap.size ≤ k
/-- In the midst of a round. -/
def AddMid (w : World) (B g : Nat) (h : Bool) (v : Value) (bs : List UInt8) (count : Nat) (v' : Value) (wx : World) : Prop :=
  Wb wx B g h v' bs count ∧ Ch w wx (Wt g v) ∧ ∀ k, v'.ownBlock = some k → v.ownBlock = some k ∨ w.heap.size ≤ k
theorem AddMid.ch {w wx : World} {B g : Nat} {h : Bool} {v v' : Value} {bs : List UInt8} {count : Nat} (H : AddMid w B g h v bs count v' wx) {k : Nat} (hk : Wt g v' k) : Wt g v k ∨ w.heap.size ≤ k :=
  hk.elim (fun e => .inl (.inl e)) (fun e => (H.2.2 k e).elim (fun e => .inl (.inr e)) .inr)
theorem src_byte (w : World) (x : Nat) (hx : x < 256) : SrcRow (w.alloc (.cells #[Value.int .u8 (x : Nat)] 5)) (some ⟨w.heap.size, 0, none⟩) 1 1 (bvs [UInt8.ofNat x]) 1 := by
  have : bvs [UInt8.ofNat x] = [Value.int .u8 (x : Nat)] := by simp [bvs]; omega
  rw [this]
  exact src_new w #[Value.int .u8 (x : Nat)] 5 1 1 1 rfl (fun u hu => by simp only [List.mem_singleton] at hu; subst hu; rfl)

theorem own_frozen {w : World} {base : Nat} {e : TypeId} {size n cap g : Nat} {xs : List Value} (h : w.ownsRow base e size (.slice (some ⟨g, 0, none⟩) n cap) n xs) (o : Nat) : w.frozen? ⟨g, o, none⟩ = false := by
  rcases h.2 with ⟨h', _⟩ | ⟨g', cap', cur, h', hb, hg, _⟩
  · simp at h'
  · simp only [Value.slice.injEq, Option.some.injEq, Addr.mk.injEq, and_true, true_and] at h'
    obtain ⟨rfl, rfl⟩ := h'
    exact frozen_of_row w g o _ _ hg
theorem shf_le (h : Bool) (size fro some : Nat) (hs : fro + some ≤ size) : Bt.shf h size fro some + some ≤ size := by
  cases h <;> simp [Bt.shf] <;> omega
set_option maxHeartbeats 4000000 in
set_option maxRecDepth 100000 in
theorem add_any (w : World) (B g : Nat) (h : Bool) (v : Value) (l : List Bool) (n c : Nat) (H : Wr w B g h v l) (hB : B ≤ w.heap.size) (hc : c ≤ 32) (hn : n < 2 ^ c) (hl : l.length ≤ 1000000000000) :
    Calls Tryz.prog 83 #[.pointer (some ⟨g, 0, none⟩), .int .i64 n, .int .i64 c] w (AddPost w B g h v (l ++ Bt.dg h n c)) := by
  have H0 := Lib.hid H
  have hn32 : n < 4294967296 := Nat.lt_of_lt_of_le hn (Nat.le_trans (Bt.pow_le c 32 hc) (by omega))
  clear H hn
  go_enter Tryz.func83, Tryz.ntmps83
  go_wp2
  go_loopg [6] c (fun gk i wr => ∃ d : Nat, d ≤ c ∧ gk = c - d ∧ i = .int .i64 d ∧ ∃ v', Hid (AddMid w B g h v (Bt.packs h false (l ++ (Bt.dg h n c).take d)) (l ++ (Bt.dg h n c).take d).length v' wr))
  case atStart => exact ⟨0, by omega, by omega, rfl, v, Lib.hid ⟨by simpa using H0.out.wb, Ch.refl _ _, fun k hk => .inl hk⟩⟩
  case round =>
    obtain ⟨d, hd, rfl, rfl, v', HM⟩ := hrel
    have hL : (l ++ (Bt.dg h n c).take d).length = l.length + d := by simp [Bt.dg_length]; omega
    by_cases hlt : d < c
    · generalize hm : l ++ (Bt.dg h n c).take d = m at *
      have hz := HM.out.1.lt
      have k0 := HM.out.1.c0
      have k1 := HM.out.1.c1
      have k2 := HM.out.1.c2
      have hmlen : m.length ≤ 1000000000032 := by omega
      have HL := Lib.hid hL
      have Hm := Lib.hid hm
      clear hL hm
      go_upto_if 19 with (fail)
      go_cut [7] (fun s7 wx => s7 = .int .i64 ((m.length % 8 : Nat) : Int) ∧ ∃ v2, Hid (AddMid w B g h v (Bt.base h m) m.length v2 wx))
      case first =>
        by_cases h0 : m.length % 8 = 0
        · have own1 := Lib.hid (HM.out.1.own.alloc (.cells #[.int .u8 0] 5))
          have hsrc := src_byte wr 0 (by omega)
          have hbig : (Bt.packs h false m).length ≤ 1000000000032 := by rw [Bt.packs_length]; omega
          have hBs : B ≤ (wr.alloc (.cells #[.int .u8 0] 5)).heap.size := by have := HM.out.2.1.size; simp; omega
          go_wp2_with (at_builtin; refine wpl_append2 tyB rfl _ _ rfl own1.out hsrc rfl rfl (by omega) (by omega) (by omega) hBs ?_)
          intro v2 w2 own2 st2
          rw [show (0 : UInt8) = UInt8.ofNat 0 from rfl] at own2
          have e2 : bvs (Bt.packs h false m) ++ bvs [UInt8.ofNat 0] = bvs (Bt.base h m) := by
            rw [← bvs_append]; unfold Bt.base; rw [if_pos h0]; rfl
          have e3 : (Bt.packs h false m).length + 1 = (Bt.base h m).length := by unfold Bt.base; rw [if_pos h0]; simp
          rw [e2, e3] at own2
          have HA := Lib.hid (HM.out.1.mono (below_alloc wr (.cells #[.int .u8 0] 5)))
          have hgr := Lib.hid (HA.out.grow st2 own2)
          have hbl := Lib.hid (show w2.heap[g]? = some (.cells #[.bool h, v', .int .i64 m.length] 73 (0, 0)) by rw [(Ch.step st2).block g HA.out.lt HA.out.ne]; exact HA.out.blk)
          have j1 : w2.cell? ⟨g, 1, none⟩ = some v' := by rw [cell_of_row _ _ _ _ _ (0, 0) hbl.out]; rfl
          have f1 : w2.frozen? ⟨g, 1, none⟩ = false := frozen_of_row w2 g 1 _ _ hbl.out
          have hnew := Lib.hid st2.block
          rcases own_nil_or own2 with ⟨_, hx⟩ | ⟨gv, cap2, rfl, _⟩
          · rw [Bt.base_length] at hx; omega
          clear own1 hsrc st2 own2 e2 e3 hbl hBs
          have hM2 : Hid (AddMid w B g h v (Bt.base h m) m.length (.slice (some ⟨gv, 0, none⟩) (Bt.base h m).length cap2) (w2.setCell ⟨g, 1, none⟩ (.slice (some ⟨gv, 0, none⟩) (Bt.base h m).length cap2))) := Lib.hid (by
            refine ⟨hgr.out.1, (HM.out.2.1.alloc (.cells #[.int .u8 0] 5)).trans hgr.out.2 (fun k hk => HM.out.ch hk), fun k hk => ?_⟩
            rcases hnew.out k hk with h' | h'
            · exact HM.out.2.2 k h'
            · right; have := HM.out.2.1.size; simp at h'; omega)
          clear hgr HA hnew
          go_wp2_with fail
          go_meet
          exact ⟨int_eq (by omega), _, hM2⟩
        · have hM2 : Hid (AddMid w B g h v (Bt.base h m) m.length v' wr) := Lib.hid (by unfold Bt.base; rw [if_neg h0]; exact HM.out)
          go_wp2_with fail
          go_meet
          exact ⟨int_eq (by omega), _, hM2⟩
      case rest =>
        obtain ⟨rfl, v2, HM2⟩ := hcut
        clear HM
        have hbl := Bt.base_length h m
        obtain ⟨gv, cap2, rfl, hnc⟩ : ∃ gv cap2, v2 = .slice (some ⟨gv, 0, none⟩) (m.length / 8 + 1) cap2 ∧ m.length / 8 + 1 ≤ cap2 := by
          rcases own_nil_or HM2.out.1.own with ⟨_, hx⟩ | ⟨gv, cap2, hv2, hx, _⟩
          · omega
          · exact ⟨gv, cap2, by rw [hv2, hbl], by omega⟩
        have Hbl := Lib.hid hbl
        have hf8 : m.length % 8 < 8 := by omega
        obtain ⟨s, hs⟩ : ∃ s, s = min (8 - m.length % 8) (c - d) := ⟨_, rfl⟩
        have hs1 : 1 ≤ s := by omega
        have hs2 : m.length % 8 + s ≤ 8 := by omega
        have hs3 : d + s ≤ c := by omega
        have Hs := Lib.hid hs
        have j0 := HM2.out.1.c0
        have j1 := HM2.out.1.c1
        have j2 := HM2.out.1.c2
        clear hbl hs k0 k1 k2 hz
        have hq : m.length / 8 ≤ 1000000000032 := by omega
        generalize hfd : m.length % 8 = f at *
        have Hf := Lib.hid hfd
        clear hfd
        generalize hqd : m.length / 8 = q at *
        have Hq := Lib.hid hqd
        clear hqd
        generalize hmd : m.length = L at *
        have HmL := Lib.hid hmd
        clear hmd
        go_upto_region 5 with (fail)
        go_cut [8] (fun s8 wx => wc = wx ∧ s8 = .int .i64 ((s : Nat) : Int))
        case first =>
          go_wp2_with fail
          all_goals go_meet
          all_goals exact ⟨rfl, int_eq (by have := Hs.out; omega)⟩
        case rest =>
          obtain ⟨rfl, rfl⟩ := hcut
          clear Hs
          have n0 := World.new_ne _ _ j0
          have n1 := World.new_ne _ _ j1
          have n2 := World.new_ne _ _ j2
          go_upto_region 6 with (fail)
          go_cut [9] (fun s9 wx => s9 = .int .i64 ((n >>> Bt.shf h c d s &&& (2 ^ s - 1) : Nat) : Int) ∧ Hid (AddMid w B g h v (Bt.base h m) L (.slice (some ⟨gv, 0, none⟩) (q + 1) cap2) wx))
          case first =>
            go_region_held3 (fun w' => w'.cell? ⟨g, 0, none⟩ = some (.bool h)) (go_keep)
              (first | (go_at_call 102; refine (shift_any h c d s _ (by omega) (by omega)).mono ?_; rintro e w' ⟨rfl, rfl⟩))
            have hM3 : Hid (AddMid w B g h v (Bt.base h m) L (.slice (some ⟨gv, 0, none⟩) (q + 1) cap2) (wc.alloc (.cells #[.bool h] 71)).drew) := Lib.hid
              ⟨HM2.out.1.mono (below_alloc wc _).drew, (HM2.out.2.1.alloc _).drew, HM2.out.2.2⟩
            clear HM2
            go_wp2_with fail
            go_meet
            exact ⟨int_eq (Bt.part_val n _ s hn32 (by have := shf_le h c d s (by omega); omega) (by omega)), hM3⟩
          case rest =>
            obtain ⟨rfl, HM3⟩ := hcut
            have hp := Bt.part_num h n c d s hs3
            generalize n >>> Bt.shf h c d s &&& (2 ^ s - 1) = p at *
            have hp2 : p < 2 ^ s := by
              rw [hp]
              have := Bt.num_lt h (((Bt.dg h n c).drop d).take s)
              rwa [show (((Bt.dg h n c).drop d).take s).length = s by simp [Bt.dg_length]; omega] at this
            have hp3 : p < 256 := Nat.lt_of_lt_of_le hp2 (by have := Bt.pow_le s 8 (by omega); omega)
            have Hp := Lib.hid hp
            have Hp2 := Lib.hid hp2
            clear hp hp2 n0 n1 n2 j0 j1 j2 HM2
            have j0 := HM3.out.1.c0
            have j1 := HM3.out.1.c1
            have j2 := HM3.out.1.c2
            have hown : wc.ownsRow B 5 1 (.slice (some ⟨gv, 0, none⟩) (q + 1) cap2) (q + 1) (bvs (Bt.base h m)) := by have := HM3.out.1.own; rwa [Hbl.out] at this
            have o1 : wc.cell? ⟨gv, q, none⟩ = some (.int .u8 (gb (Bt.base h m) q)) := by
              rw [hown.cellAt q (by omega), bvs_get _ _ (by rw [Hbl.out]; omega)]
            have o2 : wc.frozen? ⟨gv, q, none⟩ = false := own_frozen hown q
            have hne : g ≠ gv := fun e => HM3.out.1.ne (by simp [Value.ownBlock, e])
            have n0 := World.new_ne _ _ j0
            have n1 := World.new_ne _ _ j1
            have n2 := World.new_ne _ _ o1
            have hg256 := gb_lt (Bt.base h m) q
            have o3 : (wc.alloc (.cells #[.bool h] 71)).cell? ⟨gv, q, none⟩ = some (.int .u8 (gb (Bt.base h m) q)) := by
              rw [World.cell?_of_block (Below.heap_alloc wc _ _ (block_lt_of_cell o1))]; exact o1
            have o4 : (wc.alloc (.cells #[.bool h] 71)).frozen? ⟨gv, q, none⟩ = false := by
              rw [World.frozen?_of_block (Below.heap_alloc wc _ _ (block_lt_of_cell o1))]; exact o2
            have i0 : (wc.alloc (.cells #[.bool h] 71)).cell? ⟨g, 0, none⟩ = some (.bool h) := by
              rw [World.cell?_of_block (Below.heap_alloc wc _ _ (block_lt_of_cell j0))]; exact j0
            have i1 : (wc.alloc (.cells #[.bool h] 71)).cell? ⟨g, 1, none⟩ = some (.slice (some ⟨gv, 0, none⟩) (q + 1) cap2) := by
              rw [World.cell?_of_block (Below.heap_alloc wc _ _ (block_lt_of_cell j1))]; exact j1
            generalize hx : gb (Bt.base h m) q = x at *
            have Hx := Lib.hid hx
            clear hx
            have a1 : IntKind.i64.wrap (q : Int) = q := IntWalk.i64_in _ (by omega)
            have a2 : (0 : Int) ≤ q := by omega
            have a3 : (q : Int) < q + 1 := by omega
            clear hown
            have HV2 : Hid (bits .or .u8 (x : Int) (IntKind.u8.wrap (IntKind.i64.wrap ((p : Int) * 2 ^ min (Bt.shf h 8 f s) 64))) = ((x ||| p <<< Bt.shf h 8 f s : Nat) : Int) ∧
                Hid (AddMid w B g h v ((Bt.base h m).set q (UInt8.ofNat (x ||| p <<< Bt.shf h 8 f s))) L (.slice (some ⟨gv, 0, none⟩) (q + 1) cap2) ((wc.alloc (.cells #[.bool h] 71)).setCell ⟨gv, q, none⟩ (.int .u8 ((x ||| p <<< Bt.shf h 8 f s : Nat) : Int))).drew)) := Lib.hid (by
              obtain ⟨e1, e2⟩ := Bt.or_val x p s (Bt.shf h 8 f s) hg256 Hp2.out (by have := shf_le h 8 f s hs2; omega)
              refine ⟨e1, Lib.hid ⟨?_, ?_, HM3.out.2.2⟩⟩
              · exact ((HM3.out.1.mono (below_alloc wc _)).store q _ e2).mono (Below.refl _ _).drew
              · refine ((HM3.out.2.1.alloc _).set ?_ _).drew
                exact (HM3.out.2.2 gv rfl).elim (fun e => .inl (.inr e)) .inr)
            go_upto_region 7 with (fail)
            go_cut [] (fun wx => Hid (AddMid w B g h v ((Bt.base h m).set q (UInt8.ofNat (x ||| p <<< Bt.shf h 8 f s))) L (.slice (some ⟨gv, 0, none⟩) (q + 1) cap2) wx))
            case first =>
              refine wp_region_noPanic ?_
              refine region_J 24 (fun w' => w'.cell? ⟨g, 0, none⟩ = some (.bool h) ∧ w'.cell? ⟨g, 1, none⟩ = some (.slice (some ⟨gv, 0, none⟩) (q + 1) cap2) ∧ w'.cell? ⟨gv, q, none⟩ = some (.int .u8 (x : Nat))) (by kernel_rfl) ?_
              refine J_take (i := 0) (v := ?_) rfl (by kernel_rfl) (by kernel_rfl) (by kernel_rfl) (by kernel_rfl) (fun _ _ _ h => h) ⟨j0, j1, o1⟩ (by rfl) ?_ ?_
              rotate_left
              · (intro w' hw'; obtain ⟨c0, c1, c2⟩ := hw'; first | (go_simp; done) | (go_simp; with_reducible rfl))
              try simp only [Act.put, List.setIfInBounds_toArray, List.set_cons_zero, List.set_cons_succ]
              refine J_take (i := 1) (v := ?_) rfl (by kernel_rfl) (by kernel_rfl) (by kernel_rfl) (by kernel_rfl) (fun _ _ _ h => h) ⟨j0, j1, o1⟩ (by rfl) ?_ ?_
              rotate_left
              · (intro w' hw'; obtain ⟨c0, c1, c2⟩ := hw'; first | (go_simp; done) | (go_simp; with_reducible rfl))
              try simp only [Act.put, List.setIfInBounds_toArray, List.set_cons_zero, List.set_cons_succ]
              refine J_take (i := 2) (v := ?_) rfl (by kernel_rfl) (by kernel_rfl) (by kernel_rfl) (by kernel_rfl) (fun _ _ _ h => h) ⟨j0, j1, o1⟩ (by rfl) ?_ ?_
              rotate_left
              · (intro w' hw'; obtain ⟨c0, c1, c2⟩ := hw'; first | (go_simp; done) | (go_simp; with_reducible rfl))
              try simp only [Act.put, List.setIfInBounds_toArray, List.set_cons_zero, List.set_cons_succ]
              refine J_take (i := 3) (v := ?_) rfl (by kernel_rfl) (by kernel_rfl) (by kernel_rfl) (by kernel_rfl) (fun _ _ _ h => h) ⟨j0, j1, o1⟩ (by rfl) ?_ ?_
              rotate_left
              · (intro w' hw'; obtain ⟨c0, c1, c2⟩ := hw'; first | (go_simp; done) | (go_simp; with_reducible rfl))
              try simp only [Act.put, List.setIfInBounds_toArray, List.set_cons_zero, List.set_cons_succ]
              refine J_take (i := 4) (v := ?_) rfl (by kernel_rfl) (by kernel_rfl) (by kernel_rfl) (by kernel_rfl) (fun _ _ _ h => h) ⟨j0, j1, o1⟩ (by rfl) ?_ ?_
              rotate_left
              · (intro w' hw'; obtain ⟨c0, c1, c2⟩ := hw'; first | (go_simp; done) | (go_simp; with_reducible rfl))
              try simp only [Act.put, List.setIfInBounds_toArray, List.set_cons_zero, List.set_cons_succ]
              refine J_take (i := 5) (v := ?_) rfl (by kernel_rfl) (by kernel_rfl) (by kernel_rfl) (by kernel_rfl) (fun _ _ _ h => h) ⟨j0, j1, o1⟩ (by rfl) ?_ ?_
              rotate_left
              · (intro w' hw'; obtain ⟨c0, c1, c2⟩ := hw'; first | (go_simp; done) | (go_simp; with_reducible rfl))
              try simp only [Act.put, List.setIfInBounds_toArray, List.set_cons_zero, List.set_cons_succ]
              refine J_take (i := 6) (v := ?_) rfl (by kernel_rfl) (by kernel_rfl) (by kernel_rfl) (by kernel_rfl) (fun _ _ _ h => h) ⟨j0, j1, o1⟩ (by rfl) ?_ ?_
              rotate_left
              · (intro w' hw'; obtain ⟨c0, c1, c2⟩ := hw'; first | (go_simp; done) | (go_simp; with_reducible rfl))
              try simp only [Act.put, List.setIfInBounds_toArray, List.set_cons_zero, List.set_cons_succ]
              refine J_take (i := 7) (v := ?_) rfl (by kernel_rfl) (by kernel_rfl) (by kernel_rfl) (by kernel_rfl) (fun _ _ _ h => h) ⟨j0, j1, o1⟩ (by rfl) ?_ ?_
              rotate_left
              · (intro w' hw'; obtain ⟨c0, c1, c2⟩ := hw'; first | (go_simp; done) | (go_simp; with_reducible rfl))
              try simp only [Act.put, List.setIfInBounds_toArray, List.set_cons_zero, List.set_cons_succ]
              refine J_take (i := 8) (v := ?_) rfl (by kernel_rfl) (by kernel_rfl) (by kernel_rfl) (by kernel_rfl) (fun _ _ _ h => h) ⟨j0, j1, o1⟩ (by rfl) ?_ ?_
              rotate_left
              · (intro w' hw'; obtain ⟨c0, c1, c2⟩ := hw'; first | (go_simp; done) | (go_simp; with_reducible rfl))
              try simp only [Act.put, List.setIfInBounds_toArray, List.set_cons_zero, List.set_cons_succ]
              refine J_take (i := 9) (v := ?_) rfl (by kernel_rfl) (by kernel_rfl) (by kernel_rfl) (by kernel_rfl) (fun _ _ _ h => h) ⟨j0, j1, o1⟩ (by rfl) ?_ ?_
              rotate_left
              · (intro w' hw'; obtain ⟨c0, c1, c2⟩ := hw'; first | (go_simp; done) | (go_simp; with_reducible rfl))
              try simp only [Act.put, List.setIfInBounds_toArray, List.set_cons_zero, List.set_cons_succ]
              refine J_take (i := 12) (v := ?_) rfl (by kernel_rfl) (by kernel_rfl) (by kernel_rfl) (by kernel_rfl) (fun _ _ _ h => h) ⟨j0, j1, o1⟩ (by rfl) ?_ ?_
              rotate_left
              · (intro w' hw'; obtain ⟨c0, c1, c2⟩ := hw'; first | (go_simp; done) | (go_simp; with_reducible rfl))
              try simp only [Act.put, List.setIfInBounds_toArray, List.set_cons_zero, List.set_cons_succ]
              refine J_take (i := 13) (v := ?_) rfl (by kernel_rfl) (by kernel_rfl) (by kernel_rfl) (by kernel_rfl) (fun _ _ _ h => h) ⟨j0, j1, o1⟩ (by rfl) ?_ ?_
              rotate_left
              · (intro w' hw'; obtain ⟨c0, c1, c2⟩ := hw'; first | (go_simp; done) | (go_simp; with_reducible rfl))
              try simp only [Act.put, List.setIfInBounds_toArray, List.set_cons_zero, List.set_cons_succ]
              refine J_take (i := 14) (v := ?_) rfl (by kernel_rfl) (by kernel_rfl) (by kernel_rfl) (by kernel_rfl) (fun _ _ _ h => h) ⟨j0, j1, o1⟩ (by rfl) ?_ ?_
              rotate_left
              · (intro w' hw'; obtain ⟨c0, c1, c2⟩ := hw'; first | (go_simp; done) | (go_simp; with_reducible rfl))
              try simp only [Act.put, List.setIfInBounds_toArray, List.set_cons_zero, List.set_cons_succ]
              refine J_take (i := 15) (v := ?_) rfl (by kernel_rfl) (by kernel_rfl) (by kernel_rfl) (by kernel_rfl) (fun _ _ _ h => h) ⟨j0, j1, o1⟩ (by rfl) ?_ ?_
              rotate_left
              · (intro w' hw'; obtain ⟨c0, c1, c2⟩ := hw'; first | (go_simp; done) | (go_simp; with_reducible rfl))
              try simp only [Act.put, List.setIfInBounds_toArray, List.set_cons_zero, List.set_cons_succ]
              refine J_take (i := 16) (v := ?_) rfl (by kernel_rfl) (by kernel_rfl) (by kernel_rfl) (by kernel_rfl) (fun _ _ _ h => h) ⟨j0, j1, o1⟩ (by rfl) ?_ ?_
              rotate_left
              · (intro w' hw'; obtain ⟨c0, c1, c2⟩ := hw'; first | (go_simp; done) | (go_simp; with_reducible rfl))
              try simp only [Act.put, List.setIfInBounds_toArray, List.set_cons_zero, List.set_cons_succ]
              refine J_take (i := 17) (v := ?_) rfl (by kernel_rfl) (by kernel_rfl) (by kernel_rfl) (by kernel_rfl) (fun _ _ _ h => h) ⟨j0, j1, o1⟩ (by rfl) ?_ ?_
              rotate_left
              · (intro w' hw'; obtain ⟨c0, c1, c2⟩ := hw'; first | (go_simp; done) | (go_simp; with_reducible rfl))
              try simp only [Act.put, List.setIfInBounds_toArray, List.set_cons_zero, List.set_cons_succ]
              refine J_take (i := 18) (v := ?_) rfl (by kernel_rfl) (by kernel_rfl) (by kernel_rfl) (by kernel_rfl) (fun _ _ _ h => h) ⟨j0, j1, o1⟩ (by rfl) ?_ ?_
              rotate_left
              · (intro w' hw'; obtain ⟨c0, c1, c2⟩ := hw'; first | (go_simp; done) | (go_simp; with_reducible rfl))
              try simp only [Act.put, List.setIfInBounds_toArray, List.set_cons_zero, List.set_cons_succ]
              refine J_take (i := 10) (v := ?_) rfl (by kernel_rfl) (by kernel_rfl) (by kernel_rfl) (by kernel_rfl) (fun _ _ _ h => h) ⟨j0, j1, o1⟩ (by rfl) ?_ ?_
              rotate_left
              · (intro w' hw'; obtain ⟨c0, c1, c2⟩ := hw'; first | (go_simp; done) | (go_simp; with_reducible rfl))
              try simp only [Act.put, List.setIfInBounds_toArray, List.set_cons_zero, List.set_cons_succ]
              refine J_take (i := 11) (v := ?_) rfl (by kernel_rfl) (by kernel_rfl) (by kernel_rfl) (by kernel_rfl) (fun _ _ _ h => h) ⟨j0, j1, o1⟩ (by rfl) ?_ ?_
              rotate_left
              · (intro w' hw'; obtain ⟨c0, c1, c2⟩ := hw'; first | (go_simp; done) | (go_simp; with_reducible rfl))
              try simp only [Act.put, List.setIfInBounds_toArray, List.set_cons_zero, List.set_cons_succ]
              refine J_step (i := 19) (by kernel_rfl) rfl (fun K hK => ?_)
              go_simp
              go_at_call 102
              refine (shift_any h 8 f s _ (by omega) (by omega)).mono ?_
              rintro e w' ⟨rfl, rfl⟩
              go_simp
              refine hK.out _ _ (fun _ => ⟨i0, i1, o3⟩) (fun _ => ?_)
              clear hK K
              try simp only [Act.put, List.setIfInBounds_toArray, List.set_cons_zero, List.set_cons_succ]
              refine J_take (i := 20) (v := ?_) rfl (by kernel_rfl) (by kernel_rfl) (by kernel_rfl) (by kernel_rfl) (fun _ _ _ h => h) ⟨i0, i1, o3⟩ (by rfl) ?_ ?_
              rotate_left
              · (intro w' hw'; obtain ⟨c0, c1, c2⟩ := hw'; first | (go_simp; done) | (go_simp; with_reducible rfl))
              try simp only [Act.put, List.setIfInBounds_toArray, List.set_cons_zero, List.set_cons_succ]
              refine J_take (i := 21) (v := ?_) rfl (by kernel_rfl) (by kernel_rfl) (by kernel_rfl) (by kernel_rfl) (fun _ _ _ h => h) ⟨i0, i1, o3⟩ (by rfl) ?_ ?_
              rotate_left
              · (intro w' hw'; obtain ⟨c0, c1, c2⟩ := hw'; first | (go_simp; done) | (go_simp; with_reducible rfl))
              try simp only [Act.put, List.setIfInBounds_toArray, List.set_cons_zero, List.set_cons_succ]
              refine J_take (i := 22) (v := ?_) rfl (by kernel_rfl) (by kernel_rfl) (by kernel_rfl) (by kernel_rfl) (fun _ _ _ h => h) ⟨i0, i1, o3⟩ (by rfl) ?_ ?_
              rotate_left
              · (intro w' hw'; obtain ⟨c0, c1, c2⟩ := hw'; first | (go_simp; done) | (go_simp; with_reducible rfl))
              try simp only [Act.put, List.setIfInBounds_toArray, List.set_cons_zero, List.set_cons_succ]
              refine J_take (i := 23) (v := ?_) rfl (by kernel_rfl) (by kernel_rfl) (by kernel_rfl) (by kernel_rfl) (fun _ _ _ h => h) ⟨i0, i1, o3⟩ (by rfl) ?_ ?_
              rotate_left
              · (intro w' hw'; obtain ⟨c0, c1, c2⟩ := hw'; first | (go_simp; done) | (go_simp; with_reducible rfl))
              try simp only [Act.put, List.setIfInBounds_toArray, List.set_cons_zero, List.set_cons_succ]
              refine J_step (i := 24) (by kernel_rfl) rfl (fun K hK => ?_)
              go_simp
              refine hK.out _ _ (fun h => absurd rfl h) (fun _ => ?_)
              clear hK K
              try simp only [Act.put, List.setIfInBounds_toArray, List.set_cons_zero, List.set_cons_succ]
              refine J_done (by kernel_rfl) ?_ _
              refine NoPanic.normal ?_
              go_wp2_with fail
              go_meet
              exact HV2.out.1 ▸ HV2.out.2
            case rest =>
              have HM4 := Lib.hid hcut.out
              clear hcut HM3 j0 j1 j2 o1 o2 o3 o4 i0 i1 n0 n1 n2
              have j2 := HM4.out.1.c2
              have f2 := HM4.out.1.fr 2
              have HM5 := Lib.hid (show AddMid w B g h v ((Bt.base h m).set q (UInt8.ofNat (x ||| p <<< Bt.shf h 8 f s))) (L + s) (.slice (some ⟨gv, 0, none⟩) (q + 1) cap2) (wc.setCell ⟨g, 2, none⟩ (.int .i64 ((L + s : Nat) : Int))) from
                ⟨HM4.out.1.put2 (L + s), HM4.out.2.1.set (.inl (.inl rfl)) _, HM4.out.2.2⟩)
              rw [show Value.int .i64 ((L + s : Nat) : Int) = .int .i64 ((L : Int) + s) from int_eq (by omega)] at HM5
              clear HM4
              go_wp2
              go_roundg (c - (d + s))
              case measure => omega
              case rel =>
                refine ⟨d + s, hs3, rfl, by go_num, .slice (some ⟨gv, 0, none⟩) (q + 1) cap2, ?_⟩
                have hstep := Bt.packs_step h m (((Bt.dg h n c).drop d).take s) s (by simp [Bt.dg_length]; omega) hs1 (by rw [HmL.out, Hf.out]; exact hs2)
                rw [HmL.out, Hf.out, Hq.out, Hx.out, ← Hp.out] at hstep
                have e1 : l ++ (Bt.dg h n c).take (d + s) = m ++ ((Bt.dg h n c).drop d).take s := by rw [Bt.take_add, ← Hm.out, List.append_assoc]
                have e2 : (m ++ ((Bt.dg h n c).drop d).take s).length = L + s := by rw [List.length_append, HmL.out]; simp [Bt.dg_length]; omega
                rw [e1, hstep, e2]
                exact HM5
    · obtain rfl : d = c := by omega
      have e : (Bt.dg h n d).take d = Bt.dg h n d := List.take_of_length_le (by rw [Bt.dg_length]; exact Nat.le_refl _)
      rw [e] at HM
      clear hL e
      go_wp2
      go_end0
      exact ⟨rfl, v', HM.out.1.wr, HM.out.2⟩
end Go.Proofs.YtjjbgdmalefdlaaGreatDoor
end

section
namespace Go.Proofs.YtjjbgdmalefdlaaGreatDoor
open Go.RowKit

theorem put_no (w : World) (g : Nat) (n c : Int) (h : c < 0 ∨ 32 < c ∨ n < 0) :
    Calls Tryz.prog 82 #[.pointer (some ⟨g, 0, none⟩), .int .i64 n, .int .i64 c] w fun e w' => e = .returned (.iface 51 (.int .i64 7)) ∧ w = w' := by
  by_cases hc : c < 0 ∨ 32 < c
  · have HC := Lib.hid hc
    clear h hc
    go_enter Tryz.func82, Tryz.ntmps82
    go_wp2_with fail
    refine (isCount_no _ _ HC.out).mono ?_
    rintro e w' ⟨rfl, rfl⟩
    go_wp2
    go_ret
    exact ⟨rfl, rfl⟩
  · obtain ⟨k, rfl⟩ := Int.eq_ofNat_of_zero_le (show 0 ≤ c by omega)
    have hk : k ≤ 32 := by omega
    have d1 : decide (n < 0) = true := by simp; omega
    clear h hc
    go_enter Tryz.func82, Tryz.ntmps82
    go_wp2_with fail
    refine (isCount_yes k _ hk).mono ?_
    rintro e w' ⟨rfl, rfl⟩
    go_wp2
    go_ret
    exact ⟨rfl, rfl⟩
theorem wrap_pow (c : Nat) (h : c ≤ 32) : wrap64 (2 ^ c) = ((2 ^ c : Nat) : Int) := by
  have h1 := Bt.pow_le c 32 h
  rw [Bt.pow_cast]
  simp only [Nat.reducePow] at h1
  generalize 2 ^ c = x at *
  exact IntWalk.wrap64_in _ ⟨by omega, by omega⟩
theorem put_big (w : World) (g : Nat) (n c : Nat) (hc : c ≤ 32) (hn : 2 ^ c ≤ n) :
    Calls Tryz.prog 82 #[.pointer (some ⟨g, 0, none⟩), .int .i64 n, .int .i64 c] w fun e w' => e = .returned (.iface 51 (.int .i64 7)) ∧ w = w' := by
  have d1 : decide ((n : Int) < 0) = false := by simp
  have d2 : decide (wrap64 (2 ^ c) ≤ (n : Int)) = true := by rw [wrap_pow c hc]; exact decide_eq_true (Int.ofNat_le.2 hn)
  clear hn
  go_enter Tryz.func82, Tryz.ntmps82
  go_wp2_with fail
  refine (isCount_yes c _ hc).mono ?_
  rintro e w' ⟨rfl, rfl⟩
  go_wp2
  go_ret
  exact ⟨rfl, rfl⟩
def PutWPost (w : World) (B g : Nat) (h : Bool) (v : Value) (l : List Bool) (e : Ending) (w' : World) : Prop :=
  e = .returned .nilIface ∧ ∃ v', Wr w' B g h v' l ∧ Ch w w' (Wt g v) ∧ ∀ k, v'.ownBlock = some k → v.ownBlock = some k ∨ w.heap.size ≤ k
theorem putw_ok (w : World) (B g : Nat) (h : Bool) (v : Value) (l : List Bool) (n c : Nat) (H : Wr w B g h v l) (hB : B ≤ w.heap.size) (hc : c ≤ 32) (hn : n < 2 ^ c) (hl : l.length ≤ 1000000000000) :
    Calls Tryz.prog 82 #[.pointer (some ⟨g, 0, none⟩), .int .i64 n, .int .i64 c] w (PutWPost w B g h v (l ++ Bt.dg h n c)) := by
  have d1 : decide ((n : Int) < 0) = false := by simp
  have d2 : decide (wrap64 (2 ^ c) ≤ (n : Int)) = false := by rw [wrap_pow c hc]; exact decide_eq_false (fun h => by have := Int.ofNat_le.1 h; omega)
  have HN := Lib.hid hn
  clear hn
  go_enter Tryz.func82, Tryz.ntmps82
  go_wp2_with fail
  refine (isCount_yes c _ hc).mono ?_
  rintro e w' ⟨rfl, rfl⟩
  go_wp2_with fail
  refine (add_any _ B g h v l n c H hB hc HN.out hl).mono ?_
  rintro e w' ⟨rfl, v', h1, h2, h3⟩
  have HX := Lib.hid (show PutWPost w B g h v (l ++ Bt.dg h n c) (.returned .nilIface) w' from ⟨rfl, v', h1, h2, h3⟩)
  clear h1 h2 h3
  go_wp2
  go_ret
  exact HX.out
end Go.Proofs.YtjjbgdmalefdlaaGreatDoor
end

section
namespace Go.Proofs.YtjjbgdmalefdlaaGreatDoor
open Go.RowKit

def BytesWPost (w : World) (h : Bool) (l : List Bool) (e : Ending) (w' : World) : Prop :=
  ∃ v, e = .returned v ∧ w'.ownsRow w.heap.size 5 1 v ((l.length + 7) / 8) (bvs (Bt.packs h h l)) ∧ Below w.heap.size w w'
theorem Bt.fill_val (x m : Nat) (h : Bool) (hx : x < 256) (hm : m ≤ 7) :
    bits .or .u8 (x : Int) (IntKind.u8.wrap ((if h then 2 ^ m - 1 else 0 : Nat) : Int)) = ((x ||| (if h then 2 ^ m - 1 else 0) : Nat) : Int) ∧ x ||| (if h then 2 ^ m - 1 else 0) < 256 := by
  have h1 : (if h then 2 ^ m - 1 else 0) < 256 := by
    have := Bt.pow_le m 7 hm
    simp only [Nat.reducePow] at this
    split <;> omega
  generalize (if h then 2 ^ m - 1 else 0) = y at *
  rw [IntWalk.u8_in _ ⟨by omega, by omega⟩]
  exact ⟨u8_or_nat x y hx h1, Nat.or_lt_two_pow (n := 8) hx h1⟩
set_option maxHeartbeats 2000000 in
set_option maxRecDepth 100000 in
theorem bytes_any (w : World) (B g : Nat) (h : Bool) (v : Value) (l : List Bool) (H : Wr w B g h v l) (hl : l.length ≤ 1000000000000) :
    Calls Tryz.prog 17 #[.pointer (some ⟨g, 0, none⟩)] w (BytesWPost w h l) := by
  have k1 := H.c1
  have k2 := H.c2
  by_cases h0 : l.length = 0
  · have hnil : l = [] := List.eq_nil_of_length_eq_zero h0
    subst hnil
    clear H k1
    have k2' : w.cell? ⟨g, 2, none⟩ = some (.int .i64 0) := k2
    clear k2 h0
    go_enter Tryz.func17, Tryz.ntmps17
    go_wp2
    go_ret
    exact ⟨_, rfl, World.ownsRow_nil _ _ _ _, Below.refl _ _⟩
  · have H0 := Lib.hid H
    clear H
    obtain ⟨va, vc, rfl, hbs⟩ := own_bs H0.out.own (by omega)
    have HB := Lib.hid hbs
    clear hbs
    have hz : ((l.length : Int) == 0) = false := by simpa using h0
    go_enter Tryz.func17, Tryz.ntmps17
    go_wp2_with fail
    refine (clone_any _ _ _ _ _ HB.out (by omega)).mono ?_
    rintro e w1 ⟨v1, rfl, own1, hb1⟩
    obtain ⟨q, hq⟩ : ∃ q, (l.length + 7) / 8 = q + 1 := ⟨(l.length + 7) / 8 - 1, by omega⟩
    rw [hq] at own1
    rcases own_nil_or own1 with ⟨_, hx⟩ | ⟨gv, cap2, rfl, hle, hbg, hgl, _⟩
    · omega
    have H1 := H0.out.mono hb1
    have j0 := H1.c0
    have j2 := H1.c2
    have hgw := H0.out.lt
    have hne : g ≠ gv := by omega
    have hlen := Bt.packs_length h false l
    rw [hq] at hlen
    have o1 : w1.cell? ⟨gv, q, none⟩ = some (.int .u8 (gb (Bt.packs h false l) q)) := by
      rw [own1.cellAt q (by omega), bvs_get _ _ (by rw [hlen]; omega)]
    have o2 : w1.frozen? ⟨gv, q, none⟩ = false := own_frozen own1 q
    have n0 := World.new_ne _ _ j0
    have n2 := World.new_ne _ _ j2
    have n1 := World.new_ne _ _ o1
    have o3 : (w1.alloc (.cells #[.bool h] 71)).cell? ⟨gv, q, none⟩ = some (.int .u8 (gb (Bt.packs h false l) q)) := by
      rw [World.cell?_of_block (Below.heap_alloc w1 _ _ (block_lt_of_cell o1))]; exact o1
    have o4 : (w1.alloc (.cells #[.bool h] 71)).frozen? ⟨gv, q, none⟩ = false := by
      rw [World.frozen?_of_block (Below.heap_alloc w1 _ _ (block_lt_of_cell o1))]; exact o2
    have i0 : (w1.alloc (.cells #[.bool h] 71)).cell? ⟨g, 0, none⟩ = some (.bool h) := by
      rw [World.cell?_of_block (Below.heap_alloc w1 _ _ (block_lt_of_cell j0))]; exact j0
    have i2 : (w1.alloc (.cells #[.bool h] 71)).cell? ⟨g, 2, none⟩ = some (.int .i64 (l.length : Nat)) := by
      rw [World.cell?_of_block (Below.heap_alloc w1 _ _ (block_lt_of_cell j2))]; exact j2
    have hfin := Bt.packs_fill h l (by omega)
    rw [hlen, Nat.add_sub_cancel] at hfin
    have hg256 := gb_lt (Bt.packs h false l) q
    obtain ⟨m, hm⟩ : ∃ m, (8 - l.length % 8) % 8 = m := ⟨_, rfl⟩
    have hm8 : m ≤ 7 := by omega
    rw [hm] at hfin
    obtain ⟨e1, e2⟩ := Bt.fill_val (gb (Bt.packs h false l) q) m h hg256 hm8
    have HFIN : Hid (bits .or .u8 (gb (Bt.packs h false l) q : Int) (IntKind.u8.wrap ((if h then 2 ^ m - 1 else 0 : Nat) : Int)) = ((gb (Bt.packs h false l) q ||| (if h then 2 ^ m - 1 else 0) : Nat) : Int) ∧
        BytesWPost w h l (.returned (.slice (some ⟨gv, 0, none⟩) (q + 1) cap2)) ((w1.setCell ⟨gv, q, none⟩ (.int .u8 ((gb (Bt.packs h false l) q ||| (if h then 2 ^ m - 1 else 0) : Nat) : Int))).alloc (.cells #[.bool h] 71)).drew) := Lib.hid (by
      refine ⟨e1, _, rfl, ?_, (((hb1.setCell hbg _).alloc (by simp; exact hb1.size) _)).drew⟩
      have hs := own1.stored q (.int .u8 ((gb (Bt.packs h false l) q ||| (if h then 2 ^ m - 1 else 0) : Nat) : Int))
      have e3 : (bvs (Bt.packs h false l)).set q (.int .u8 ((gb (Bt.packs h false l) q ||| (if h then 2 ^ m - 1 else 0) : Nat) : Int)) = bvs (Bt.packs h h l) := by
        rw [hfin, ← bvs_set, Nat.mod_eq_of_lt e2]
      rw [hq, ← e3]
      exact own_below (hs.1.alloc _) (Below.refl _ _).drew)
    have HM := Lib.hid hm
    clear hfin e1 e2 hm own1 hb1 H1 hlen hz k1 k2
    have HQ := Lib.hid hq
    clear hq
    obtain ⟨t, ht⟩ : ∃ t, (if h then 2 ^ m - 1 else 0) = t := ⟨_, rfl⟩
    rw [ht] at HFIN
    have HT := Lib.hid ht
    clear ht
    generalize gb (Bt.packs h false l) q = x at *
    have a1 : IntKind.i64.wrap (q : Int) = q := IntWalk.i64_in _ (by omega)
    have a2 : (0 : Int) ≤ q := by omega
    have a3 : (q : Int) < q + 1 := by omega
    go_upto_region 4 with (fail)
    refine wp_region_noPanic ?_
    refine region_J 19 (fun w' => w'.cell? ⟨g, 0, none⟩ = some (.bool h) ∧ w'.cell? ⟨g, 2, none⟩ = some (.int .i64 (l.length : Nat)) ∧ w'.cell? ⟨gv, q, none⟩ = some (.int .u8 (x : Nat))) (by kernel_rfl) ?_
    refine J_take (i := 0) (v := ?_) rfl (by kernel_rfl) (by kernel_rfl) (by kernel_rfl) (by kernel_rfl) (fun _ _ _ h => h) ⟨j0, j2, o1⟩ (by rfl) ?_ ?_
    rotate_left
    · (intro w' hw'; obtain ⟨c0, c1, c2⟩ := hw'; first | (go_simp; done) | (go_simp; with_reducible rfl))
    try simp only [Act.put, List.setIfInBounds_toArray, List.set_cons_zero, List.set_cons_succ]
    refine J_take (i := 1) (v := ?_) rfl (by kernel_rfl) (by kernel_rfl) (by kernel_rfl) (by kernel_rfl) (fun _ _ _ h => h) ⟨j0, j2, o1⟩ (by rfl) ?_ ?_
    rotate_left
    · (intro w' hw'; obtain ⟨c0, c1, c2⟩ := hw'; first | (go_simp; done) | (go_simp; with_reducible rfl))
    try simp only [Act.put, List.setIfInBounds_toArray, List.set_cons_zero, List.set_cons_succ]
    refine J_take (i := 2) (v := ?_) rfl (by kernel_rfl) (by kernel_rfl) (by kernel_rfl) (by kernel_rfl) (fun _ _ _ h => h) ⟨j0, j2, o1⟩ (by rfl) ?_ ?_
    rotate_left
    · (intro w' hw'; obtain ⟨c0, c1, c2⟩ := hw'; first | (go_simp; done) | (go_simp; with_reducible rfl))
    try simp only [Act.put, List.setIfInBounds_toArray, List.set_cons_zero, List.set_cons_succ]
    refine J_take (i := 3) (v := ?_) rfl (by kernel_rfl) (by kernel_rfl) (by kernel_rfl) (by kernel_rfl) (fun _ _ _ h => h) ⟨j0, j2, o1⟩ (by rfl) ?_ ?_
    rotate_left
    · (intro w' hw'; obtain ⟨c0, c1, c2⟩ := hw'; first | (go_simp; done) | (go_simp; with_reducible rfl))
    try simp only [Act.put, List.setIfInBounds_toArray, List.set_cons_zero, List.set_cons_succ]
    refine J_take (i := 4) (v := ?_) rfl (by kernel_rfl) (by kernel_rfl) (by kernel_rfl) (by kernel_rfl) (fun _ _ _ h => h) ⟨j0, j2, o1⟩ (by rfl) ?_ ?_
    rotate_left
    · (intro w' hw'; obtain ⟨c0, c1, c2⟩ := hw'; first | (go_simp; done) | (go_simp; with_reducible rfl))
    try simp only [Act.put, List.setIfInBounds_toArray, List.set_cons_zero, List.set_cons_succ]
    refine J_take (i := 5) (v := ?_) rfl (by kernel_rfl) (by kernel_rfl) (by kernel_rfl) (by kernel_rfl) (fun _ _ _ h => h) ⟨j0, j2, o1⟩ (by rfl) ?_ ?_
    rotate_left
    · (intro w' hw'; obtain ⟨c0, c1, c2⟩ := hw'; first | (go_simp; done) | (go_simp; with_reducible rfl))
    try simp only [Act.put, List.setIfInBounds_toArray, List.set_cons_zero, List.set_cons_succ]
    refine J_take (i := 6) (v := ?_) rfl (by kernel_rfl) (by kernel_rfl) (by kernel_rfl) (by kernel_rfl) (fun _ _ _ h => h) ⟨j0, j2, o1⟩ (by rfl) ?_ ?_
    rotate_left
    · (intro w' hw'; obtain ⟨c0, c1, c2⟩ := hw'; first | (go_simp; done) | (go_simp; with_reducible rfl))
    try simp only [Act.put, List.setIfInBounds_toArray, List.set_cons_zero, List.set_cons_succ]
    refine J_take (i := 7) (v := ?_) rfl (by kernel_rfl) (by kernel_rfl) (by kernel_rfl) (by kernel_rfl) (fun _ _ _ h => h) ⟨j0, j2, o1⟩ (by rfl) ?_ ?_
    rotate_left
    · (intro w' hw'; obtain ⟨c0, c1, c2⟩ := hw'; first | (go_simp; done) | (go_simp; with_reducible rfl))
    try simp only [Act.put, List.setIfInBounds_toArray, List.set_cons_zero, List.set_cons_succ]
    refine J_take (i := 8) (v := ?_) rfl (by kernel_rfl) (by kernel_rfl) (by kernel_rfl) (by kernel_rfl) (fun _ _ _ h => h) ⟨j0, j2, o1⟩ (by rfl) ?_ ?_
    rotate_left
    · (intro w' hw'; obtain ⟨c0, c1, c2⟩ := hw'; first | (go_simp; done) | (go_simp; with_reducible rfl))
    try simp only [Act.put, List.setIfInBounds_toArray, List.set_cons_zero, List.set_cons_succ]
    refine J_take (i := 9) (v := ?_) rfl (by kernel_rfl) (by kernel_rfl) (by kernel_rfl) (by kernel_rfl) (fun _ _ _ h => h) ⟨j0, j2, o1⟩ (by rfl) ?_ ?_
    rotate_left
    · (intro w' hw'; obtain ⟨c0, c1, c2⟩ := hw'; first | (go_simp; done) | (go_simp; with_reducible rfl))
    try simp only [Act.put, List.setIfInBounds_toArray, List.set_cons_zero, List.set_cons_succ]
    refine J_take (i := 10) (v := ?_) rfl (by kernel_rfl) (by kernel_rfl) (by kernel_rfl) (by kernel_rfl) (fun _ _ _ h => h) ⟨j0, j2, o1⟩ (by rfl) ?_ ?_
    rotate_left
    · (intro w' hw'; obtain ⟨c0, c1, c2⟩ := hw'; first | (go_simp; done) | (go_simp; with_reducible rfl))
    try simp only [Act.put, List.setIfInBounds_toArray, List.set_cons_zero, List.set_cons_succ]
    refine J_take (i := 11) (v := ?_) rfl (by kernel_rfl) (by kernel_rfl) (by kernel_rfl) (by kernel_rfl) (fun _ _ _ h => h) ⟨j0, j2, o1⟩ (by rfl) ?_ ?_
    rotate_left
    · (intro w' hw'; obtain ⟨c0, c1, c2⟩ := hw'; first | (go_simp; done) | (go_simp; with_reducible rfl))
    try simp only [Act.put, List.setIfInBounds_toArray, List.set_cons_zero, List.set_cons_succ]
    refine J_take (i := 12) (v := ?_) rfl (by kernel_rfl) (by kernel_rfl) (by kernel_rfl) (by kernel_rfl) (fun _ _ _ h => h) ⟨j0, j2, o1⟩ (by rfl) ?_ ?_
    rotate_left
    · (intro w' hw'; obtain ⟨c0, c1, c2⟩ := hw'; first | (go_simp; done) | (go_simp; with_reducible rfl))
    try simp only [Act.put, List.setIfInBounds_toArray, List.set_cons_zero, List.set_cons_succ]
    refine J_take (i := 13) (v := ?_) rfl (by kernel_rfl) (by kernel_rfl) (by kernel_rfl) (by kernel_rfl) (fun _ _ _ h => h) ⟨j0, j2, o1⟩ (by rfl) ?_ ?_
    rotate_left
    · (intro w' hw'; obtain ⟨c0, c1, c2⟩ := hw'; first | (go_simp; done) | (go_simp; with_reducible rfl))
    try simp only [Act.put, List.setIfInBounds_toArray, List.set_cons_zero, List.set_cons_succ]
    refine J_step (i := 14) (by kernel_rfl) rfl (fun K hK => ?_)
    go_simp
    go_at_call 41
    refine (missing_any l.length _ hl).mono ?_
    rintro e w' ⟨rfl, rfl⟩
    rw [HM.out]
    go_simp
    refine hK.out _ _ (fun _ => ⟨j0, j2, o1⟩) (fun _ => ?_)
    clear hK K
    try simp only [Act.put, List.setIfInBounds_toArray, List.set_cons_zero, List.set_cons_succ]
    refine J_step (i := 15) (by kernel_rfl) rfl (fun K hK => ?_)
    go_simp
    go_at_call 40
    refine (fill_any h m _ hm8).mono ?_
    rintro e w' ⟨rfl, rfl⟩
    rw [HT.out]
    go_simp
    refine hK.out _ _ (fun _ => ⟨i0, i2, o3⟩) (fun _ => ?_)
    clear hK K
    try simp only [Act.put, List.setIfInBounds_toArray, List.set_cons_zero, List.set_cons_succ]
    refine J_take (i := 16) (v := ?_) rfl (by kernel_rfl) (by kernel_rfl) (by kernel_rfl) (by kernel_rfl) (fun _ _ _ h => h) ⟨i0, i2, o3⟩ (by rfl) ?_ ?_
    rotate_left
    · (intro w' hw'; obtain ⟨c0, c1, c2⟩ := hw'; first | (go_simp; done) | (go_simp; with_reducible rfl))
    try simp only [Act.put, List.setIfInBounds_toArray, List.set_cons_zero, List.set_cons_succ]
    refine J_take (i := 17) (v := ?_) rfl (by kernel_rfl) (by kernel_rfl) (by kernel_rfl) (by kernel_rfl) (fun _ _ _ h => h) ⟨i0, i2, o3⟩ (by rfl) ?_ ?_
    rotate_left
    · (intro w' hw'; obtain ⟨c0, c1, c2⟩ := hw'; first | (go_simp; done) | (go_simp; with_reducible rfl))
    try simp only [Act.put, List.setIfInBounds_toArray, List.set_cons_zero, List.set_cons_succ]
    refine J_take (i := 18) (v := ?_) rfl (by kernel_rfl) (by kernel_rfl) (by kernel_rfl) (by kernel_rfl) (fun _ _ _ h => h) ⟨i0, i2, o3⟩ (by rfl) ?_ ?_
    rotate_left
    · (intro w' hw'; obtain ⟨c0, c1, c2⟩ := hw'; first | (go_simp; done) | (go_simp; with_reducible rfl))
    try simp only [Act.put, List.setIfInBounds_toArray, List.set_cons_zero, List.set_cons_succ]
    refine J_step (i := 19) (by kernel_rfl) rfl (fun K hK => ?_)
    go_simp
    refine hK.out _ _ (fun h => absurd rfl h) (fun _ => ?_)
    clear hK K
    try simp only [Act.put, List.setIfInBounds_toArray, List.set_cons_zero, List.set_cons_succ]
    refine J_done (by kernel_rfl) ?_ _
    refine NoPanic.normal ?_
    go_wp2
    go_ret
    exact HFIN.out.1 ▸ HFIN.out.2
end Go.Proofs.YtjjbgdmalefdlaaGreatDoor
end
