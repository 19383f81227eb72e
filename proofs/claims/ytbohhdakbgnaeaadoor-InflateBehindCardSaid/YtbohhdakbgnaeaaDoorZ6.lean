/- (*Reader).Take, Align: their contracts. Small words on slices of numbers. What make lays. A slice of numbers behind changes elsewhere. (*reader).numbers: its contract. What a round keeps. Canonical codes as lists of bits. The document's codes as numbers: where each begins among 65536. -/
import Derived.Test.YtbohhdakbgnaeaaDoorZ5
import Derived.Deep.LoopGhost
import Derived.Deep.DeepCutAuto
import Derived.RangeFuncBox
set_option linter.unusedSimpArgs false
set_option linter.unusedVariables false
section
namespace Go.Proofs.YtbohhdakbgnaeaaDoor
open Go.RowKit

theorem take_range (w : World) (g : Nat) (c : Int) (h : c < 0 ∨ 32 < c) :
    Calls Tryd.prog 65 #[.pointer (some ⟨g, 0, none⟩), .int .i64 c] w fun e w' => e = .returned (.tuple #[.int .i64 0, .iface 35 (.int .i64 7)]) ∧ w = w' := by
  have HC := Lib.hid h
  clear h
  go_enter Tryd.func65, Tryd.ntmps65
  go_wp2_with fail
  refine (isCount_no _ _ HC.out).mono ?_
  rintro e w' ⟨rfl, rfl⟩
  go_wp2
  go_ret2
  exact ⟨rfl, rfl⟩
theorem take_short (w : World) (B g : Nat) (h : Bool) (v : Value) (l : List UInt8) (p c : Nat) (H : Rd w B g h v l p) (hp : p ≤ 8 * l.length) (hl : l.length ≤ 1000000000000) (hc : c ≤ 32) (hs : 8 * l.length - p < c) :
    Calls Tryd.prog 65 #[.pointer (some ⟨g, 0, none⟩), .int .i64 c] w fun e w' => e = .returned (.tuple #[.int .i64 0, .iface 35 (.int .i64 8)]) ∧ Below w.heap.size w w' := by
  have HH := Lib.hid H
  obtain ⟨r, hr⟩ : ∃ r, 8 * l.length - p = r := ⟨_, rfl⟩
  have HR := Lib.hid hr
  have d1 : decide (r < c) = true := by simp; omega
  clear hr H hs
  go_enter Tryd.func65, Tryd.ntmps65
  go_wp2_with fail
  refine (isCount_yes c _ hc).mono ?_
  rintro e w' ⟨rfl, rfl⟩
  go_wp2_with fail
  refine (left_any _ B g h v l p HH.out hp hl).mono ?_
  rintro e w' ⟨rfl, n, rfl⟩
  rw [HR.out]
  go_wp2
  go_ret2
  exact ⟨rfl, ⟨rfl, rfl, rfl, Nat.le_refl _, fun _ _ => rfl⟩⟩
def TakeRPost (w : World) (B g : Nat) (h : Bool) (v : Value) (l : List UInt8) (p c : Nat) (e : Ending) (w' : World) : Prop :=
  e = .returned (.tuple #[.int .i64 (Bt.num h (((Bt.rbits h l).drop p).take c) : Nat), .nilIface]) ∧ Rd w' B g h v l (p + c) ∧ Ch w w' (fun k => k = g)
/-- In the midst of a number that is read. -/
def RdMid (w : World) (B g : Nat) (h : Bool) (v : Value) (l : List UInt8) (p : Nat) (wx : World) : Prop := Rd wx B g h v l p ∧ Ch w wx (fun k => k = g)
theorem rd_shf_le (h : Bool) (size fro some : Nat) (hs : fro + some ≤ size) : Bt.shf h size fro some + some ≤ size := by
  cases h <;> simp [Bt.shf] <;> omega
theorem Bt.part8_val (x sh s : Nat) (hx : x < 256) (hsh : sh ≤ 64) (hs : s ≤ 32) :
    bits .and .i64 ((x : Int) / 2 ^ min sh 64) (IntKind.i64.wrap (IntKind.i64.wrap (2 ^ s) - 1)) = ((x >>> sh &&& (2 ^ s - 1) : Nat) : Int) := Bt.part_val x sh s (by omega) hsh hs
theorem Bt.acc_val (n p s sh c : Nat) (hn : n < 2 ^ c) (hp : p < 2 ^ s) (hs : sh + s ≤ c) (hc : c ≤ 32) :
    bits .or .i64 (n : Int) (IntKind.i64.wrap ((p : Int) * 2 ^ min sh 64)) = ((n ||| p <<< sh : Nat) : Int) ∧ n ||| p <<< sh < 2 ^ c := by
  have h1 := Bt.shl_lt p s sh c hp hs
  have h2 := Bt.pow_le c 32 hc
  have h3 := Nat.or_lt_two_pow hn h1
  rw [show min sh 64 = sh by omega, Bt.pow_cast, show (p : Int) * ((2 ^ sh : Nat) : Int) = ((p <<< sh : Nat) : Int) by rw [Nat.shiftLeft_eq]; simp]
  generalize p <<< sh = y at *
  generalize 2 ^ c = z at *
  simp only [Nat.reducePow] at h2
  rw [IntWalk.i64_in _ ⟨by omega, by omega⟩]
  exact ⟨i64_or_nat n y (by omega) (by omega), h3⟩

set_option maxHeartbeats 4000000 in
set_option maxRecDepth 100000 in
theorem takeR_ok (w : World) (B g : Nat) (h : Bool) (v : Value) (l : List UInt8) (p c : Nat) (H : Rd w B g h v l p) (hB : B ≤ w.heap.size) (hl : l.length ≤ 1000000000000) (hc : c ≤ 32) (hs : p + c ≤ 8 * l.length) :
    Calls Tryd.prog 65 #[.pointer (some ⟨g, 0, none⟩), .int .i64 c] w (TakeRPost w B g h v l p c) := by
  have HH := Lib.hid H
  obtain ⟨r, hr⟩ : ∃ r, 8 * l.length - p = r := ⟨_, rfl⟩
  have HR := Lib.hid hr
  have d1 : decide (r < c) = false := by simp; omega
  clear hr H
  go_enter Tryd.func65, Tryd.ntmps65
  go_wp2_with fail
  refine (isCount_yes c _ hc).mono ?_
  rintro e w' ⟨rfl, rfl⟩
  go_wp2_with fail
  refine (left_any _ B g h v l p HH.out (by omega) hl).mono ?_
  rintro e w' ⟨rfl, dn, rfl⟩
  rw [HR.out]
  have HM0 := Lib.hid (show RdMid w B g h v l p (w.drewN dn) from ⟨HH.out.mono (drewN_below w dn), Ch.of_below (drewN_below w dn)⟩)
  clear HH HR
  obtain ⟨t, ht⟩ : ∃ t, (Bt.rbits h l).drop p = t := ⟨_, rfl⟩
  have htl : c ≤ t.length := by rw [← ht, List.length_drop, Bt.rbits_length]; omega
  have HT := Lib.hid ht
  have HTL := Lib.hid htl
  clear ht htl
  go_wp2
  go_loopg [6, 7] c (fun gk n i wr => ∃ d : Nat, d ≤ c ∧ gk = c - d ∧ i = .int .i64 d ∧ n = .int .i64 (Bt.tk h t c d : Nat) ∧ Hid (RdMid w B g h v l (p + d) wr))
  case atStart => exact ⟨0, by omega, by omega, rfl, by rw [Bt.tk_zero]; rfl, HM0⟩
  case round =>
    obtain ⟨d, hd, rfl, rfl, rfl, HM⟩ := hrel
    by_cases hlt : d < c
    · have k2 := HM.out.1.c2
      have HTK := Lib.hid (Bt.tk_lt h t c d hd)
      have hf8 : (p + d) % 8 < 8 := by omega
      have hz := HM.out.1.lt
      obtain ⟨s, hsd⟩ : ∃ s, s = min (8 - (p + d) % 8) (c - d) := ⟨_, rfl⟩
      have hs1 : 1 ≤ s := by omega
      have hs2 : (p + d) % 8 + s ≤ 8 := by omega
      have hs3 : d + s ≤ c := by omega
      have Hs := Lib.hid hsd
      clear hsd
      have HSTEP := Lib.hid (Bt.tk_step h t c d s hs3 HTL.out hs1)
      have HPART := Lib.hid (Bt.part_byte h l (p + d) s hs2 (by omega) hs1)
      have Htd := Lib.hid (show ((Bt.rbits h l).drop (p + d)).take s = (t.drop d).take s by rw [← HT.out, List.drop_drop])
      obtain ⟨u, hu⟩ : ∃ u, u = p + d := ⟨_, rfl⟩
      rw [← hu] at HM k2 hf8 hs2 Hs HPART Htd
      have hub : u < 8 * l.length := by omega
      have hub2 : u ≤ 8000000000000 := by omega
      have Hu := Lib.hid hu
      clear hu
      go_upto_region 9 with (fail)
      go_cut [8, 9] (fun s8 s9 wx => wr = wx ∧ s8 = .int .i64 ((u % 8 : Nat) : Int) ∧ s9 = .int .i64 ((s : Nat) : Int))
      case first =>
        go_wp2_with fail
        all_goals go_meet
        all_goals exact ⟨rfl, int_eq (by omega), int_eq (by have := Hs.out; omega)⟩
      case rest =>
        obtain ⟨rfl, rfl, rfl⟩ := hcut
        clear Hs
        have k0 := HM.out.1.c0
        have k1 := HM.out.1.c1
        obtain ⟨va, cap, rfl⟩ : ∃ gv cap, v = .slice (some ⟨gv, 0, none⟩) l.length cap := by
          rcases own_nil_or HM.out.1.own with ⟨_, hx⟩ | ⟨gv, cap, e, _⟩
          · omega
          · exact ⟨gv, cap, e⟩
        have hq : u / 8 < l.length := by omega
        have o1 : wr.cell? ⟨va, u / 8, none⟩ = some (.int .u8 (gb l (u / 8))) := by
          rw [HM.out.1.own.cellAt (u / 8) (by omega), bvs_get l _ hq]
        have n0 := World.new_ne _ _ k0
        have n1 := World.new_ne _ _ k1
        have n2 := World.new_ne _ _ k2
        have n3 := World.new_ne _ _ o1
        have hx := gb_lt l (u / 8)
        obtain ⟨q, hqd⟩ : ∃ q, u / 8 = q := ⟨_, rfl⟩
        rw [hqd] at hq o1 n3 hx HPART
        have a1 : (u : Int).tdiv 8 = q := by rw [Int.tdiv_eq_ediv_of_nonneg (by omega)]; omega
        have a4 : IntKind.i64.wrap (q : Int) = q := IntWalk.i64_in _ ⟨by omega, by omega⟩
        have a5 : (u : Int) / 8 = q := by omega
        have a2 : (0 : Int) ≤ q := by omega
        have a3 : (q : Int) < (l.length : Int) := by omega
        clear hqd
        obtain ⟨f, hfd⟩ : ∃ f, u % 8 = f := ⟨_, rfl⟩
        rw [hfd] at hf8 hs2 HPART ⊢
        clear hfd
        have Hlen := Lib.hid hub
        generalize gb l q = x at *
        go_upto_region 10 with (fail)
        go_cut [10] (fun s10 wx => s10 = .int .i64 ((x >>> Bt.shf h 8 f s &&& (2 ^ s - 1) : Nat) : Int) ∧ Hid (RdMid w B g h (.slice (some ⟨va, 0, none⟩) l.length cap) l u wx))
        case first =>
          have hM2 : Hid (RdMid w B g h (.slice (some ⟨va, 0, none⟩) l.length cap) l u (wr.alloc (.cells #[.bool h] 101)).drew) := Lib.hid
            ⟨HM.out.1.mono (below_alloc wr _).drew, (HM.out.2.alloc _).drew⟩
          have Hval := Lib.hid (Bt.part8_val x (Bt.shf h 8 f s) s hx (by have := rd_shf_le h 8 f s (by omega); omega) (by omega))
          clear HM
          go_region_held3 (fun w' => w'.cell? ⟨g, 0, none⟩ = some (.bool h) ∧ w'.cell? ⟨g, 1, none⟩ = some (.slice (some ⟨va, 0, none⟩) l.length cap) ∧ w'.cell? ⟨g, 2, none⟩ = some (.int .i64 (u : Nat)) ∧ w'.cell? ⟨va, q, none⟩ = some (.int .u8 (x : Nat))) (go_keep)
            (first | (go_at_call 76; refine (shift_any h 8 f s _ (by omega) (by omega)).mono ?_; rintro e w' ⟨rfl, rfl⟩))
          go_wp2_with fail
          go_meet
          exact ⟨int_eq (by rw [IntWalk.i64_in (x : Int) ⟨by omega, by omega⟩]; exact Hval.out), hM2⟩
        case rest =>
          obtain ⟨rfl, HM3⟩ := hcut
          clear HM k0 k1 k2 o1 n0 n1 n2 n3 a1 a2 a3 a4 a5
          have k0 := HM3.out.1.c0
          rw [HPART.out, Htd.out] at *
          obtain ⟨b, hb⟩ : ∃ b, Bt.num h ((t.drop d).take s) = b := ⟨_, rfl⟩
          have hb2 : b < 2 ^ s := by
            rw [← hb]
            have := Bt.num_lt h ((t.drop d).take s)
            rwa [show ((t.drop d).take s).length = s by have := HTL.out; simp; omega] at this
          have HACC := Lib.hid (Bt.acc_val (Bt.tk h t c d) b s (Bt.shf h c d s) c HTK.out hb2 (by have := rd_shf_le h c d s (by omega); omega) hc)
          rw [hb] at HSTEP ⊢
          rw [← HSTEP.out] at HACC
          clear hb hb2 HSTEP HPART Htd HTK
          go_wp2_with fail
          refine (shift_any h c d s _ (by omega) (by omega)).mono ?_
          rintro e w' ⟨rfl, rfl⟩
          have HM4 := Lib.hid (show RdMid w B g h (.slice (some ⟨va, 0, none⟩) l.length cap) l u (wc.alloc (.cells #[.bool h] 101)) from
            ⟨HM3.out.1.mono (below_alloc wc _), HM3.out.2.alloc _⟩)
          have k2 := HM4.out.1.c2
          have f2 := HM4.out.1.fr 2
          have HM5 := Lib.hid (show RdMid w B g h (.slice (some ⟨va, 0, none⟩) l.length cap) l (u + s) ((wc.alloc (.cells #[.bool h] 101)).setCell ⟨g, 2, none⟩ (.int .i64 ((u + s : Nat) : Int))) from
            ⟨HM4.out.1.setAt (u + s), HM4.out.2.set (.inl rfl) _⟩)
          rw [show Value.int .i64 ((u + s : Nat) : Int) = .int .i64 ((u : Int) + s) from int_eq (by omega)] at HM5
          clear HM3 HM4 k0
          go_wp2
          go_roundg (c - (d + s))
          case measure => omega
          case rel =>
            refine ⟨d + s, hs3, rfl, by go_num, ?_, ?_⟩
            · refine int_eq ?_
              have := HACC.out.1
              first | exact this | (rw [Bt.wrapEq] at this; exact this)
            · rw [show p + (d + s) = u + s by have := Hu.out; omega]; exact HM5
    · obtain rfl : d = c := by omega
      have e := Lib.hid (Bt.tk_full h t d)
      have hx := Lib.hid (show TakeRPost w B g h v l p d (.returned (.tuple #[.int .i64 (Bt.tk h t d d : Nat), .nilIface])) wr from ⟨by rw [e.out, ← HT.out], HM.out⟩)
      clear HM
      go_wp2
      go_ret2
      exact hx.out
end Go.Proofs.YtbohhdakbgnaeaaDoor
end

section
namespace Go.Proofs.YtbohhdakbgnaeaaDoor
open Go.RowKit

theorem Is.getW {k : IntKind} {w : World} {a : Option Addr} {len cap : Nat} {l : List Int} (h : Is k w a len cap l) (i : Nat) (hi : i < len) : (Lit.int k (l.getD i 0)).wf = true := by
  have hil : i < l.length := by rw [h.hlen]; exact hi
  exact h.wf _ (by simp [List.getD, List.getElem?_eq_getElem hil])
theorem ints_snoc (l : List Int) (k : Nat) (h : k < l.length) : l.take (k + 1) = l.take k ++ [l.getD k 0] := by
  rw [List.take_succ_eq_append_getElem h]; simp [List.getD, List.getElem?_eq_getElem h]
theorem own_set {w : World} {base n cap g : Nat} {l : List Int} (h : w.ownsRow base 3 1 (.slice (some ⟨g, 0, none⟩) n cap) n (ivs l)) (j : Nat) (z : Int) :
    (w.setCell ⟨g, j, none⟩ (.int .i64 z)).ownsRow base 3 1 (.slice (some ⟨g, 0, none⟩) n cap) n (ivs (l.set j z)) := by
  rw [← ivs_set]; exact (h.stored j _).1
end Go.Proofs.YtbohhdakbgnaeaaDoor
end

section
namespace Go.Proofs.YtbohhdakbgnaeaaDoor
open Go.RowKit

theorem made_ints1 (n : Nat) : (madeCells #[.int .i64 0] (n * 1)).toList = ivs (List.replicate n 0) := by
  rw [made_all _ _ (.int .i64 0) (by simp) (fun i hi => by
    match i, hi with
    | 0, _ => rfl), Nat.mul_one]
  simp [ivs]
theorem wpl_make_full {P : Program} {w : World} {ops : Array Oper} {rest : List Oper} {o : Oper} {a : Act} {Q : Exit → Act → World → Prop} {t e : TypeId} {z : Value} {size by' : Nat} (R : RowTy P t e z size by') (hg : o.guard = none) (l c : Operand) (hop : o.op = Op.makeSlice t l c) (base : Nat)
    (kl kc : IntKind) (L C : Int) (n : Nat) (hl : a.eval l = .int kl L) (hc : a.eval c = .int kc C) (hL : L = (n : Int)) (hC : C = (n : Int)) (b2 : by' * n ≤ 281474976710656) (b3 : n ≤ 9223372036854775807) (b4 : base ≤ w.heap.size)
    (hK : ∀ w', w'.ownsRow base e size (.slice (some ⟨w.heap.size, 0, none⟩) n n) n (madeCells z.cells (n * size)).toList → w.grownBy w' none → wpList P ops Q rest (a.put o.dst (.slice (some ⟨w.heap.size, 0, none⟩) n n)) w') :
    wpList P ops Q (o :: rest) a w := by
  obtain ⟨i0, hi, hz0, hz1, hz2⟩ := info_parts R.info
  subst hz2
  exact wpList_make_full w hg l c t hop base e i0 z size R.ht hi hz0 hz1 kl kc L C n hl hc hL hC b2 (by unfold maxLen; omega) b4 hK
end Go.Proofs.YtbohhdakbgnaeaaDoor
end

section
namespace Go.Proofs.YtbohhdakbgnaeaaDoor
open Go.RowKit

theorem Is.kept {w w' : World} {T : Nat → Prop} {a : Option Addr} {len cap : Nat} {l : List Int} (h : Is .i64 w a len cap l) (c : Ch w w' T) (hn : ∀ ad, a = some ad → ¬ T ad.block) : Is .i64 w' a len cap l :=
  ⟨h.hlen, h.hle, h.hnil, fun i hi => by
    obtain ⟨b, off, e, hlt, hc⟩ := h.at' i hi
    exact ⟨b, off, e, Nat.lt_of_lt_of_le hlt c.size, by rw [World.cell?_of_block (w := w) (c.block b hlt (hn _ e))]; exact hc⟩, h.wf⟩
theorem Is.blk {w : World} {a : Option Addr} {len cap : Nat} {l : List Int} (h : Is .i64 w a len cap l) (hp : 0 < len) : ∀ ad, a = some ad → ad.block < w.heap.size := by
  intro ad e
  obtain ⟨b, off, e2, hlt, _⟩ := h.at' 0 hp
  rw [e] at e2; cases e2; exact hlt
end Go.Proofs.YtbohhdakbgnaeaaDoor
end

section
namespace Go.Proofs.YtbohhdakbgnaeaaDoor
open Go.RowKit

/-- The bits of all bytes, the lowest first. -/
def lob (bs : List UInt8) : List Bool := Bt.rbits false bs
theorem lob_length (bs : List UInt8) : (lob bs).length = 8 * bs.length := Bt.rbits_length false bs
def nis (ns : List Nat) : List Int := ns.map fun n => ((n : Nat) : Int)
/-- What a call of the reader's answers: a value, or an error's number; only the bits' own place has changed. -/
def NumsPost (w : World) (B gb : Nat) (vb : Value) (bs : List UInt8) (r : Ip.Rs (List Nat)) (e : Ending) (w' : World) : Prop :=
  match r with
  | .ok ns q => ∃ v, e = .returned (.tuple #[v, .nilIface]) ∧ w'.ownsRow w.heap.size 3 1 v ns.length (ivs (nis ns)) ∧ Rd w' B gb false vb bs q ∧ Ch w w' (fun k => k = gb)
  | .err n => n ≠ 0 ∧ e = .returned (.tuple #[.slice none 0 0, .iface 35 (.int .i64 n)]) ∧ Ch w w' (fun k => k = gb)
/-- In the midst: j numbers have been read. -/
structure NmX (w wr : World) (B gb q0 : Nat) (vb : Value) (bs : List UInt8) (len : Nat) (cnts : List Nat) (p j : Nat) : Prop where
  ex : ∃ ns q, Ip.numbers (cnts.take j) (lob bs) p = .ok ns q ∧ ns.length = j ∧ q ≤ 8 * bs.length ∧ Rd wr B gb false vb bs q ∧ wr.ownsRow w.heap.size 3 1 (.slice (some ⟨q0, 0, none⟩) len len) len (ivs (nis ns ++ List.replicate (len - j) 0))
  ch : Ch w wr (fun k => k = gb)
set_option maxRecDepth 100000 in
set_option maxHeartbeats 4000000 in
theorem numbers_any {w : World} {B gr gb p : Nat} {T : TypeId} {cs : Array Value} {vb : Value} {bs : List UInt8} {a : Option Addr} {len cap : Nat} {cnts : List Nat} (hrow : w.heap[gr]? = some (.cells cs T (0, 0))) (hc0 : cs[0]? = some (.pointer (some ⟨gb, 0, none⟩))) (hd : gr ≠ gb)
    (H : Rd w B gb false vb bs p) (hB : B ≤ w.heap.size) (hp : p ≤ 8 * bs.length) (hbl : bs.length ≤ 1000000000000) (hI : Is .i64 w a len cap (nis cnts)) (hag : ∀ ad, a = some ad → ad.block ≠ gb) (hl : len ≤ 1000000) (hc : ∀ c ∈ cnts, c ≤ 32) :
    Calls Tryd.prog 49 #[.pointer (some ⟨gr, 0, none⟩), .slice a len cap] w (NumsPost w B gb vb bs (Ip.numbers cnts (lob bs) p)) := by
  have hcl : cnts.length = len := by have := hI.hlen; simpa [nis] using this
  have HCL := Lib.hid hcl
  have HI := Lib.hid hI
  have HROW := Lib.hid hrow
  have HC := Lib.hid hc
  have HAG := Lib.hid hag
  have HC0 := Lib.hid hc0
  have HH := Lib.hid H
  have hgb := H.lt
  have hgr := (Array.getElem?_eq_some_iff.1 hrow).1
  clear hI H hrow hc hag hc0 hcl
  go_enter Tryd.func49, Tryd.ntmps49
  go_wp2_with (at_make; refine wpl_make_full tyI rfl _ _ rfl w.heap.size .i64 .i64 _ _ len rfl rfl rfl rfl (by omega) (by omega) (Nat.le_refl _) ?_)
  intro w1 own1 hg1
  have hb1 : Below w.heap.size w w1 := (Below.refl _ _).grown hg1 (Nat.le_refl _) (by simp)
  have own2 : w1.ownsRow w.heap.size 3 1 (.slice (some ⟨w.heap.size, 0, none⟩) len len) len (ivs (nis [] ++ List.replicate (len - 0) 0)) := by
    have e2 := made_ints1 len
    rw [Nat.mul_one] at e2
    rw [show nis [] ++ List.replicate (len - 0) 0 = List.replicate len 0 by simp [nis], ← e2]; exact own1
  have HX : Hid (NmX w w1 B gb w.heap.size vb bs len cnts p 0) := Lib.hid ⟨⟨[], p, rfl, rfl, hp, HH.out.mono hb1, own2⟩, Ch.of_below hb1⟩
  have HVB := Lib.hid (fun k (hk : vb.ownBlock = some k) => (HH.out.own.lt k hk).2)
  clear own1 own2 hg1 hb1
  go_wp2
  go_loopw [16] (fun i wr => ∃ j : Nat, j ≤ len ∧ i = .int .i64 j ∧ Hid (NmX w wr B gb w.heap.size vb bs len cnts p j)) (fun i _ => len - (intOf i).toNat)
  case atStart => exact ⟨0, by omega, rfl, HX⟩
  case round =>
    obtain ⟨j, hj, rfl, HK⟩ := hrel
    obtain ⟨⟨ns, q, hns, hnl, hq, hrd, hown⟩, hch⟩ := HK.out
    have hzr := hch.size
    by_cases hlt : j < len
    · obtain ⟨b, off, rfl, _, hcell⟩ := (HI.out.kept hch (fun ad e => HAG.out ad e)).at' j hlt
      have hcc : (nis cnts).getD j 0 = ((cnts.getD j 0 : Nat) : Int) := by
        have hj2 : j < cnts.length := by rw [HCL.out]; exact hlt
        simp [nis, List.getD, List.getElem?_eq_getElem hj2]
      have hc32 : cnts.getD j 0 ≤ 32 := by
        have hj2 : j < cnts.length := by rw [HCL.out]; exact hlt
        have h1 : cnts.getD j 0 = cnts[j] := by simp [List.getD, List.getElem?_eq_getElem hj2]
        rw [h1]; exact HC.out _ (List.getElem_mem hj2)
      have hcell2 : wr.cell? ⟨b, off + j, none⟩ = some (.int .i64 ((cnts.getD j 0 : Nat) : Int)) := by rw [← hcc]; exact hcell
      have g0 : wr.cell? ⟨gr, 0, none⟩ = some (.pointer (some ⟨gb, 0, none⟩)) := by
        rw [cell_of_row _ _ _ _ _ (0, 0) ((hch.block gr hgr hd).trans HROW.out)]; exact HC0.out
      have HOK := Lib.hid (fun h => Ip.numbers_ok hns (by rw [HCL.out]; exact hlt) h)
      have HSH := Lib.hid (fun h => Ip.numbers_short hns (by rw [HCL.out]; exact hlt) h)
      have HRD := Lib.hid hrd
      have HOWN := Lib.hid hown
      have HCH := Lib.hid hch
      clear hcc hcell hns hrd hown hch HK
      generalize hcj : cnts.getD j 0 = c at *
      clear hcj
      by_cases hfit : q + c ≤ 8 * bs.length
      · have HOK2 := Lib.hid (HOK.out (by rw [lob_length]; exact hfit))
        go_wp2_with fail
        refine (takeR_ok wr B gb false vb bs q c HRD.out (by omega) hbl hc32 hfit).mono ?_
        rintro e w2 ⟨rfl, hrd2, hch2⟩
        have hown2 := hch2.own HOWN.out (fun k hk e => by simp [Value.ownBlock] at hk; omega)
        have k0 := hown2.cellAt j (by omega)
        obtain ⟨z, k1⟩ : ∃ z, w2.cell? ⟨w.heap.size, j, none⟩ = some z := ⟨_, k0.trans (by rw [ivs_get _ _ (by simp [nis, hnl]; omega)])⟩
        have f1 : w2.frozen? ⟨w.heap.size, j, none⟩ = false := by
          rcases hown2.2 with ⟨h1, _⟩ | ⟨g2, cap2, cur, h1, _, hg, _⟩
          · simp at h1
          · simp only [Value.slice.injEq, Option.some.injEq, Addr.mk.injEq, and_true, true_and] at h1
            obtain ⟨rfl, rfl⟩ := h1
            exact frozen_of_row _ _ _ _ _ hg
        have HX2 : Hid (NmX w (w2.setCell ⟨w.heap.size, j, none⟩ (.int .i64 (Bt.num false (((Bt.rbits false bs).drop q).take c) : Nat))) B gb w.heap.size vb bs len cnts p (j + 1)) := Lib.hid (by
          have cs2 := (Ch.refl w2 (fun k => k = w.heap.size)).set (p := ⟨w.heap.size, j, none⟩) (.inl rfl) (.int .i64 (Bt.num false (((Bt.rbits false bs).drop q).take c) : Nat))
          refine ⟨⟨_, _, HOK2.out, by simp [hnl], hfit, hrd2.kept cs2 (by omega) (fun k hk e => by have := HVB.out k hk; omega), ?_⟩, ?_⟩
          · have h3 := own_set hown2 j (Bt.num false (((Bt.rbits false bs).drop q).take c) : Nat)
            have e4 : (nis ns ++ List.replicate (len - j) 0).set j ((Bt.num false (((Bt.rbits false bs).drop q).take c) : Nat) : Int) = nis (ns ++ [Bt.num false (((lob bs).drop q).take c)]) ++ List.replicate (len - (j + 1)) 0 := by
              obtain ⟨r, hr⟩ : ∃ r, len - j = r + 1 := ⟨len - j - 1, by omega⟩
              have hl2 : (nis ns).length = j := by simp [nis, hnl]
              rw [hr, List.replicate_succ, List.set_append_right _ _ (by omega), hl2, Nat.sub_self, show len - (j + 1) = r by omega]
              simp [nis, lob]
            rwa [e4] at h3
          · exact ((HCH.out.trans hch2 (fun n hn => .inl hn)).set (p := ⟨w.heap.size, j, none⟩) (.inr (Nat.le_refl _)) _))
        clear hrd2 hch2 hown2 k0 HRD HOWN HCH HOK HSH HOK2
        generalize Bt.num false (((Bt.rbits false bs).drop q).take c) = nn at *
        go_wp2
        go_roundw
        case rel => exact ⟨j + 1, by omega, by go_num, HX2⟩
        case measure => simp [intOf]; omega
      · have HS2 := Lib.hid (HSH.out (by rw [lob_length]; exact hfit))
        go_wp2_with fail
        refine (take_short wr B gb false vb bs q c HRD.out hq hbl hc32 (by omega)).mono ?_
        rintro e w2 ⟨rfl, hb2⟩
        have HP : Hid (NumsPost w B gb vb bs (Ip.numbers cnts (lob bs) p) (.returned (.tuple #[.slice none 0 0, .iface 35 (.int .i64 8)])) w2) := Lib.hid (by
          rw [HS2.out]
          exact ⟨by decide, rfl, HCH.out.trans (Ch.of_below (T := fun _ => False) hb2) (fun n hn => hn.elim)⟩)
        clear hb2 HRD HOWN HCH HOK HSH HS2
        go_wp2
        go_ret2
        exact HP.out
    · obtain rfl : len = j := by omega
      have HP : Hid (NumsPost w B gb vb bs (Ip.numbers cnts (lob bs) p) (.returned (.tuple #[.slice (some ⟨w.heap.size, 0, none⟩) len len, .nilIface])) wr) := Lib.hid (by
        rw [List.take_of_length_le (by rw [HCL.out]; exact Nat.le_refl _)] at hns
        rw [hns]
        refine ⟨_, rfl, ?_, hrd, hch⟩
        rw [hnl]
        have e : nis ns ++ List.replicate (len - len) 0 = nis ns := by simp
        rw [e] at hown; exact hown)
      clear hns hrd hown hch HK
      go_wp2
      go_ret2
      exact HP.out
end Go.Proofs.YtbohhdakbgnaeaaDoor
end

section
namespace Go.Proofs.YtbohhdakbgnaeaaDoor
open Go.RowKit
namespace Bk
/-- What a round keeps: all cells but those of U. -/
def Kc (U : Nat → Prop) (W W' : World) : Prop := ∀ k o, W.heap[k]? = some o → o.isCells = true → ¬ U k → W'.heap[k]? = some o
theorem Kc.refl (U : Nat → Prop) (W : World) : Kc U W W := fun _ _ h _ _ => h
theorem Kc.trans {U : Nat → Prop} {A B C : World} (h : Kc U A B) (k : Kc U B C) : Kc U A C := fun i o hi ho hu => k i o (h i o hi ho hu) ho hu
theorem Kc.alloc (U : Nat → Prop) (W : World) (o : Obj) : Kc U W (W.alloc o) := fun k _ hk _ _ => (Below.heap_alloc W o k (Array.getElem?_eq_some_iff.1 hk).1).trans hk
theorem Kc.grown {U : Nat → Prop} {W W' : World} {row : Option Nat} (hg : W.grownBy W' row) (hr : ∀ r, row = some r → U r ∨ W.heap.size ≤ r) : Kc U W W' := fun k o hk _ hu => by
  have hlt := (Array.getElem?_eq_some_iff.1 hk).1
  exact (hg.block k hlt (fun e => (hr k e.symm).elim hu (fun h => by omega))).trans hk
theorem Kc.drew {U : Nat → Prop} {A B : World} (h : Kc U A B) : Kc U A B.drew := h
theorem Kc.set {U : Nat → Prop} (W : World) (p : Addr) (hp : U p.block) (v : Value) : Kc U W (W.setCell p v) := fun k _ hk _ hu => (Below.heap_setCell W p v k (fun e => hu (e ▸ hp))).trans hk
theorem Kc.put {U : Nat → Prop} (W : World) (l : Nat) (o o' : Obj) (h : W.heap[l]? = some o) (hc : o.isCells = false) : Kc U W (W.putObj l o') := fun k o2 hk ho _ => by
  have : k ≠ l := fun e => by subst e; rw [h] at hk; cases hk; rw [hc] at ho; cases ho
  exact (World.putObj_heap_other this).trans hk
theorem own_same {w w' : World} {B : Nat} {e : TypeId} {size : Nat} {v : Value} {n : Nat} {xs : List Value} (h : w.ownsRow B e size v n xs) (hk : ∀ g, v.ownBlock = some g → w'.heap[g]? = w.heap[g]?) : w'.ownsRow B e size v n xs := by
  obtain ⟨h1, h2⟩ := h
  refine ⟨h1, ?_⟩
  rcases h2 with h2 | ⟨g, cap, cur, rfl, hb, hg, r⟩
  · exact .inl h2
  · exact .inr ⟨g, cap, cur, rfl, hb, (hk g rfl).trans hg, r⟩
theorem own_kc {U : Nat → Prop} {w w' : World} {B : Nat} {e : TypeId} {size : Nat} {v : Value} {n : Nat} {xs : List Value} (h : w.ownsRow B e size v n xs) (c : Kc U w w') (hn : ∀ g, v.ownBlock = some g → ¬ U g) : w'.ownsRow B e size v n xs := by
  obtain ⟨h1, h2⟩ := h
  refine ⟨h1, ?_⟩
  rcases h2 with h2 | ⟨g, cap, cur, rfl, hb, hg, r⟩
  · exact .inl h2
  · exact .inr ⟨g, cap, cur, rfl, hb, c g _ hg rfl (hn g rfl), r⟩
theorem boxed_setO {W : World} {B b : Nat} {t : TypeId} {v : Value} (h : Boxed W B t v) (hne : B ≠ b) (o : Nat) (u : Value) : Boxed (W.setCell ⟨b, o, none⟩ u) B t v := (Below.heap_setCell W ⟨b, o, none⟩ u B hne).trans h
theorem kc_cells {W W' : World} {row : Option Nat} (hg : W.grownBy W' row) (hr : ∀ r, row = some r → ∃ o : Obj, W.heap[r]? = some o ∧ o.isCells = false) : Kc (fun _ => False) W W' := fun k o hk ho _ => by
  refine (hg.block k (Array.getElem?_eq_some_iff.1 hk).1 (fun e => ?_)).trans hk
  obtain ⟨o', ho', hc⟩ := hr k e.symm
  rw [hk] at ho'; cases ho'; rw [ho] at hc; cases hc
end Bk
end Go.Proofs.YtbohhdakbgnaeaaDoor
end

section
namespace Go.Proofs.YtbohhdakbgnaeaaDoor
open Go.RowKit
namespace Cn
/-- What is free of lengths in form. -/
def part (n : Int) : Nat := if n ≤ 0 then 0 else 65536 / 2 ^ n.toNat
def sum (l : List Int) : Nat := (l.map part).sum
def formB (l : List Int) : Bool := decide (l.length ≤ 512) && l.all fun n => decide (0 ≤ n ∧ n ≤ 16)
/-- What the document answers for what is free. -/
def freeN (l : List Int) : Int := if formB l then 65536 - (sum l : Int) else 0
def freeB (l : List Int) : Bool := formB l && decide (sum l ≤ 65536)
theorem form_bad (l : List Int) (k : Nat) (hk : k < l.length) (h : l.getD k 0 < 0 ∨ 16 < l.getD k 0) : formB l = false := by
  have hm : l.getD k 0 ∈ l := by simp [List.getD, List.getElem?_eq_getElem hk]
  unfold formB
  rw [Bool.and_eq_false_iff]
  right
  rw [List.all_eq_false]
  generalize l.getD k 0 = z at *
  exact ⟨z, hm, by simp; omega⟩
theorem form_good (l : List Int) (hl : l.length ≤ 512) (h : ∀ k, k < l.length → 0 ≤ l.getD k 0 ∧ l.getD k 0 ≤ 16) : formB l = true := by
  unfold formB
  rw [Bool.and_eq_true, List.all_eq_true]
  refine ⟨by simpa using hl, fun n hn => ?_⟩
  obtain ⟨k, hk, rfl⟩ := List.getElem_of_mem hn
  have := h k hk
  simpa [List.getD, List.getElem?_eq_getElem hk] using this
theorem form_big (l : List Int) (hl : 512 < l.length) : formB l = false := by unfold formB; simp; omega
theorem part_le (n : Int) : part n ≤ 65536 := by
  unfold part; split
  · omega
  · exact Nat.div_le_self _ _
theorem sum_snoc (l : List Int) (n : Int) : sum (l ++ [n]) = sum l + part n := by simp [sum]
theorem sum_le (l : List Int) : sum l ≤ 65536 * l.length := by
  induction l with
  | nil => simp [sum]
  | cons n l ih => have := part_le n; simp only [sum, List.map_cons, List.sum_cons, List.length_cons] at *; omega
/-- A code plus 1, the last bit first. -/
def incR : List Bool → List Bool
  | [] => []
  | false :: r => true :: r
  | true :: r => false :: incR r
def plus (l : List Bool) : List Bool := (incR l.reverse).reverse
theorem incR_length (l : List Bool) : (incR l).length = l.length := by
  induction l with
  | nil => rfl
  | cons b l ih => cases b <;> simp [incR, ih]
theorem plus_length (l : List Bool) : (plus l).length = l.length := by simp [plus, incR_length]
/-- Some bits more. -/
def pad (b : List Bool) (n : Int) : List Bool := b ++ List.replicate (n.toNat - b.length) false
/-- The next code behind these. -/
def nxt (prev : List (List Bool)) (n : Int) : List Bool := pad (match prev.getLast? with | none => [] | some b => plus b) n
def codes (sizes : List Int) : List (List Bool) := sizes.foldl (fun acc n => acc ++ [nxt acc n]) []
theorem codes_snoc (l : List Int) (n : Int) : codes (l ++ [n]) = codes l ++ [nxt (codes l) n] := by simp [codes]
theorem codes_length (l : List Int) : (codes l).length = l.length := by
  suffices ∀ (r : List Int), (codes r.reverse).length = r.length by simpa using this l.reverse
  intro r
  induction r with
  | nil => rfl
  | cons n r ih => rw [List.reverse_cons, codes_snoc, List.length_append, ih]; rfl
theorem codes_take (l : List Int) (k : Nat) (h : k < l.length) : codes (l.take (k + 1)) = codes (l.take k) ++ [nxt (codes (l.take k)) (l.getD k 0)] := by
  rw [List.take_succ_eq_append_getElem h, codes_snoc]; simp [List.getD, List.getElem?_eq_getElem h]
theorem getLast_len (l : List (List Bool)) (k : Nat) (h : l.length = k + 1) : l.getLast? = some (l.getD k []) := by
  rw [List.getLast?_eq_getElem?, h]; simp [List.getD, List.getElem?_eq_getElem (show k < l.length by omega)]
/-- What the next code is made of. -/
def from' (prev : List (List Bool)) : List Bool := match prev.getLast? with | none => [] | some b => plus b
theorem nxt_eq (prev : List (List Bool)) (n : Int) : nxt prev n = from' prev ++ List.replicate (n.toNat - (from' prev).length) false := rfl
theorem from_nil : from' [] = [] := rfl
theorem from_succ (l : List (List Bool)) (k : Nat) (h : l.length = k + 1) : from' l = plus (l.getD k []) := by unfold from'; rw [getLast_len l k h]
theorem nxt_length (prev : List (List Bool)) (n : Int) : (nxt prev n).length = max (from' prev).length n.toNat := by rw [nxt_eq]; simp; omega
theorem codes_len (zs : List Int) (hz : ∀ n ∈ zs, n ≤ 16) : ∀ b ∈ codes zs, b.length ≤ 16 := by
  suffices ∀ (r : List Int), (∀ n ∈ r, n ≤ 16) → ∀ b ∈ codes r.reverse, b.length ≤ 16 by
    have := this zs.reverse (fun n hn => hz n (by simpa using hn))
    simpa using this
  intro r
  induction r with
  | nil => intro _ b hb; simp [codes] at hb
  | cons n r ih =>
    intro hr b hb
    have ih' := ih (fun m hm => hr m (List.mem_cons_of_mem _ hm))
    rw [List.reverse_cons, codes_snoc, List.mem_append] at hb
    rcases hb with hb | hb
    · exact ih' b hb
    · simp only [List.mem_singleton] at hb
      subst hb
      rw [nxt_length]
      have h1 : n.toNat ≤ 16 := by have := hr n List.mem_cons_self; omega
      have h2 : (from' (codes r.reverse)).length ≤ 16 := by
        unfold from'
        cases hg : (codes r.reverse).getLast? with
        | none => simp
        | some c => simp only [plus_length]; exact ih' c (List.mem_of_getLast? hg)
      omega
theorem from_len (zs : List Int) (hz : ∀ n ∈ zs, n ≤ 16) : (from' (codes zs)).length ≤ 16 := by
  unfold from'
  cases hg : (codes zs).getLast? with
  | none => simp
  | some c => simp only [plus_length]; exact codes_len zs hz c (List.mem_of_getLast? hg)
/-- The symbols below s with codes of m + 1 bits. -/
def row (l : List Int) (m s : Nat) : List Nat := (List.range s).filter fun i => l.getD i 0 == ((m + 1 : Nat) : Int)
/-- The symbols with codes of at most m bits, in the order of their codes; and their lengths. -/
def symN (l : List Int) (m : Nat) : List Int := (List.range m).flatMap fun n => (row l n l.length).map fun (s : Nat) => (s : Int)
def sizN (l : List Int) (m : Nat) : List Int := (List.range m).flatMap fun n => (row l n l.length).map fun _ => ((n + 1 : Nat) : Int)
def syms (l : List Int) : List Int := symN l 16
def sizes (l : List Int) : List Int := sizN l 16
theorem row_succ (l : List Int) (m s : Nat) : row l m (s + 1) = row l m s ++ (if l.getD s 0 == ((m + 1 : Nat) : Int) then [s] else []) := by
  unfold row; rw [List.range_succ, List.filter_append]; congr 1
  by_cases h : (l.getD s 0 == ((m + 1 : Nat) : Int)) = true
  · rw [List.filter_cons_of_pos (by simpa using h), if_pos h]; rfl
  · rw [List.filter_cons_of_neg (by simpa using h), if_neg h]; rfl
theorem row_le (l : List Int) (m s : Nat) : (row l m s).length ≤ s := by
  have := List.length_filter_le (fun i => l.getD i 0 == ((m + 1 : Nat) : Int)) (List.range s)
  simpa [row] using this
theorem symN_succ (l : List Int) (m : Nat) : symN l (m + 1) = symN l m ++ (row l m l.length).map fun (s : Nat) => (s : Int) := by simp [symN, List.range_succ]
theorem sizN_succ (l : List Int) (m : Nat) : sizN l (m + 1) = sizN l m ++ (row l m l.length).map fun _ => ((m + 1 : Nat) : Int) := by simp [sizN, List.range_succ]
theorem sizN_length (l : List Int) (m : Nat) : (sizN l m).length = (symN l m).length := by
  induction m with
  | zero => rfl
  | succ m ih => rw [symN_succ, sizN_succ]; simp [ih]
theorem sizN_bound (l : List Int) (m : Nat) (hm : m ≤ 16) : ∀ x ∈ sizN l m, 0 ≤ x ∧ x ≤ 16 := by
  intro x hx
  simp only [sizN, List.mem_flatMap, List.mem_range, List.mem_map] at hx
  obtain ⟨n, hn, _, _, rfl⟩ := hx
  omega
end Cn
end Go.Proofs.YtbohhdakbgnaeaaDoor
end

section
namespace Go.Proofs.YtbohhdakbgnaeaaDoor
open Go.RowKit

namespace Cn
theorem numH_pad (b : List Bool) (k : Nat) : Bt.numH (b ++ List.replicate k false) = Bt.numH b * 2 ^ k := by
  induction k with
  | zero => simp
  | succ k ih => rw [List.replicate_succ', ← List.append_assoc, Bt.numH_snoc, ih, Nat.pow_succ]; simp; rw [Nat.mul_comm, Nat.mul_assoc]
theorem numH_incR (r : List Bool) (h : Bt.numH r.reverse + 1 < 2 ^ r.length) : Bt.numH (incR r).reverse = Bt.numH r.reverse + 1 := by
  induction r with
  | nil => simp [Bt.numH] at h
  | cons x r ih =>
    rw [List.reverse_cons, Bt.numH_snoc, List.length_cons, Nat.pow_succ] at h
    cases x
    · have e : incR (false :: r) = true :: r := rfl
      rw [e, List.reverse_cons, List.reverse_cons, Bt.numH_snoc, Bt.numH_snoc]; simp
    · have e : incR (true :: r) = false :: incR r := rfl
      simp only [Bool.toNat_true] at h
      rw [e, List.reverse_cons, List.reverse_cons, Bt.numH_snoc, Bt.numH_snoc, ih (by omega)]; simp; omega
theorem numH_plus (b : List Bool) (h : Bt.numH b + 1 < 2 ^ b.length) : Bt.numH (plus b) = Bt.numH b + 1 := by
  have := numH_incR b.reverse (by simpa using h)
  simpa [plus] using this
theorem fold_pre (m : List Int) : ∀ acc : List (List Bool), ∃ t, m.foldl (fun acc n => acc ++ [nxt acc n]) acc = acc ++ t := by
  induction m with
  | nil => exact fun acc => ⟨[], by simp⟩
  | cons n m ih =>
    intro acc
    obtain ⟨t, ht⟩ := ih (acc ++ [nxt acc n])
    exact ⟨nxt acc n :: t, by rw [List.foldl_cons, ht, List.append_assoc]; rfl⟩
theorem codes_pre (l m : List Int) : ∃ t, codes (l ++ m) = codes l ++ t := by
  obtain ⟨t, ht⟩ := fold_pre m (codes l)
  exact ⟨t, by rw [← ht]; simp [codes]⟩
theorem codes_at (zs : List Int) (k : Nat) (hk : k < zs.length) : (codes zs).getD k [] = nxt (codes (zs.take k)) (zs.getD k 0) := by
  obtain ⟨t, ht⟩ := codes_pre (zs.take (k + 1)) (zs.drop (k + 1))
  rw [List.take_append_drop] at ht
  have hl : (codes (zs.take k)).length = k := by rw [codes_length, List.length_take]; omega
  rw [ht, codes_take zs k hk]
  simp [List.getD, hl]
theorem part_eq (n : Int) (h : 1 ≤ n ∧ n ≤ 16) : part n = 2 ^ (16 - n.toNat) := by
  unfold part
  rw [if_neg (by omega)]
  have e : (65536 : Nat) = 2 ^ (16 - n.toNat) * 2 ^ n.toNat := by rw [← Nat.pow_add, show 16 - n.toNat + n.toNat = 16 by omega]
  rw [e, Nat.mul_div_cancel _ (Nat.pow_pos (by omega))]
theorem sum_take_le (zs : List Int) (k : Nat) : sum (zs.take k) ≤ sum zs := by
  have : sum zs = sum (zs.take k) + sum (zs.drop k) := by
    unfold sum
    rw [← List.sum_append, ← List.map_append, List.take_append_drop]
  omega
theorem sum_take_succ (zs : List Int) (k : Nat) (hk : k < zs.length) : sum (zs.take (k + 1)) = sum (zs.take k) + part (zs.getD k 0) := by
  rw [List.take_succ_eq_append_getElem hk, sum_snoc]; simp [List.getD, List.getElem?_eq_getElem hk]
/-- A code's length is the one asked for, and its number, in 65536ths, is where the ones ahead of it end. -/
theorem codes_val (zs : List Int) (hz : ∀ i, i < zs.length → 1 ≤ zs.getD i 0 ∧ zs.getD i 0 ≤ 16) (hs : ∀ i, i + 1 < zs.length → zs.getD i 0 ≤ zs.getD (i + 1) 0) (hk : sum zs ≤ 65536) :
    ∀ i, i < zs.length → ((codes zs).getD i []).length = (zs.getD i 0).toNat ∧ Bt.numH ((codes zs).getD i []) * 2 ^ (16 - (zs.getD i 0).toNat) = sum (zs.take i) := by
  intro i
  induction i with
  | zero =>
    intro hi
    rw [codes_at zs 0 hi]
    have e : nxt (codes (zs.take 0)) (zs.getD 0 0) = [] ++ List.replicate (zs.getD 0 0).toNat false := by simp [codes, nxt, pad]
    rw [e]
    refine ⟨by simp, ?_⟩
    rw [numH_pad]; simp [Bt.numH, sum]
  | succ i ih =>
    intro hi
    obtain ⟨h1, h2⟩ := ih (by omega)
    have hb := hz i (by omega)
    have hc := hz (i + 1) hi
    have ho := hs i hi
    have hl : (codes (zs.take (i + 1))).length = i + 1 := by rw [codes_length, List.length_take]; omega
    have hp : (codes (zs.take (i + 1))).getD i [] = (codes zs).getD i [] := by
      obtain ⟨t, ht⟩ := codes_pre (zs.take (i + 1)) (zs.drop (i + 1))
      rw [List.take_append_drop] at ht
      rw [ht]; simp only [List.getD]; rw [List.getElem?_append_left (by omega)]
    rw [codes_at zs (i + 1) hi, nxt_eq, from_succ _ i hl, hp]
    have s1 := sum_take_succ zs i (by omega)
    have s2 := sum_take_succ zs (i + 1) hi
    have s3 := sum_take_le zs (i + 1 + 1)
    rw [part_eq _ hb] at s1
    rw [part_eq _ hc] at s2
    generalize (codes zs).getD i [] = b at *
    obtain ⟨x, hx⟩ := Int.eq_ofNat_of_zero_le (show 0 ≤ zs.getD i 0 by omega)
    obtain ⟨y, hy⟩ := Int.eq_ofNat_of_zero_le (show 0 ≤ zs.getD (i + 1) 0 by omega)
    rw [hx] at h1 h2 s1 hb ho
    rw [hy] at s2 hc ho ⊢
    simp only [Int.toNat_natCast] at h1 h2 s1 s2 ⊢
    have hxy : x ≤ y := by omega
    have hy16 : y ≤ 16 := by omega
    have p1 : 2 ^ (16 - x) * 2 ^ x = 65536 := by rw [← Nat.pow_add, show 16 - x + x = 16 by omega]
    have p2 : 2 ^ (y - x) * 2 ^ (16 - y) = 2 ^ (16 - x) := by rw [← Nat.pow_add, show y - x + (16 - y) = 16 - x by omega]
    have p3 : 0 < 2 ^ (16 - y) := Nat.pow_pos (by omega)
    have hn : Bt.numH b + 1 < 2 ^ b.length := by
      rw [h1]
      refine Nat.lt_of_mul_lt_mul_left (a := 2 ^ (16 - x)) ?_
      rw [p1, Nat.mul_comm, Nat.add_mul, h2]
      omega
    refine ⟨by rw [List.length_append, plus_length, List.length_replicate, h1]; omega, ?_⟩
    rw [numH_pad, numH_plus b hn, plus_length, h1, Nat.mul_assoc, p2, Nat.add_mul, h2, s1]
    omega
end Cn
end Go.Proofs.YtbohhdakbgnaeaaDoor
end
