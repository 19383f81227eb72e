/- inflate.Inflate and inflate.Tokens at all blocks: their contracts. Where no block has changed. zlib.checkWindow and zlib.Unwrap of what is wrapped: their contracts. burnishnum.Num: its contract. burnishnum.Is: its contract. burnishlaw07.alive: its contract. What a block of kind 0 comes to, as the law lays it. What InflateBehind asks of what is unpacked. What the listed variable holds. The document's digits: their contract. The document's numbers of bits, bytes of bits and bits of bytes: their contracts. -/
import Derived.Test.YtfgpmccmalddjaaDoorZ21
import Derived.Test.YtfgpmccmalddjaaDoorProg
import Derived.Test.YtfgpmccmalddjaaDoorRows
import Derived.LaidLaws
import Derived.MakeChecks
import Derived.Stop.Joined
set_option linter.unusedSimpArgs false
set_option linter.unusedVariables false
section
namespace Go.Proofs.YtfgpmccmalddjaaDoor
open Go.RowKit
attribute [local go_sem] Oper.semAt_some

/-- What is unpacked, by the specification. -/
def infR (most : Nat) (bs : List UInt8) : Ip.Rs Unp := Ip.unpP (Ip.dynP most) most (lob bs) 0
theorem unpack_dyn {w : World} {most : Nat} {bs : List UInt8} {ls : Bool} (hlo : Lo w) (hw0 : 1 < w.heap.size) (a : Option Addr) (len cap : Nat) (H : Bs w a len cap bs) (hl : bs.length ≤ 1000000000) (hm : most ≤ 4194304) :
    Calls Tryd.prog 63 #[.slice a len cap, .int .i64 (most : Nat), .bool ls] w (UnpPost w bs most ls (infR most bs)) :=
  unpack_any (Ip.dynP most) (Ip.mono_dynP most) a len cap H hl hm (.inr (fun _ _ _ _ _ _ _ _ _ c hD hir hfx => block_2 hir hfx (hlo.kept c (fun h => h) hw0) (hD 1 hw0)))
theorem inflate_dyn {w : World} {most : Nat} {bs : List UInt8} (hlo : Lo w) (hw0 : 1 < w.heap.size) (a : Option Addr) (len cap : Nat) (H : Bs w a len cap bs) (hl : bs.length ≤ 1000000000) (hm : most ≤ 4194304) :
    Calls Tryd.prog 40 #[.slice a len cap, .int .i64 (most : Nat)] w (InfPost w (infR most bs)) :=
  inflate_any _ a len cap (unpack_dyn hlo hw0 a len cap H hl hm)
theorem isMost_no (m : Int) (w : World) (h : ¬ (0 ≤ m ∧ m ≤ 4194304)) : Calls Tryd.prog 74 #[.int .i64 m] w fun e w' => e = .returned (.bool false) ∧ w = w' := by
  refine (isMost_any m w).mono ?_
  rintro e w' ⟨rfl, rfl⟩
  rw [decide_eq_false h]
  exact ⟨rfl, rfl⟩
theorem unpack_range (a : Option Addr) (len cap : Nat) (m : Int) (ls : Bool) (w : World) (h : ¬ (0 ≤ m ∧ m ≤ 4194304)) :
    Calls Tryd.prog 63 #[.slice a len cap, .int .i64 m, .bool ls] w fun e w' => e = .returned (.tuple #[.pointer none, .iface 39 (.int .i64 7)]) ∧ w = w' := by
  have HM := Lib.hid (isMost_no m w h)
  clear h
  go_enter Tryd.func63, Tryd.ntmps63
  go_wp2_with fail
  refine HM.out.mono ?_
  rintro e w' ⟨rfl, rfl⟩
  go_wp2
  go_ret2
  exact ⟨rfl, rfl⟩
theorem inflate_range (a : Option Addr) (len cap : Nat) (m : Int) (w : World) (h : ¬ (0 ≤ m ∧ m ≤ 4194304)) :
    Calls Tryd.prog 40 #[.slice a len cap, .int .i64 m] w fun e w' => e = .returned (.tuple #[.slice none 0 0, .int .i64 0, .iface 39 (.int .i64 7)]) ∧ w = w' := by
  have HM := Lib.hid (unpack_range a len cap m false w h)
  clear h
  go_enter Tryd.func40, Tryd.ntmps40
  go_wp2_with fail
  refine HM.out.mono ?_
  rintro e w' ⟨rfl, rfl⟩
  go_wp2
  go_ret3
  exact ⟨rfl, rfl⟩
/-- What Tokens answers. -/
def TokPost (w : World) (r : Ip.Rs Unp) (e : Ending) (w' : World) : Prop :=
  match r with
  | .ok s _ => ∃ v, e = .returned (.tuple #[v, .nilIface]) ∧ w'.ownsRow w.heap.size 47 2 v s.2.length (tks s.2) ∧ s.2.length ≤ s.1.length ∧ s.1.length ≤ 4194304 ∧ Ch w w' (fun _ => False)
  | .err n => (n == 0) = false ∧ e = .returned (.tuple #[.slice none 0 0, .iface 39 (.int .i64 n)]) ∧ Ch w w' (fun _ => False)
set_option maxRecDepth 100000 in
theorem tokens_dyn {w : World} {most : Nat} {bs : List UInt8} (hlo : Lo w) (hw0 : 1 < w.heap.size) (a : Option Addr) (len cap : Nat) (H : Bs w a len cap bs) (hl : bs.length ≤ 1000000000) (hm : most ≤ 4194304) :
    Calls Tryd.prog 65 #[.slice a len cap, .int .i64 (most : Nat)] w (TokPost w (infR most bs)) := by
  have HH := Lib.hid (unpack_dyn (ls := true) hlo hw0 a len cap H hl hm)
  clear H hlo
  obtain ⟨r, hr⟩ : ∃ r, infR most bs = r := ⟨_, rfl⟩
  rw [hr] at HH ⊢
  clear hr
  go_enter Tryd.func65, Tryd.ntmps65
  go_wp2_with fail
  refine HH.out.mono ?_
  cases r with
  | err n =>
    rintro e w1 ⟨hn, rfl, hch⟩
    have HP : Hid (TokPost w (.err n) (.returned (.tuple #[.slice none 0 0, .iface 39 (.int .i64 n)])) w1) := Lib.hid ⟨hn, rfl, hch⟩
    clear hch hn HH
    go_wp2
    go_ret2
    exact HP.out
  | ok s q =>
    rintro e w1 ⟨gr, gb, D, p5, p6, rfl, hir, hch⟩
    obtain ⟨vb, cs, v, vl, k⟩ := hir
    have t4 : w1.cell? ⟨gr, 4, none⟩ = some vl := k.ou.cells.2.2.2
    have hol := k.ou.ol
    rw [if_pos rfl] at hol
    obtain ⟨al, cl, rfl⟩ : ∃ a c, vl = .slice a s.2.length c := by
      rcases own_nil_or hol with ⟨rfl, h0⟩ | ⟨g, cap, rfl, _⟩
      · exact ⟨none, 0, by rw [h0]⟩
      · exact ⟨_, cap, rfl⟩
    have HP : Hid (TokPost w (.ok s q) (.returned (.tuple #[.slice al s.2.length cl, .nilIface])) w1) := Lib.hid ⟨_, rfl, hol, k.ht, by have := k.hl; have := k.hm; omega, hch⟩
    clear k hch HH hol
    go_wp2
    go_ret2
    exact HP.out
end Go.Proofs.YtfgpmccmalddjaaDoor
end

section
namespace Go.Proofs.YtfgpmccmalddjaaDoor
open Go.RowKit

theorem below_of_ch {w w' : World} (c : Ch w w' (fun _ => False)) : Below w.heap.size w w' := ⟨c.os, c.tape, c.output, c.size, fun k hk => c.block k hk (fun h => h)⟩
end Go.Proofs.YtfgpmccmalddjaaDoor
end

section
namespace Go.Proofs.YtfgpmccmalddjaaDoor
open Go.RowKit

set_option maxRecDepth 100000 in
set_option maxHeartbeats 4000000 in
theorem checkWindow_yes {w : World} {most q : Nat} {bs : List UInt8} {s : Unp} (p : Nat) (hlo : Lo w) (hw0 : 1 < w.heap.size) (a : Option Addr) (len cap : Nat) (H : Bs w a len cap bs) (hl : bs.length ≤ 1000000) (hm : most ≤ 4194304) (hR : infR most bs = .ok s q) (hts : ∀ i, i < s.2.length → Tk.isTok (s.2.getD i (0, 0)) = true) (hwin : p ≤ 7 ∧ (p = 7 ∨ Zl.bey ((256 * 2 ^ p : Nat) : Int) s.2 = false)) :
    Calls Tryd.prog 41 #[.slice a len cap, .int .i64 (most : Nat), .int .i64 ((256 * 2 ^ p : Nat) : Int)] w fun e w' => e = .returned .nilIface ∧ Below w.heap.size w w' := by
  have hle := Zl.pow_le p hwin.1
  by_cases h7 : p = 7
  · subst h7
    clear H hR hwin hlo hts
    go_enter Tryd.func41, Tryd.ntmps41
    go_wp2
    go_ret
    exact ⟨rfl, Below.refl _ _⟩
  · have hlt := Zl.pow_lt p (by have := hwin.1; omega)
    have hb : Zl.bey ((256 * 2 ^ p : Nat) : Int) s.2 = false := by rcases hwin.2 with h | h; exact absurd h h7; exact h
    have HT := Lib.hid (tokens_dyn hlo hw0 a len cap H (by omega) hm)
    rw [hR] at HT
    obtain ⟨n, hn⟩ : ∃ n, 256 * 2 ^ p = n := ⟨_, rfl⟩
    rw [hn] at hlt hb ⊢
    have HB := Lib.hid hb
    have HS := Lib.hid hts
    have d0 : decide ((32768 : Int) ≤ (n : Int)) = false := by simp; omega
    clear H hR hwin hlo hb hn hle h7 hts
    go_enter Tryd.func41, Tryd.ntmps41
    go_wp2_with fail
    refine HT.out.mono ?_
    rintro e w1 ⟨v, rfl, own1, hsz, hsz2, hc1⟩
    obtain ⟨a1, c1, rfl, hts1⟩ := own_ts2 own1 (fun i hi => by
      have := Tk.tok_range (HS.out i hi)
      exact ⟨wf_int (by omega), wf_int (by omega)⟩)
    have H1 := Lib.hid (And.intro hts1 (below_of_ch hc1))
    clear own1 hc1 HT hts1
    go_wp2_with fail
    refine (beyond_any n w1).mono ?_
    rintro e w' ⟨rfl, rfl⟩
    have HBA := Lib.hid (below_alloc w1 (.cells #[.int .i64 (n : Nat)] 3))
    have HC := Lib.hid (containsFunc_any a1 s.2.length c1 s.2 n w1.heap.size (w1.alloc (.cells #[.int .i64 (n : Nat)] 3)) (H1.out.1.mono HBA.out) (by rw [cell_of_row _ _ _ _ _ (0, 0) (heap_alloc_last w1 _)]; rfl) (by simp) (by omega))
    rw [HB.out] at HC
    go_wp2_with fail
    refine HC.out.mono ?_
    rintro e w2 ⟨rfl, hb2⟩
    have H2 := Lib.hid (below_then H1.out.2 (below_then HBA.out hb2))
    clear hb2 HC
    go_wp2
    go_ret
    exact ⟨rfl, H2.out⟩
/-- What Unwrap answers of a good head, good packed bytes and the sum v behind them. -/
def UwPost (w : World) (s : Unp) (n : Nat) (v : Nat) (e : Ending) (w' : World) : Prop :=
  Below w.heap.size w w' ∧ ((v = Ad.adler s.1 ∧ ∃ x, e = .returned (.tuple #[x, .int .i64 ((2 + n + 4 : Nat) : Int), .nilIface]) ∧ w'.ownsRow w.heap.size 5 1 x s.1.length (bvs s.1)) ∨
    (v ≠ Ad.adler s.1 ∧ e = .returned (.tuple #[.slice none 0 0, .int .i64 0, .iface 39 (.int .i64 2)])))
set_option maxRecDepth 100000 in
set_option maxHeartbeats 8000000 in
theorem unwrap_yes {w : World} {most q : Nat} {r : List UInt8} {s : Unp} (p : Nat) (hlo : Lo w) (hw0 : 1 < w.heap.size) (a : Option Addr) (len cap : Nat) (H : Bs w a len cap (Zl.hd p ++ r)) (hl : r.length ≤ 100000) (hm : most ≤ 4194304)
    (hR : infR most r = .ok s q) (hts : ∀ i, i < s.2.length → Tk.isTok (s.2.getD i (0, 0)) = true) (hsl : s.1.length ≤ 4194304) (hwin : p ≤ 7 ∧ (p = 7 ∨ Zl.bey ((256 * 2 ^ p : Nat) : Int) s.2 = false)) (h4 : (q + 7) / 8 + 4 ≤ r.length) :
    Calls Tryd.prog 13 #[.slice a len cap, .int .i64 (most : Nat)] w (UwPost w s ((q + 7) / 8) (Pt.num ((r.drop ((q + 7) / 8)).take 4))) := by
  have hlen := H.hlen
  rw [hd_len] at hlen
  have hle := H.hle
  have hmx := H.hmax
  obtain ⟨b, off, rfl, _, _⟩ := H.at' 0 (by omega)
  have hc2 : ¬ cap = 2 := by omega
  have hr0 : r.length = len - 2 := by omega
  have HP := Lib.hid hwin.1
  have HRH := Lib.hid (readHead_yes p hwin.1 _ len cap r w H)
  have H2 := Lib.hid (show Bs w (some ⟨b, off + 2, none⟩) (len - 2) (cap - 2) r from (H.drop 2 (by omega) (some ⟨b, off + 2, none⟩) (fun _ => rfl)))
  have HIN : Hid (∀ w', Below w.heap.size w w' → Calls Tryd.prog 40 #[.slice (some ⟨b, off + 2, none⟩) (len - 2) (cap - 2), .int .i64 (most : Nat)] w' (InfPost w' (.ok s q))) := Lib.hid (fun w' hb => by
    have := inflate_dyn (hlo.kept (Ch.of_below (T := fun _ => False) hb) (fun h => h) hw0) (Nat.lt_of_lt_of_le hw0 hb.size) _ _ _ (H2.out.mono hb) (by omega) hm
    rw [hR] at this
    exact this)
  have HCW : Hid (∀ w', Below w.heap.size w w' → Calls Tryd.prog 41 #[.slice (some ⟨b, off + 2, none⟩) (len - 2) (cap - 2), .int .i64 (most : Nat), .int .i64 ((256 * 2 ^ p : Nat) : Int)] w' fun e w'' => e = .returned .nilIface ∧ Below w'.heap.size w' w'') := Lib.hid (fun w' hb =>
    checkWindow_yes p (hlo.kept (Ch.of_below (T := fun _ => False) hb) (fun h => h) hw0) (Nat.lt_of_lt_of_le hw0 hb.size) _ _ _ (H2.out.mono hb) (by omega) hm hR hts hwin)
  have d0 : decide ((most : Int) < 0) = false := by simp
  have d1 : decide ((4194304 : Int) < (most : Int)) = false := by simp; omega
  obtain ⟨n, hn⟩ : ∃ n, (q + 7) / 8 = n := ⟨_, rfl⟩
  rw [hn] at h4 ⊢
  have HN := Lib.hid hn
  have hn4 : n + 4 ≤ len - 2 := by omega
  obtain ⟨z, hz⟩ : ∃ z, Pt.num ((r.drop n).take 4) = z := ⟨_, rfl⟩
  have hzl : z < 4294967296 := by rw [← hz]; exact num_small (r.drop n) 4 (by omega)
  rw [hz]
  have HZ := Lib.hid hz
  have HR0 := Lib.hid hr0
  have HSL := Lib.hid hsl
  clear H hlo hR hts hwin hn hz hr0 h4 hsl
  obtain ⟨wn, hwn⟩ : ∃ wn : Nat, 256 * 2 ^ p = wn := ⟨_, rfl⟩
  rw [hwn] at HRH HCW
  clear hwn
  go_enter Tryd.func13, Tryd.ntmps13
  go_wp2_with fail
  refine HRH.out.mono ?_
  rintro e w1 ⟨rfl, hb1⟩
  have HB1 := Lib.hid hb1
  clear hb1 HRH
  go_wp2_with fail
  refine (HIN.out w1 HB1.out).mono ?_
  rintro e w2 ⟨v2, rfl, own2, hch2⟩
  dsimp only at *
  rw [HN.out]
  obtain ⟨a2, c2, rfl, hbs2⟩ := own_bs own2 (by have := HSL.out; omega)
  have HB2 := Lib.hid (below_then HB1.out (below_of_ch hch2))
  have O2 := Lib.hid (own_base own2 (fun g' hg' => Nat.le_trans HB1.out.size (own2.lt g' hg').1))
  have B2 := Lib.hid hbs2
  clear own2 hch2 hbs2 HIN
  go_wp2_with fail
  refine (HCW.out w2 HB2.out).mono ?_
  rintro e w3 ⟨rfl, hb3⟩
  have HB3 := Lib.hid (below_then HB2.out hb3)
  have O3 := Lib.hid (own_below O2.out hb3)
  have B3 := Lib.hid (B2.out.mono hb3)
  clear hb3 HCW O2 B2
  have i1 : (n : Int) ≤ ((len - 2 : Nat) : Int) := by omega
  have hcn : ¬ cap - 2 = n := by omega
  go_wp2_with fail
  refine (take_ok _ _ _ 4 (r.drop n) w3 ((H2.out.mono HB3.out).drop n (by omega) _ (fun _ => rfl)) (by omega) (by omega) (by omega) (by omega)).mono ?_
  rintro e w4 ⟨v4, rfl, own4, hb4⟩
  rw [HZ.out]
  obtain ⟨a4, c4, rfl⟩ : ∃ a4 c4, v4 = .slice a4 (len - 2 - n - 4) c4 := by
    rcases own_nil_or own4 with ⟨h1, h2⟩ | ⟨g, cap, h1, _⟩
    · exact ⟨_, _, by rw [h1, h2]⟩
    · exact ⟨_, _, h1⟩
  have HB4 := Lib.hid (below_then HB3.out hb4)
  have O4 := Lib.hid (own_below O3.out hb4)
  have B4 := Lib.hid (B3.out.mono hb4)
  clear own4 hb4 O3 B3 H2
  obtain ⟨x, hx⟩ : ∃ x, Ad.adler s.1 = x := ⟨_, rfl⟩
  have HX := Lib.hid hx
  have hxl : x < 4294967296 := by rw [← hx]; exact Zl.adler_lt _
  by_cases hzx : z = x
  · have HZX : Hid (z = Ad.adler s.1) := Lib.hid (by rw [hx]; exact hzx)
    have dd : ((z : Int) != (x : Int)) = false := by rw [hzx]; simp
    clear hx hzx
    go_wp2_with fail
    refine (adler_of x _ _ _ [⟨a2, s.1.length, c2, s.1⟩] _ (parts_new _ _ rfl _ 22 1 rfl (by omega) _ rfl ?_) (by rw [flat_one, HX.out])).mono ?_
    · intro t ht
      simp only [List.mem_singleton] at ht
      subst ht
      exact B4.out
    rintro e w5 ⟨rfl, hb5⟩
    have hb45 := below_then (below_alloc w4 _) hb5
    have HQ : Hid (UwPost w s n z (.returned (.tuple #[.slice a2 s.1.length c2, .int .i64 ((2 + n + 4 : Nat) : Int), .nilIface])) w5) := Lib.hid ⟨below_then HB4.out hb45, .inl ⟨HZX.out, _, rfl, own_below O4.out hb45⟩⟩
    have HI : Hid ((2 : Int) + (n : Int) + 4 = ((2 + n + 4 : Nat) : Int)) := Lib.hid (by omega)
    clear hb5 hb45
    go_wp2
    go_ret3
    have h9 := HQ.out
    rw [← HI.out] at h9
    exact h9
  · have HZX : Hid (z ≠ Ad.adler s.1) := Lib.hid (by rw [hx]; exact hzx)
    have dd : ((z : Int) != (x : Int)) = true := by simpa using fun e => hzx (by omega)
    clear hx hzx
    go_wp2_with fail
    refine (adler_of x _ _ _ [⟨a2, s.1.length, c2, s.1⟩] _ (parts_new _ _ rfl _ 22 1 rfl (by omega) _ rfl ?_) (by rw [flat_one, HX.out])).mono ?_
    · intro t ht
      simp only [List.mem_singleton] at ht
      subst ht
      exact B4.out
    rintro e w5 ⟨rfl, hb5⟩
    have hb45 := below_then (below_alloc w4 _) hb5
    have HQ := Lib.hid (below_then HB4.out hb45)
    clear hb5 hb45
    go_wp2
    go_ret3
    exact ⟨HQ.out, .inr ⟨HZX.out, rfl⟩⟩
end Go.Proofs.YtfgpmccmalddjaaDoor
end

section
namespace Go.Proofs.YtfgpmccmalddjaaDoor
open Go.RowKit

theorem num_nil (w : World) : Calls Tryd.prog 43 #[.nilIface] w fun e w' => e = .returned (.int .i64 0) ∧ w = w' := by
  go_enter Tryd.func43, Tryd.ntmps43
  go_wp2
  go_ret
  exact ⟨rfl, rfl⟩
theorem num_err (n : Int) (h0 : (n == 0) = false) (w : World) : Calls Tryd.prog 43 #[.iface 39 (.int .i64 n)] w fun e w' => e = .returned (.int .i64 n) ∧ w = w' := by
  have hta : ∀ (x : Int) (w : World), (Instr.typeAssert (.iface 39 (.int .i64 x)) 31 39 true).run Tryd.prog w = .ok (.tuple #[.int .i64 x, .bool true]) w := fun _ _ => by kernel_rfl
  go_enter Tryd.func43, Tryd.ntmps43
  go_wp2
  go_ret
  exact ⟨rfl, rfl⟩
end Go.Proofs.YtfgpmccmalddjaaDoor
end

section
namespace Go.Proofs.YtfgpmccmalddjaaDoor
open Go.RowKit

theorem is_yes (n : Int) (h0 : (n == 0) = false) (w : World) : Calls Tryd.prog 15 #[.iface 39 (.int .i64 n), .int .i64 n] w fun e w' => e = .returned (.bool true) ∧ w = w' := by
  have H0 := Lib.hid h0
  clear h0
  go_enter Tryd.func15, Tryd.ntmps15
  go_wp2_with fail
  refine (num_err n H0.out _).mono ?_
  rintro e w' ⟨rfl, rfl⟩
  go_wp2
  go_ret
  exact ⟨by simp, rfl⟩
end Go.Proofs.YtfgpmccmalddjaaDoor
end

section
namespace Go.Proofs.YtfgpmccmalddjaaDoor
open Go.RowKit

set_option maxRecDepth 100000 in
theorem alive07_val : infR 9 [3, 0, 0, 0, 0, 1] = .ok ([], []) 10 := by kernel_rfl
set_option maxRecDepth 100000 in
theorem alive07_val2 : infR 9 [3, 0, 0, 0, 0, 2] = .ok ([], []) 10 := by kernel_rfl
theorem alive07_num : Pt.num (([3, 0, 0, 0, 0, 1] : List UInt8).drop ((10 + 7) / 8) |>.take 4) = 1 ∧ Pt.num (([3, 0, 0, 0, 0, 2] : List UInt8).drop ((10 + 7) / 8) |>.take 4) = 2 ∧ Ad.adler [] = 1 := by decide
set_option maxRecDepth 100000 in
set_option maxHeartbeats 4000000 in
theorem alive07_any (w : World) (hlo : Lo w) (hw0 : 1 < w.heap.size) :
    Calls Tryd.prog 8 #[] w fun e w' => e = .returned (.bool true) ∧ Below w.heap.size w w' := by
  have HLO : Hid (∀ w', Below w.heap.size w w' → Lo w' ∧ 1 < w'.heap.size) := Lib.hid (fun w' hb => ⟨hlo.kept (Ch.of_below (T := fun _ => False) hb) (fun h => h) hw0, Nat.lt_of_lt_of_le hw0 hb.size⟩)
  have HU : Hid (∀ w' (a : Option Addr) (r : List UInt8), Below w.heap.size w w' → Bs w' a 8 8 (Zl.hd 7 ++ r) → r.length = 6 → infR 9 r = .ok ([], []) 10 → Calls Tryd.prog 13 #[.slice a 8 8, .int .i64 ((9 : Nat) : Int)] w' (UwPost w' ([], []) 2 (Pt.num ((r.drop ((10 + 7) / 8)).take 4)))) := Lib.hid (fun w' a r hb hbs hr hR =>
    unwrap_yes 7 (HLO.out w' hb).1 (HLO.out w' hb).2 a 8 8 hbs (by omega) (by omega) hR (fun i hi => absurd hi (by simp)) (by simp) ⟨by omega, .inl rfl⟩ (by omega))
  clear hlo hw0
  go_enter Tryd.func8, Tryd.ntmps8
  go_wp2_with fail
  have hb0 := bs_new w _ rfl [120, 1, 3, 0, 0, 0, 0, 1] 5 (0, 0) 8 rfl (by omega) _ rfl
  refine (HU.out _ _ [3, 0, 0, 0, 0, 1] (below_alloc w _) hb0 rfl alive07_val).mono ?_
  rw [alive07_num.1]
  rintro e w1 ⟨hb1, ⟨hx1, x, rfl, own1⟩ | ⟨h1, _⟩⟩
  rotate_left
  · exact absurd alive07_num.2.2.symm h1
  obtain ⟨a1, c1, rfl⟩ : ∃ a1 c1, x = .slice a1 0 c1 := by
    rcases own_nil_or own1 with ⟨h1, h2⟩ | ⟨g, cap, h1, _⟩
    · exact ⟨_, _, h1⟩
    · exact ⟨_, _, h1⟩
  have HB1 := Lib.hid (below_then (below_alloc w _) hb1)
  clear hb0 hb1 own1 hx1
  go_wp2_with fail
  have hb0 := bs_new w1 _ rfl [120, 1, 3, 0, 0, 0, 0, 2] 5 (0, 0) 8 rfl (by omega) _ rfl
  refine (HU.out _ _ [3, 0, 0, 0, 0, 2] (below_then HB1.out (below_alloc w1 _)) hb0 rfl alive07_val2).mono ?_
  rw [alive07_num.2.1]
  rintro e w2 ⟨hb2, ⟨h1, _⟩ | ⟨hx2, rfl⟩⟩
  · exact absurd (h1.trans alive07_num.2.2) (by omega)
  have HB2 := Lib.hid (below_then HB1.out (below_then (below_alloc w1 _) hb2))
  clear hb0 hb2 HU hx2
  go_wp2_with fail
  refine (is_yes 2 rfl _).mono ?_
  rintro e w' ⟨rfl, rfl⟩
  go_wp2
  go_ret
  exact ⟨rfl, HB2.out⟩
end Go.Proofs.YtfgpmccmalddjaaDoor
end

section
namespace Go.Proofs.YtfgpmccmalddjaaDoor
open Go.RowKit

theorem i64_xor_nat (a b : Nat) (ha : a < 9223372036854775808) (hb : b < 9223372036854775808) : bits .xor .i64 (a : Int) (b : Int) = ((a ^^^ b : Nat) : Int) := by
  have h : a ^^^ b < 2 ^ 63 := Nat.xor_lt_two_pow (by omega) (by omega)
  show IntKind.i64.wrap ((BitVec.ofInt 64 (a : Int) ^^^ BitVec.ofInt 64 (b : Int)).toNat : Int) = _
  rw [BitVec.toNat_xor, ofInt_64 a ha, ofInt_64 b hb, i64_wrap_small _ (by omega)]
theorem xor_full (a : Nat) (h : a < 65536) : a ^^^ (65535 - a) = 65535 := by
  apply Nat.eq_of_testBit_eq
  intro i
  rw [Nat.testBit_xor, show 65535 - a = 2 ^ 16 - (a + 1) by omega, Nat.testBit_two_pow_sub_succ (by omega), show (65535 : Nat) = 2 ^ 16 - 1 by rfl, Nat.testBit_two_pow_sub_one]
  by_cases hi : i < 16
  · simp [hi]
  · have : a.testBit i = false := Nat.testBit_lt_two_pow (Nat.lt_of_lt_of_le h (Nat.pow_le_pow_right (n := 2) (by omega) (by omega : 16 ≤ i)))
    simp [hi, this]
theorem lob_append (x y : List UInt8) : lob (x ++ y) = lob x ++ lob y := by unfold lob Bt.rbits; rw [List.flatMap_append]
theorem lob_cons (x : UInt8) (y : List UInt8) : lob (x :: y) = Bt.dg false x.toNat 8 ++ lob y := rfl
namespace Ip
theorem take_byte (pre : List UInt8) (x : UInt8) (post : List UInt8) : take 8 (lob (pre ++ x :: post)) (8 * pre.length) = .ok x.toNat (8 * pre.length + 8) := by
  unfold take
  rw [if_pos (by rw [lob_length, List.length_append, List.length_cons]; omega), lob_append, List.drop_left' (lob_length pre), lob_cons, List.take_left' (Bt.dg_length false x.toNat 8), Bt.num_dg false x.toNat 8 (u8_lt x)]
theorem nums_bytes : ∀ (xs pre post : List UInt8), numbers (List.replicate xs.length 8) (lob (pre ++ (xs ++ post))) (8 * pre.length) = .ok (xs.map UInt8.toNat) (8 * (pre.length + xs.length))
  | [], pre, post => rfl
  | x :: xs, pre, post => by
    show bind (take 8) (fun n => bind (numbers (List.replicate xs.length 8)) fun ns => pure (n :: ns)) _ _ = _
    rw [List.cons_append, bind_ok (take_byte pre x (xs ++ post))]
    have ih := nums_bytes xs (pre ++ [x]) post
    rw [List.length_append, List.length_singleton, List.append_assoc, List.singleton_append, show 8 * (pre.length + 1) = 8 * pre.length + 8 by omega] at ih
    rw [bind_ok ih]
    simp only [pure, List.map_cons, List.length_cons]
    congr 1; omega
theorem dg_two (n : Nat) : Bt.dg false n 16 = Bt.dg false (n % 256) 8 ++ Bt.dg false (n / 256) 8 := by
  have h1 : ∀ i, i < 8 → (n % 256).testBit i = n.testBit i := fun i hi => by
    rw [show (256 : Nat) = 2 ^ 8 by rfl, Nat.testBit_mod_two_pow]; simp [hi]
  have h2 : ∀ i, (n / 256).testBit i = n.testBit (8 + i) := fun i => by
    rw [show (256 : Nat) = 2 ^ 8 by rfl, Nat.testBit_div_two_pow, Nat.add_comm]
  unfold Bt.dg
  simp only [Bool.false_eq_true, if_false]
  rw [show (16 : Nat) = 8 + 8 by rfl, List.range_add, List.map_append, List.map_map]
  congr 1
  · exact List.map_congr_left (fun i hi => (h1 i (List.mem_range.1 hi)).symm)
  · exact List.map_congr_left (fun i _ => (h2 i).symm)
theorem take_two (pre : List UInt8) (x y : UInt8) (post : List UInt8) : take 16 (lob (pre ++ x :: y :: post)) (8 * pre.length) = .ok (x.toNat + 256 * y.toNat) (8 * pre.length + 16) := by
  have hx := u8_lt x
  have hy := u8_lt y
  have e : Bt.dg false x.toNat 8 ++ Bt.dg false y.toNat 8 = Bt.dg false (x.toNat + 256 * y.toNat) 16 := by
    rw [dg_two, show (x.toNat + 256 * y.toNat) % 256 = x.toNat by omega, show (x.toNat + 256 * y.toNat) / 256 = y.toNat by omega]
  unfold take
  rw [if_pos (by rw [lob_length, List.length_append, List.length_cons, List.length_cons]; omega), lob_append, List.drop_left' (lob_length pre), lob_cons, lob_cons, ← List.append_assoc, e, List.take_left' (Bt.dg_length false _ 16), Bt.num_dg false _ 16 (by omega)]
/-- Literals, as tokens. -/
def lits (xs : List UInt8) : List Tok := xs.map fun x => (0, ((x.toNat : Nat) : Int))
theorem adds_lits (most : Nat) (u : List Bool) (p : Nat) : ∀ (xs : List UInt8) (s : Unp), s.1.length + xs.length ≤ most → addsP most (xs.map UInt8.toNat) s u p = .ok (s.1 ++ xs, s.2 ++ lits xs) p
  | [], s, h => by simp [addsP, pure, lits]
  | x :: xs, s, h => by
    rw [List.length_cons] at h
    have ea : addP most (0, ((x.toNat : Nat) : Int)) s u p = .ok (s.1 ++ [x], s.2 ++ [(0, ((x.toNat : Nat) : Int))]) p := by
      have e1 : Tk.add most s.1 (0, ((x.toNat : Nat) : Int)) = (0, s.1 ++ [x]) := by
        unfold Tk.add Tk.size Tk.put
        simp
        omega
      have e2 : Tk.put s.1 (0, ((x.toNat : Nat) : Int)) = s.1 ++ [x] := by unfold Tk.put; simp
      unfold addP
      rw [e1, if_pos rfl, e2]
    show bind (addP most (0, ((x.toNat : Nat) : Int)) s) (addsP most (xs.map UInt8.toNat)) u p = _
    rw [bind_ok ea, adds_lits most u p xs _ (by rw [List.length_append]; simp; omega)]
    simp [lits]
/-- What stands in front of a block's bytes: its mark and kind, how many there are, and that number turned over. -/
def head (last : UInt8) (n : Nat) : List UInt8 := [last, UInt8.ofNat n, UInt8.ofNat (n / 256), UInt8.ofNat (255 - n % 256), UInt8.ofNat (255 - n / 256 % 256)]
theorem head_length (last : UInt8) (n : Nat) : (head last n).length = 5 := rfl
theorem stored_blk (most : Nat) (s : Unp) (hs : s.1.length ≤ most) (last : UInt8) (pre xs post : List UInt8) (hx : xs.length < 65536) :
    storedP most s (lob (pre ++ (head last xs.length ++ (xs ++ post)))) (8 * pre.length + 3) =
      if s.1.length + xs.length ≤ most then .ok (s.1 ++ xs, s.2 ++ lits xs) (8 * (pre.length + 5 + xs.length)) else .err 4 := by
  obtain ⟨n, hn⟩ : ∃ n, xs.length = n := ⟨_, rfl⟩
  rw [hn] at hx ⊢
  have b0 : (UInt8.ofNat n).toNat = n % 256 := by simp
  have b1 : (UInt8.ofNat (n / 256)).toNat = n / 256 := by simp; omega
  have b2 : (UInt8.ofNat (255 - n % 256)).toNat = 255 - n % 256 := by simp; omega
  have b3 : (UInt8.ofNat (255 - n / 256 % 256)).toNat = 255 - n / 256 := by simp; omega
  have l5 : (pre ++ [last]).length = pre.length + 1 := by simp
  have l7 : (pre ++ [last, UInt8.ofNat n, UInt8.ofNat (n / 256)]).length = pre.length + 3 := by simp
  have l9 : (pre ++ head last n).length = pre.length + 5 := by simp [head]
  have t1 := take_two (pre ++ [last]) (UInt8.ofNat n) (UInt8.ofNat (n / 256)) (UInt8.ofNat (255 - n % 256) :: UInt8.ofNat (255 - n / 256 % 256) :: (xs ++ post))
  have t2 := take_two (pre ++ [last, UInt8.ofNat n, UInt8.ofNat (n / 256)]) (UInt8.ofNat (255 - n % 256)) (UInt8.ofNat (255 - n / 256 % 256)) (xs ++ post)
  have t3 := nums_bytes xs (pre ++ head last n) post
  rw [l5, b0, b1, List.append_assoc] at t1
  rw [l7, b2, b3, List.append_assoc] at t2
  rw [l9, hn, List.append_assoc] at t3
  have e1 : n % 256 + 256 * (n / 256) = n := by omega
  have e2 : 255 - n % 256 + 256 * (255 - n / 256) = 65535 - n := by omega
  rw [e1] at t1
  rw [e2] at t2
  have hU : ∃ U, pre ++ (head last n ++ (xs ++ post)) = U := ⟨_, rfl⟩
  obtain ⟨U, hU⟩ := hU
  have u1 : pre ++ ([last] ++ UInt8.ofNat n :: UInt8.ofNat (n / 256) :: UInt8.ofNat (255 - n % 256) :: UInt8.ofNat (255 - n / 256 % 256) :: (xs ++ post)) = U := hU
  have u2 : pre ++ ([last, UInt8.ofNat n, UInt8.ofNat (n / 256)] ++ UInt8.ofNat (255 - n % 256) :: UInt8.ofNat (255 - n / 256 % 256) :: (xs ++ post)) = U := hU
  rw [u1] at t1
  rw [u2] at t2
  rw [hU] at t3 ⊢
  have a1 : align (lob U) (8 * pre.length + 3) = .ok () (8 * (pre.length + 1)) := by unfold align; congr 1; omega
  have k1 : numbers [16, 16] (lob U) (8 * (pre.length + 1)) = .ok [n, 65535 - n] (8 * (pre.length + 5)) := by
    show bind (take 16) (fun n => bind (numbers [16]) fun ns => pure (n :: ns)) _ _ = _
    rw [bind_ok t1, show 8 * (pre.length + 1) + 16 = 8 * (pre.length + 3) by omega]
    show bind (bind (take 16) (fun n => bind (numbers []) fun ns => pure (n :: ns))) (fun ns => pure (n :: ns)) _ _ = _
    rw [bind2_ok t2, show 8 * (pre.length + 3) + 16 = 8 * (pre.length + 5) by omega]
    rfl
  unfold storedP
  rw [bind_ok a1, bind_ok k1]
  show storedK most s n (65535 - n) (lob U) (8 * (pre.length + 5)) = _
  have hxr : bits .xor .i64 ((n : Nat) : Int) ((65535 - n : Nat) : Int) = 65535 := by
    rw [i64_xor_nat n (65535 - n) (by omega) (by omega), xor_full n hx]; rfl
  unfold storedK
  rw [if_pos hxr]
  by_cases hf : s.1.length + n ≤ most
  · rw [if_pos (show n ≤ most - s.1.length by omega), if_pos hf, bind_ok t3, adds_lits most _ _ xs s (by rw [hn]; exact hf)]
  · rw [if_neg (show ¬ n ≤ most - s.1.length by omega), if_neg hf]
    rfl
end Ip
end Go.Proofs.YtfgpmccmalddjaaDoor
end

section
namespace Go.Proofs.YtfgpmccmalddjaaDoor
open Go.RowKit

namespace Ip
theorem lob_take (l : List UInt8) : ∀ n, n ≤ l.length → lob (l.take n) = (lob l).take (8 * n) := fun n hn => by
  have e : lob l = lob (l.take n) ++ lob (l.drop n) := by rw [← lob_append, List.take_append_drop]
  rw [e, List.take_left' (by rw [lob_length, List.length_take]; omega)]
theorem lob_div (l : List UInt8) : 8 ∣ (lob l).length := by rw [lob_length]; exact Nat.dvd_mul_right 8 _
theorem locU (most : Nat) : Loc (unpP (dynP most) most) := loc_unpP (fun s => loc_dynP most s) most
theorem nums_three {u : List Bool} {p q : Nat} {ns : List Nat} (h : numbers [1, 2] u p = .ok ns q) : q = p + 3 := (nums12 h).1
end Ip
variable {most q : Nat} {l : List UInt8} {s : Unp}
theorem infR_le (h : infR most l = .ok s q) : 3 ≤ q ∧ q ≤ 8 * l.length := by
  have h1 := (Ip.locU most).le (lob l) 0 s q h (Nat.zero_le _) (Ip.lob_div l)
  rw [lob_length] at h1
  refine ⟨?_, h1.2⟩
  unfold infR Ip.unpP at h
  obtain ⟨f, hf⟩ : ∃ f, Ip.big = f + 1 := ⟨9999999999, rfl⟩
  rw [hf] at h
  obtain ⟨x, r, h2, h3⟩ := Ip.bind_inv (show Ip.bind (Ip.unpStep (Ip.dynP most) most ([], [])) (Ip.next (Ip.loop (Ip.unpStep (Ip.dynP most) most) f)) (lob l) 0 = .ok s q from h)
  obtain ⟨ns, r1, h4, h5⟩ := Ip.bind_inv h2
  have e := Ip.nums_three h4
  have m1 := Ip.mono_bind (Ip.mono_blockP (Ip.mono_dynP most) most ([], []) (ns.getD 1 0)) (fun s' => Ip.mono_pure (if ns.getD 0 0 = 1 then Sum.inr s' else Sum.inl s')) _ _ _ _ h5
  have m2 : r ≤ q := by
    cases x with
    | inl s2 => exact Ip.mono_loop (fun s => Ip.mono_bind (Ip.mono_numbers _) fun ns => Ip.mono_bind (Ip.mono_blockP (Ip.mono_dynP most) most s _) fun s' => Ip.mono_pure _) f s2 _ _ _ _ h3
    | inr s2 =>
      obtain ⟨_, rfl⟩ := Ip.pure_inv (u := lob l) h3
      exact Nat.le_refl _
  omega
theorem infR_ext (h : infR most l = .ok s q) (l' : List UInt8) : infR most (l.take ((q + 7) / 8) ++ l') = .ok s q := by
  have hq := infR_le h
  have hn : (q + 7) / 8 ≤ l.length := by omega
  refine (Ip.locU most).ext (lob l) _ 0 s q h (Nat.zero_le _) (Ip.lob_div l) (Ip.lob_div _) ?_ ?_
  · rw [lob_append, Ip.lob_take l _ hn, List.take_append_of_le_length (by rw [List.length_take, lob_length]; omega), List.take_take, Nat.min_eq_left (by omega)]
  · rw [lob_length, List.length_append, List.length_take]; omega
theorem infR_cut (h : infR most l = .ok s q) : infR most (l.take ((q + 7) / 8 - 1)) = .err 8 := by
  have hq := infR_le h
  have hn : (q + 7) / 8 - 1 ≤ l.length := by omega
  have hl : (lob (l.take ((q + 7) / 8 - 1))).length = 8 * ((q + 7) / 8 - 1) := by rw [lob_length, List.length_take]; omega
  refine (Ip.locU most).cut (lob l) _ 0 s q h (Nat.zero_le _) (Ip.lob_div l) (Ip.lob_div _) ?_ (Nat.zero_le _) (by rw [hl]; omega)
  rw [hl]; exact Ip.lob_take l _ hn
theorem infR_down (h : infR most l = .ok s q) : infR s.1.length l = .ok s q := Ip.down_unpP h
theorem infR_val (h : infR most l = .ok s q) : Tk.upto most s.2 s.2.length = (0, s.1) := Ip.val_unp h
theorem infR_toks (h : infR most l = .ok s q) : ∀ i, i < s.2.length → Tk.isTok (s.2.getD i (0, 0)) = true := fun i hi => by
  have hv := infR_val h
  by_cases hz : Tk.isTok (s.2.getD i (0, 0)) = true
  · exact hz
  · exfalso
    have hk : ∀ n, n ≤ s.2.length → (Tk.upto most s.2 n).1 = 0 := fun n hn => by
      by_cases h0 : (Tk.upto most s.2 n).1 = 0
      · exact h0
      · have := Tk.upto_stuck h0 s.2.length hn
        rw [hv] at this
        rw [← this] at h0
        exact absurd rfl h0
    have h1 := hk i (by omega)
    have h2 := hk (i + 1) (by omega)
    rw [Tk.upto, if_pos h1, Tk.stp, if_neg hz] at h2
    exact absurd h2 (by decide)
theorem infR_exp (h : infR most l = .ok s q) (hm : most ≤ 4194304) : Tk.exp (most : Int) s.2 = (0, s.1) := by
  unfold Tk.exp
  rw [if_pos (by omega)]
  exact infR_val h
end Go.Proofs.YtfgpmccmalddjaaDoor
end

section
namespace Go.Proofs.YtfgpmccmalddjaaDoor
open Go.ChangeShapes Go.WideShapes Go.ChangeAt Go.RowKit

theorem laid_is : (Rows.laid_burnish_inflate_lengthOrder : DataW Unit) = .agg (Ip.order.map fun n => .lit (.int .i64 ((n : Nat) : Int))) := by kernel_rfl
theorem lo_of_laid {W : World} (h : laidMetH Tryd.prog [("burnish/inflate.lengthOrder", Rows.laid_burnish_inflate_lengthOrder)] W) : Lo W ∧ 1 < W.heap.size := by
  rw [MakeChecks.laidMetH_plain _ _ _ (by kernel_rfl)] at h
  obtain ⟨ps, ⟨g, t, cs, fuel, p, q, hg, ht, hv, hd, _, _⟩, _, _⟩ := h
  obtain rfl := Option.some.inj ((show Tryd.prog.globalNamed "burnish/inflate.lengthOrder" = some 1 by kernel_rfl).symm.trans hg)
  obtain rfl := Option.some.inj ((show (Tryd.prog.globals[1]?).map (·.type) = some 193 by kernel_rfl).symm.trans ht)
  obtain ⟨xs, m, _, ex, _, hl, hel⟩ := DataW.trod_array Tryd.underlying193 hd
  have c5 : Tryd.prog.cellsOf 3 = 1 := by kernel_rfl
  have hcell : Lo W := fun r hr => by
    have hE := hel r hr
    rw [c5, Nat.mul_one, List.getElem?_eq_getElem (by omega)] at hE
    obtain ⟨z, e1, e2, _⟩ := DataW.trod_int Tryd.underlying3 hE
    have hlen : Ip.order.length = 19 := by rfl
    have e3 : (xs.map (·.1)) = Ip.order.map fun n => .lit (.int .i64 ((n : Nat) : Int)) := by
      have := (Prod.mk.inj ex).1
      rw [laid_is] at this
      exact (DataW.agg.inj this).symm
    have e4 : (xs.map (·.1))[r]? = (Ip.order.map fun n => (DataW.lit (.int .i64 ((n : Nat) : Int)) : DataW Unit))[r]? := by rw [e3]
    rw [List.getElem?_map, List.getElem?_map, List.getElem?_eq_getElem (by omega : r < xs.length), List.getElem?_eq_getElem (by omega : r < Ip.order.length), e2] at e4
    have hz : z = ((Ip.order.getD r 0 : Nat) : Int) := by
      simp only [Option.map_some, Option.some.injEq, DataW.lit.injEq, Lit.int.injEq, true_and] at e4
      rw [e4, List.getD, List.getElem?_eq_getElem (by omega : r < Ip.order.length)]; rfl
    rw [World.var?_cell hg hv r, ← hz]
    have : cs.toList[r]? = some (.int .i64 z) := by
      have h0 : ((cs.toList.drop r).take 1)[0]? = some (.int .i64 z) := by rw [e1]; rfl
      simpa using h0
    simpa using this
  refine ⟨hcell, ?_⟩
  have h0 := hcell 0 (by omega)
  rcases Nat.lt_or_ge 1 W.heap.size with hz | hz
  · exact hz
  · exfalso
    have hn : W.heap[1]? = none := Array.getElem?_eq_none (by omega)
    simp [World.cell?, hn] at h0
end Go.Proofs.YtfgpmccmalddjaaDoor
end

section
namespace Go.Proofs.YtfgpmccmalddjaaDoor
open Go.RowKit

def DigitsPost (w : World) (h : Bool) (n c : Nat) (e : Ending) (w' : World) : Prop :=
  ∃ v, e = .returned v ∧ w'.ownsRow w.heap.size 3 1 v c (ivs (bi (Bt.dg h n c))) ∧ Below w.heap.size w w'
theorem Bt.bit_mod (n j : Nat) : ((n / 2 ^ j % 2 : Nat) : Int) = ((n.testBit j).toNat : Int) := by
  rw [Nat.testBit_eq_decide_div_mod_eq]
  rcases Nat.mod_two_eq_zero_or_one (n / 2 ^ j) with h | h <;> simp [h]
theorem Bt.dg_low (n j : Nat) : Bt.dg false n (j + 1) = Bt.dg false n j ++ [n.testBit j] := by simp [Bt.dg, List.range_succ]
theorem Bt.dg_high (n j : Nat) : Bt.dg true n (j + 1) = [n.testBit j] ++ Bt.dg true n j := by
  simp only [Bt.dg, if_true, List.range_succ_eq_map, List.map_cons, List.map_map]
  simp only [List.singleton_append, List.cons.injEq]
  refine ⟨by congr 1, ?_⟩
  apply List.map_congr_left
  intro i _
  simp only [Function.comp]
  congr 1; omega
set_option maxHeartbeats 1000000 in
theorem digits_any (h : Bool) (n c : Nat) (w : World) (hc : c ≤ 32) (hn : n ≤ 9223372036854775807) :
    Calls Tryd.prog 50 #[.int .i64 n, .int .i64 c, .bool h] w (DigitsPost w h n c) := by
  go_enter Tryd.func50, Tryd.ntmps50
  go_wp2
  go_loopw [0, 7, 8] (fun x v i wr => ∃ j : Nat, j ≤ c ∧ i = .int .i64 j ∧ x = .int .i64 (n / 2 ^ j : Nat) ∧ Below w.heap.size w wr ∧ Hid (wr.ownsRow w.heap.size 3 1 v j (ivs (bi (Bt.dg h n j))))) (fun _ _ i _ => c - (intOf i).toNat)
  case atStart => exact ⟨0, by omega, rfl, by simp, Below.refl _ _, Lib.hid (World.ownsRow_nil _ _ _ _)⟩
  case round =>
    obtain ⟨j, hj, rfl, rfl, hb, HO⟩ := hrel
    have hz := hb.size
    have hle : n / 2 ^ j ≤ n := Nat.div_le_self _ _
    have HN := Lib.hid (show n / 2 ^ (j + 1) = n / 2 ^ j / 2 by rw [Nat.pow_succ, Nat.div_div_eq_div_mul])
    have HX := Lib.hid (show ((n / 2 ^ j : Nat) : Int) % 2 = ((n.testBit j).toNat : Int) by rw [← Bt.bit_mod]; omega)
    generalize n / 2 ^ j = q at *
    by_cases hlt : j < c
    · cases h
      · have hsrc : SrcRow (wr.alloc (.cells #[Value.int .i64 ((q : Int) % 2)] 3)) (some ⟨wr.heap.size, 0, none⟩) 1 1 (ivs (bi [n.testBit j])) 1 := by
          have := src_int wr ((q : Int) % 2)
          rw [HX.out] at this ⊢; exact this
        have H1 := Lib.hid (HO.out.alloc (.cells #[Value.int .i64 ((q : Int) % 2)] 3))
        go_wp2_with (at_builtin; refine wpl_append tyI rfl _ _ rfl H1.out hsrc rfl rfl (by omega) (by omega) (by simp; omega) ?_)
        intro v2 w2 own2 hg2 _
        have hb2 : Below w.heap.size w w2 := (hb.alloc hz _).grown hg2 (by simp; omega) (fun k hk => (H1.out.lt k hk).1)
        rw [← ivs_append, ← bi_append, ← Bt.dg_low] at own2
        have H2 := Lib.hid own2
        clear own2 hg2 hsrc H1 HO hb
        go_wp2
        go_roundw
        case rel => exact ⟨j + 1, by omega, by go_num, int_eq (by rw [HN.out]; omega), hb2, H2⟩
        case measure => simp [intOf]; omega
      · obtain ⟨va, vc, rfl, his⟩ := own_is HO.out (bi_wf _)
        have hsrc := (his.mono (below_alloc wr (.cells #[Value.int .i64 ((q : Int) % 2)] 3))).src
        have H1 := Lib.hid (own_int wr w.heap.size ((q : Int) % 2) hz)
        clear his
        go_wp2_with (at_builtin; refine wpl_append tyI rfl _ _ rfl H1.out hsrc rfl rfl (by omega) (by omega) (by simp; omega) ?_)
        intro v2 w2 own2 hg2 _
        have hb2 : Below w.heap.size w w2 := (hb.alloc hz _).grown hg2 (by simp; omega) (fun k hk => (H1.out.lt k hk).1)
        have e1 : ivs [(q : Int) % 2] = ivs (bi [n.testBit j]) := by rw [HX.out]; rfl
        rw [e1, ← ivs_append, ← bi_append, ← Bt.dg_high, Nat.add_comm 1 j] at own2
        have H2 := Lib.hid own2
        clear own2 hg2 hsrc H1 HO hb e1
        go_wp2
        go_roundw
        case rel => exact ⟨j + 1, by omega, by go_num, int_eq (by rw [HN.out]; omega), hb2, H2⟩
        case measure => simp [intOf]; omega
    · obtain rfl : c = j := by omega
      go_wp2
      go_ret
      exact ⟨_, rfl, HO.out, hb⟩
end Go.Proofs.YtfgpmccmalddjaaDoor
end

section
namespace Go.Proofs.YtfgpmccmalddjaaDoor
open Go.RowKit

theorem Bt.numH_take (l : List Bool) (k : Nat) (h : k < l.length) : Bt.numH (l.take (k + 1)) = 2 * Bt.numH (l.take k) + (l.getD k false).toNat := by
  rw [List.take_succ_eq_append_getElem h, Bt.numH_snoc]
  simp [List.getD, List.getElem?_eq_getElem h]
theorem Bt.numH_lt (l : List Bool) : Bt.numH l < 2 ^ l.length := by
  have := Bt.num_lt true l
  simpa [Bt.num] using this
theorem number_any (h : Bool) (a : Option Addr) (len cap : Nat) (l : List Bool) (w : World) (H : Is .i64 w a len cap (bi l)) (hl : len ≤ 32) :
    Calls Tryd.prog 51 #[.slice a len cap, .bool h] w fun e w' => e = .returned (.int .i64 (Bt.num h l : Nat)) ∧ w = w' := by
  have hlen : l.length = len := by have := H.hlen; rwa [bi_length] at this
  have HL := Lib.hid hlen
  clear hlen
  obtain ⟨r, hr⟩ : ∃ r, (if h then l else l.reverse) = r := ⟨_, rfl⟩
  have hrl : r.length = len := by rw [← hr]; split <;> simp [HL.out]
  have HR := Lib.hid hr
  have HRL := Lib.hid hrl
  clear hr hrl
  go_enter Tryd.func51, Tryd.ntmps51
  go_wp2
  go_loop [5, 6] (fun x i => ∃ j : Nat, j ≤ len ∧ i = .int .i64 j ∧ x = .int .i64 (Bt.numH (r.take j) : Nat)) (fun _ i => len - (intOf i).toNat)
  case atStart => exact ⟨0, by omega, rfl, rfl⟩
  case round =>
    obtain ⟨j, hj, rfl, rfl⟩ := hrel
    have hnl : Bt.numH (r.take j) < 4294967296 := by
      have h1 := Bt.numH_lt (r.take j)
      have h2 := Bt.pow_le (r.take j).length 32 (by rw [List.length_take, HRL.out]; omega)
      omega
    by_cases hlt : j < len
    · have HN := Lib.hid (Bt.numH_take r j (by rw [HRL.out]; exact hlt))
      cases h
      · obtain ⟨b, off, rfl, hb, hcell⟩ := H.at' (len - 1 - j) (by omega)
        rw [bi_getD, show l.getD (len - 1 - j) false = r.getD j false by
          rw [← HR.out]; simp only [Bool.false_eq_true, if_false, List.getD]; rw [List.getElem?_reverse (by rw [HL.out]; exact hlt), HL.out]] at hcell
        have hbt : (r.getD j false).toNat < 2 := Bool.toNat_lt _
        generalize (r.getD j false).toNat = t at *
        generalize Bt.numH (r.take j) = q at *
        have hidx : (len : Int) - 1 - j = ((len - 1 - j : Nat) : Int) := by omega
        generalize len - 1 - j = k at *
        go_wp2
        go_round
        case rel => exact ⟨j + 1, by omega, by go_num, int_eq (by rw [HN.out]; omega)⟩
        case measure => simp [intOf]; omega
      · obtain ⟨b, off, rfl, hb, hcell⟩ := H.at' j hlt
        rw [bi_getD, show l.getD j false = r.getD j false by rw [← HR.out]; rfl] at hcell
        have hbt : (r.getD j false).toNat < 2 := Bool.toNat_lt _
        generalize (r.getD j false).toNat = t at *
        generalize Bt.numH (r.take j) = q at *
        go_wp2
        go_round
        case rel => exact ⟨j + 1, by omega, by go_num, int_eq (by rw [HN.out]; omega)⟩
        case measure => simp [intOf]; omega
    · obtain rfl : len = j := by omega
      go_wp2
      go_ret
      exact ⟨ret_int (by rw [List.take_of_length_le (by rw [HRL.out]; exact Nat.le_refl _), Bt.num, HR.out]), rfl⟩
end Go.Proofs.YtfgpmccmalddjaaDoor
end
