/-
  For every list l and every two numbers step and more: of the encoding that Go's fano.Make makes of at most 120 numbers that do not fall, every number is returned by fano.At and none behind them, fano.May holds, and the high part has at most three bits a number.
  The card is tied: the library's table math/bits.deBruijn64tab holds, when the call begins, what the program's own text lays (the tie is given with the seat; that nothing else writes the table is the translator's report).
-/
import Derived.Test.YtmlekhgjnhnjlaaDoorRows
import Derived.Test.YtmlekhgjnhnjlaaDoorTie
import Derived.Test.YtmlekhgjnhnjlaaDoorCards
import Derived.Test.YtmlekhgjnhnjlaaDoorFrame
import Derived.Test.YtmlekhgjnhnjlaaDoorFanoAsk
import Derived.Test.YtmlekhgjnhnjlaaDoorKeep5
import Derived.WalkKit
import Derived.ProofKit
import Derived.OpenShut
import Derived.ChangeOld
import Derived.Below
import Derived.Carry
import Derived.SizedLaws
import Derived.Deep.RegionWith
import Derived.Deep.RegionHeld3
import Derived.LaidMore
import Derived.Stop.Joined
import Derived.Lib.LaidTab
import Derived.SevenTiedAt
namespace Go.Proofs.YtmlekhgjnhnjlaaDoor.fanoBack
open Go.ChangeShapes Go.WideShapes Go.ChangeAt Go.RowKit Words
set_option linter.unusedVariables false

theorem own : ownKnob Tryd.prog.godebug = none := by kernel_rfl
theorem laidOut : laidOutB Tryd.prog = true := by kernel_rfl
theorem made_enc {B : Nat} {ns : List Nat} (hB : B ≤ 1048576) (hn : ns.length ≤ 300) (hR : Rises B ns) : Enc B ns.length (fw ns.length B : Nat) (packWords (fw ns.length B) (flow (fw ns.length B) ns)) (fhigh B ns).length (rowOf (fhigh B ns)) ns B :=
  ⟨rfl, hB, hn, hR, rfl, rfl, rfl, rfl, rfl⟩


set_option maxHeartbeats 1000000 in
/-- The walk: the Go text returns true, and writes nothing that was there. -/
theorem walk (A0 : Option Addr) (l0 : List Int) (c0 : Nat) (a1 : Int) (a2 : Int) (w : World) (hT : Tab w) (hle0 : l0.length ≤ c0) (hcap0 : c0 * 8 ≤ 140737488351232) (hnil0 : A0 = none → c0 = 0) (w0 : Lies w w.heap.size A0 (l0.map (.int .i64)) ∧ ∀ z ∈ l0, (Lit.int .i64 z).wf = true) (w1 : (Lit.int .i64 a1).wf = true) (w2 : (Lit.int .i64 a2).wf = true) :
    Calls Tryd.prog 6 #[.slice A0 l0.length c0, .int .i64 a1, .int .i64 a2] w fun e w' => e = .returned (.bool true) ∧ Below w.heap.size w w' := by
  have HT := Lib.hid hT
  have hp1 := pick_lt (n := 3000) (by decide) a1
  have HP1 := Lib.hid (pick_any a1 3000 · (by decide) (by decide) w1)
  have hp2 := pick_lt (n := 5000) (by decide) a2
  have HP2 := Lib.hid (pick_any a2 5000 · (by decide) (by decide) w2)
  generalize pick 3000 a1 = p at *
  generalize pick 5000 a2 = q at *
  obtain ⟨s, hs⟩ : ∃ s, s = p + 1 := ⟨_, rfl⟩
  have hs1 : (1 : Int) + (p : Int) = (s : Int) := by omega
  have hs0 : 0 < s := by omega
  have hs3 : s ≤ 3000 := by omega
  clear hs
  have HRi := Lib.hid (rising_any A0 l0 c0 120 s w (by decide) hs0 hs3 w0.2 w0.1)
  have hnn : min l0.length 120 ≤ 120 := by omega
  have hRR := fun B h => rises_sums s l0 (min l0.length 120) B h
  have hlast : ∀ i, i < min l0.length 120 → (risesTo s l0 (min l0.length 120)).getD i 0 ≤ 360000 := fun i hi => by
    rw [risesTo_getD s l0 _ i hi]
    have h1 := sumTo_le hs0 l0 (i + 1)
    have h2 : (i + 1) * s ≤ 120 * 3000 := Nat.mul_le_mul (by omega) hs3
    omega
  have hlen := risesTo_length s l0 (min l0.length 120)
  clear hT w0 w1 w2 hnil0 hle0 hcap0
  generalize risesTo s l0 (min l0.length 120) = ns at *
  generalize min l0.length 120 = n at *
  have HCo := Lib.hid (fun A c W h1 h2 => copied_any A (asInts ns) c W (by rw [asInts_length]; omega) h1 h2)
  rw [asInts_length] at HCo
  have HIV := Lib.hid (show (asInts ns).map (.int .i64) = intVals ns from rfl)
  have HIL := Lib.hid (intVals_length ns)
  by_cases h0 : 0 < n
  · obtain ⟨j, hj⟩ : ∃ j, n = j + 1 := ⟨n - 1, by omega⟩
    have hj1 : (n : Int) - 1 = (j : Int) := by omega
    have hjn : j < n := by omega
    have hyb := hlast j hjn
    obtain ⟨B, hBe⟩ : ∃ B, B = q + ns.getD j 0 := ⟨_, rfl⟩
    have hBs : (q : Int) + ((ns.getD j 0 : Nat) : Int) = (B : Int) := by omega
    have hB : B ≤ 1048576 := by omega
    have hR : Rises B ns := hRR B fun _ => by rw [show n - 1 = j by omega]; omega
    have hp0 : decide (0 < n) = true := by simpa using h0
    clear hj hBe hlast hRR h0
    generalize hyy : ns.getD j 0 = y at *
    have HY := Lib.hid hyy
    clear hyy
    have he := made_enc hB (by omega) hR
    have HMk := Lib.hid (fun A c W hL => fmake_any B A ns c W (by omega) hB hL hR)
    unfold MadeFano at HMk
    have hm := fhigh_short (ns := ns) hB
    rw [hlen] at HMk he hm
    have hfa : ∀ i, i < n → fatV ns i = ((ns.getD i 0 : Nat) : Int) ∧ fatE ns i = 0 := fun i hi => by
      have hc : (0 : Int) ≤ (i : Int) ∧ (i : Int) < ns.length := by omega
      unfold fatV fatE
      rw [if_pos hc, if_pos hc, Int.toNat_natCast]
      exact ⟨rfl, rfl⟩
    have hfb : fatV ns n = 0 ∧ fatE ns n = 2 := by
      have hc : ¬ ((0 : Int) ≤ (n : Int) ∧ (n : Int) < ns.length) := by omega
      unfold fatV fatE
      rw [if_neg hc, if_neg hc]
      exact ⟨rfl, rfl⟩
    have HFA := Lib.hid hfa
    have HFB := Lib.hid hfb
    have HLN := Lib.hid hlen
    clear hR hfa hfb hlen
    generalize packWords (fw n B) (flow (fw n B) ns) = lw at *
    generalize rowOf (fhigh B ns) = hw at *
    generalize fw n B = d at *
    generalize (fhigh B ns).length = m at *
    have HMay := Lib.hid (fun A c A2 c2 W hT hW hH => fmay_yes B n d A lw c m A2 hw c2 W hT hW hH ns B he)
    have HAt := Lib.hid (fun A c A2 c2 x W hT hW hH => fat_yes B n d A lw c m A2 hw c2 x W hT hW hH ns B he)
    clear he
    have hnn2 : ((n : Int) != (n : Int)) = false := by simp
    have hm2 : decide (3 * (n : Int) + 1 < (m : Int)) = false := by simp; omega
    go_enter Tryd.func6, Tryd.ntmps6
    go_wp2_with fail
    refine (HP1.out _).mono ?_
    rintro e w' ⟨rfl, rfl⟩
    go_wp2_with fail
    refine HRi.out.mono ?_
    rintro e w1 ⟨A1, c1, rfl, hle1, hl1, hn1, _, hb1⟩
    rw [HIL.out, HLN.out]
    rw [HIL.out, HLN.out] at hle1
    have HL1 := Lib.hid hl1
    have HN1 := Lib.hid hn1
    clear hl1 hn1
    go_wp2_with fail
    refine (HP2.out _).mono ?_
    rintro e w' ⟨rfl, rfl⟩
    obtain ⟨b, o, rfl, hb, hc⟩ := intVals_at HL1.out (k := j) (by rw [HLN.out]; exact hjn)
    rw [HY.out] at hc
    go_wp2_with fail
    have HCo1 := HCo.out (some ⟨b, o, none⟩) c1 w1 HN1.out HL1.out
    rw [HLN.out] at HCo1
    refine HCo1.mono ?_
    clear HCo1
    rintro e w2 ⟨A2, c2, rfl, hle2, hl2, hn2, _, hb2⟩
    rw [HIV.out, HIL.out, HLN.out]
    have HL2 := Lib.hid hl2
    clear hl2 hn2 hle2
    go_wp2_with fail
    refine (HMk.out A2 c2 _ HL2.out).mono ?_
    rintro e w3 ⟨A3, c3, A4, c4, rfl, hW3, hW4, _, _, hb3⟩
    have HW3 := Lib.hid (hW3.alloc (.cells #[.int .i64 B, .int .i64 n, .int .i64 d, .slice A3 lw.length c3, .int .i64 m, .slice A4 hw.length c4] 28))
    have HW4 := Lib.hid (hW4.alloc (.cells #[.int .i64 B, .int .i64 n, .int .i64 d, .slice A3 lw.length c3, .int .i64 m, .slice A4 hw.length c4] 28))
    have HBx := Lib.hid (Blk.new w3 28 [.int .i64 B, .int .i64 n, .int .i64 d, .slice A3 lw.length c3, .int .i64 m, .slice A4 hw.length c4])
    have HB3 := Lib.hid (chain (chain (chain hb1 hb2) hb3) (bnew w3 (.cells #[.int .i64 B, .int .i64 n, .int .i64 d, .slice A3 lw.length c3, .int .i64 m, .slice A4 hw.length c4] 28)))
    have HL3 := Lib.hid (((HL1.out.on hb2).on hb3).alloc (.cells #[.int .i64 B, .int .i64 n, .int .i64 d, .slice A3 lw.length c3, .int .i64 m, .slice A4 hw.length c4] 28))
    clear hW3 hW4 hb1 hb2 hb3 HL1 HL2
    go_wp2_with fail
    refine (HMay.out _ _ _ _ _ (by exact HT.out.on HB3.out) (by exact HW3.out) (by exact HW4.out)).mono ?_
    rintro e w4 ⟨rfl, hb4⟩
    have hx4 := HBx.out.below hb4 HBx.out.lt
    have q1 : w4.cell? ⟨w3.heap.size, 1, none⟩ = some (.int .i64 n) := hx4.cell 1
    have q4 : w4.cell? ⟨w3.heap.size, 4, none⟩ = some (.int .i64 m) := hx4.cell 4
    have HB4 := Lib.hid (chain HB3.out hb4)
    have HW3b := Lib.hid (HW3.out.on hb4)
    have HW4b := Lib.hid (HW4.out.on hb4)
    have HL4 := Lib.hid (HL3.out.on hb4)
    have hx4l := hx4.lt
    clear hb4 HW3 HW4 HL3 HB3
    go_wp2
    clear q1 q4
    go_loopw [11] (fun u w' => ∃ i : Nat, i ≤ n ∧ u = .int .i64 i ∧ Below w4.heap.size w4 w') (fun u _ => n - (intOf u).toNat)
    case atStart => exact ⟨0, Nat.zero_le _, rfl, Below.refl _ _⟩
    case round =>
      obtain ⟨i, hi, rfl, hbl⟩ := hrel
      have hxr := hx4.below hbl hx4l
      have r0 : wr.cell? ⟨w3.heap.size, 0, none⟩ = some (.int .i64 B) := hxr.cell 0
      have r1 : wr.cell? ⟨w3.heap.size, 1, none⟩ = some (.int .i64 n) := hxr.cell 1
      have r2 : wr.cell? ⟨w3.heap.size, 2, none⟩ = some (.int .i64 d) := hxr.cell 2
      have r3 : wr.cell? ⟨w3.heap.size, 3, none⟩ = some (.slice A3 lw.length c3) := hxr.cell 3
      have r4 : wr.cell? ⟨w3.heap.size, 4, none⟩ = some (.int .i64 m) := hxr.cell 4
      have r5 : wr.cell? ⟨w3.heap.size, 5, none⟩ = some (.slice A4 hw.length c4) := hxr.cell 5
      have HBw := Lib.hid (chain HB4.out hbl)
      clear hxr
      by_cases hlt : i < n
      · obtain ⟨hv, hq⟩ := HFA.out i hlt
        have HA1 := Lib.hid (fun W hT hW hH => HAt.out A3 c3 A4 c4 i W hT hW hH)
        rw [hv, hq] at HA1
        clear hv hq
        go_wp2_with fail
        refine (HA1.out _ (by exact HT.out.on HBw.out) (by exact HW3b.out.on hbl) (by exact HW4b.out.on hbl)).mono ?_
        rintro e w5 ⟨rfl, hb5⟩
        obtain ⟨b2, o2, e2, hb2, hc2⟩ := intVals_at ((HL4.out.on hbl).on hb5) (k := i) (by rw [HLN.out]; exact hlt)
        simp only [Option.some.injEq, Addr.mk.injEq, and_true] at e2
        obtain ⟨rfl, rfl⟩ := e2
        generalize ns.getD i 0 = z at *
        have hzz : ((z : Int) != (z : Int)) = false := by simp
        go_wp2
        go_roundw
        case rel => exact ⟨i + 1, by omega, by go_num, hbl.trans (hb5.mono hbl.size)⟩
        case measure => simp [intOf]; omega
      · obtain rfl : n = i := by omega
        obtain ⟨hv, hq⟩ := HFB.out
        have HA1 := Lib.hid (fun W hT hW hH => HAt.out A3 c3 A4 c4 n W hT hW hH)
        rw [hv, hq] at HA1
        clear hv hq
        go_wp2_with fail
        refine (HA1.out _ (by exact HT.out.on HBw.out) (by exact HW3b.out.on hbl) (by exact HW4b.out.on hbl)).mono ?_
        rintro e w5 ⟨rfl, hb5⟩
        go_wp2
        go_ret
        exact ⟨rfl, chain HBw.out hb5⟩
  · obtain ⟨B, hBe⟩ : ∃ B, B = q := ⟨_, rfl⟩
    have hB : B ≤ 1048576 := by omega
    have hR : Rises B ns := hRR B fun h => absurd h h0
    have hp0 : decide (0 < n) = false := by simpa using h0
    subst hBe
    clear hlast hRR h0
    have he := made_enc hB (by omega) hR
    have HMk := Lib.hid (fun A c W hL => fmake_any B A ns c W (by omega) hB hL hR)
    unfold MadeFano at HMk
    have hm := fhigh_short (ns := ns) hB
    rw [hlen] at HMk he hm
    have hfa : ∀ i, i < n → fatV ns i = ((ns.getD i 0 : Nat) : Int) ∧ fatE ns i = 0 := fun i hi => by
      have hc : (0 : Int) ≤ (i : Int) ∧ (i : Int) < ns.length := by omega
      unfold fatV fatE
      rw [if_pos hc, if_pos hc, Int.toNat_natCast]
      exact ⟨rfl, rfl⟩
    have hfb : fatV ns n = 0 ∧ fatE ns n = 2 := by
      have hc : ¬ ((0 : Int) ≤ (n : Int) ∧ (n : Int) < ns.length) := by omega
      unfold fatV fatE
      rw [if_neg hc, if_neg hc]
      exact ⟨rfl, rfl⟩
    have HFA := Lib.hid hfa
    have HFB := Lib.hid hfb
    have HLN := Lib.hid hlen
    clear hR hfa hfb hlen
    generalize packWords (fw n B) (flow (fw n B) ns) = lw at *
    generalize rowOf (fhigh B ns) = hw at *
    generalize fw n B = d at *
    generalize (fhigh B ns).length = m at *
    have HMay := Lib.hid (fun A c A2 c2 W hT hW hH => fmay_yes B n d A lw c m A2 hw c2 W hT hW hH ns B he)
    have HAt := Lib.hid (fun A c A2 c2 x W hT hW hH => fat_yes B n d A lw c m A2 hw c2 x W hT hW hH ns B he)
    clear he
    have hnn2 : ((n : Int) != (n : Int)) = false := by simp
    have hm2 : decide (3 * (n : Int) + 1 < (m : Int)) = false := by simp; omega
    go_enter Tryd.func6, Tryd.ntmps6
    go_wp2_with fail
    refine (HP1.out _).mono ?_
    rintro e w' ⟨rfl, rfl⟩
    go_wp2_with fail
    refine HRi.out.mono ?_
    rintro e w1 ⟨A1, c1, rfl, hle1, hl1, hn1, _, hb1⟩
    rw [HIL.out, HLN.out]
    rw [HIL.out, HLN.out] at hle1
    have HL1 := Lib.hid hl1
    have HN1 := Lib.hid hn1
    clear hl1 hn1
    go_wp2_with fail
    refine (HP2.out _).mono ?_
    rintro e w' ⟨rfl, rfl⟩
    go_wp2_with fail
    have HCo1 := HCo.out A1 c1 w1 HN1.out HL1.out
    rw [HLN.out] at HCo1
    refine HCo1.mono ?_
    clear HCo1
    rintro e w2 ⟨A2, c2, rfl, hle2, hl2, hn2, _, hb2⟩
    rw [HIV.out, HIL.out, HLN.out]
    have HL2 := Lib.hid hl2
    clear hl2 hn2 hle2
    go_wp2_with fail
    refine (HMk.out A2 c2 _ HL2.out).mono ?_
    rintro e w3 ⟨A3, c3, A4, c4, rfl, hW3, hW4, _, _, hb3⟩
    have HW3 := Lib.hid (hW3.alloc (.cells #[.int .i64 B, .int .i64 n, .int .i64 d, .slice A3 lw.length c3, .int .i64 m, .slice A4 hw.length c4] 28))
    have HW4 := Lib.hid (hW4.alloc (.cells #[.int .i64 B, .int .i64 n, .int .i64 d, .slice A3 lw.length c3, .int .i64 m, .slice A4 hw.length c4] 28))
    have HBx := Lib.hid (Blk.new w3 28 [.int .i64 B, .int .i64 n, .int .i64 d, .slice A3 lw.length c3, .int .i64 m, .slice A4 hw.length c4])
    have HB3 := Lib.hid (chain (chain (chain hb1 hb2) hb3) (bnew w3 (.cells #[.int .i64 B, .int .i64 n, .int .i64 d, .slice A3 lw.length c3, .int .i64 m, .slice A4 hw.length c4] 28)))
    have HL3 := Lib.hid (((HL1.out.on hb2).on hb3).alloc (.cells #[.int .i64 B, .int .i64 n, .int .i64 d, .slice A3 lw.length c3, .int .i64 m, .slice A4 hw.length c4] 28))
    clear hW3 hW4 hb1 hb2 hb3 HL1 HL2
    go_wp2_with fail
    refine (HMay.out _ _ _ _ _ (by exact HT.out.on HB3.out) (by exact HW3.out) (by exact HW4.out)).mono ?_
    rintro e w4 ⟨rfl, hb4⟩
    have hx4 := HBx.out.below hb4 HBx.out.lt
    have q1 : w4.cell? ⟨w3.heap.size, 1, none⟩ = some (.int .i64 n) := hx4.cell 1
    have q4 : w4.cell? ⟨w3.heap.size, 4, none⟩ = some (.int .i64 m) := hx4.cell 4
    have HB4 := Lib.hid (chain HB3.out hb4)
    have HW3b := Lib.hid (HW3.out.on hb4)
    have HW4b := Lib.hid (HW4.out.on hb4)
    have HL4 := Lib.hid (HL3.out.on hb4)
    have hx4l := hx4.lt
    clear hb4 HW3 HW4 HL3 HB3
    go_wp2
    clear q1 q4
    go_loopw [11] (fun u w' => ∃ i : Nat, i ≤ n ∧ u = .int .i64 i ∧ Below w4.heap.size w4 w') (fun u _ => n - (intOf u).toNat)
    case atStart => exact ⟨0, Nat.zero_le _, rfl, Below.refl _ _⟩
    case round =>
      obtain ⟨i, hi, rfl, hbl⟩ := hrel
      have hxr := hx4.below hbl hx4l
      have r0 : wr.cell? ⟨w3.heap.size, 0, none⟩ = some (.int .i64 B) := hxr.cell 0
      have r1 : wr.cell? ⟨w3.heap.size, 1, none⟩ = some (.int .i64 n) := hxr.cell 1
      have r2 : wr.cell? ⟨w3.heap.size, 2, none⟩ = some (.int .i64 d) := hxr.cell 2
      have r3 : wr.cell? ⟨w3.heap.size, 3, none⟩ = some (.slice A3 lw.length c3) := hxr.cell 3
      have r4 : wr.cell? ⟨w3.heap.size, 4, none⟩ = some (.int .i64 m) := hxr.cell 4
      have r5 : wr.cell? ⟨w3.heap.size, 5, none⟩ = some (.slice A4 hw.length c4) := hxr.cell 5
      have HBw := Lib.hid (chain HB4.out hbl)
      clear hxr
      by_cases hlt : i < n
      · obtain ⟨hv, hq⟩ := HFA.out i hlt
        have HA1 := Lib.hid (fun W hT hW hH => HAt.out A3 c3 A4 c4 i W hT hW hH)
        rw [hv, hq] at HA1
        clear hv hq
        go_wp2_with fail
        refine (HA1.out _ (by exact HT.out.on HBw.out) (by exact HW3b.out.on hbl) (by exact HW4b.out.on hbl)).mono ?_
        rintro e w5 ⟨rfl, hb5⟩
        obtain ⟨b2, o2, rfl, hb2, hc2⟩ := intVals_at ((HL4.out.on hbl).on hb5) (k := i) (by rw [HLN.out]; exact hlt)
        generalize ns.getD i 0 = z at *
        have hzz : ((z : Int) != (z : Int)) = false := by simp
        go_wp2
        go_roundw
        case rel => exact ⟨i + 1, by omega, by go_num, hbl.trans (hb5.mono hbl.size)⟩
        case measure => simp [intOf]; omega
      · obtain rfl : n = i := by omega
        obtain ⟨hv, hq⟩ := HFB.out
        have HA1 := Lib.hid (fun W hT hW hH => HAt.out A3 c3 A4 c4 n W hT hW hH)
        rw [hv, hq] at HA1
        clear hv hq
        go_wp2_with fail
        refine (HA1.out _ (by exact HT.out.on HBw.out) (by exact HW3b.out.on hbl) (by exact HW4b.out.on hbl)).mono ?_
        rintro e w5 ⟨rfl, hb5⟩
        go_wp2
        go_ret
        exact ⟨rfl, chain HBw.out hb5⟩

theorem gTab : Tryd.prog.globalNamed "math/bits.deBruijn64tab" = some 0 := by kernel_rfl
theorem tTab : (Tryd.prog.globals[0]?).map (·.type) = some 72 := by kernel_rfl
/-- The door's own heap meets the condition. -/
theorem door_met (os : Os) (args : Array Value) : laidMetH Tryd.prog Rows.fanoBackRow.laid ((World.doorLaid Tryd.prog 14 os).forCall (fun _ _ => 0) ⟨#[], args, []⟩).memory :=
  laidMetH_of_parts3 (fuel := 8) (laidMet_of_run' 8 (by kernel_rfl) (by kernel_rfl)) (by kernel_rfl) (by kernel_rfl)

/-- What the condition gives the walk: the table's cells. -/
theorem tab_of {W : World} (h : laidMetH Tryd.prog Rows.fanoBackRow.laid W) : Tab W := by
  rw [MakeChecks.laidMetH_plain _ _ _ (by kernel_rfl)] at h
  have h2 : laidMet Tryd.prog [("math/bits.deBruijn64tab", Lib.tabData .u8 (Lib.deBruijn64tab.map fun n : Nat => (n : Int)))] W := h
  have ht := Lib.tabIs_of_head gTab tTab Tryd.underlying72 Tryd.underlying5 (by kernel_rfl) (by kernel_rfl) h2
  intro j hj
  have hc := ht.cell gTab j (by simpa [Lib.deBruijn64tab] using hj)
  rw [hc]
  congr 2
  simp only [List.getD, List.getElem?_map]
  cases Lib.deBruijn64tab[j]? <;> rfl

set_option maxRecDepth 100000 in
theorem lifted (os : Os) (started : os.Started) (H : Type) (enc : TypeId × Value → H) :
    ReturnsInHanded {} Tryd.checked os 6 .any (fun w args => (Rows.fanoBackSpec.pre enc Tryd.prog Tryd.f6 [] false w args ∧ laidMetH Tryd.prog Rows.fanoBackRow.laid w) ∧ sizedMet enc Tryd.prog Tryd.f6 (OpenSpec.ofChange Rows.fanoBackSpec) false w args)
      (Rows.fanoBackSpec.post enc Tryd.prog Tryd.f6 false true false false) := by
  refine returnsInHanded_of_change_and (C := Tryd.checked) (X := fun w _ => laidMetH Tryd.prog Rows.fanoBackRow.laid w) (fun _ _ _ hh h => h.of_heap hh) own started (by kernel_rfl) Tryd.func6
    (ChangeSpec.witness_shaped (enc := enc) (C := Tryd.checked) (os := os) (X := fun w _ => laidMetH Tryd.prog Rows.fanoBackRow.laid w) false (World.doorLaid Tryd.prog 14 os) #[.slice none 0 0, .int .i64 0, .int .i64 0] 8 rfl (World.shaped_of_RefB (by kernel_rfl) (by kernel_rfl)) (by kernel_rfl) (by kernel_rfl) (by kernel_rfl) (door_met os _)) ?_
  intro W base args ds gs before hval0 hW _ hsz0 hL _
  have hval : ∀ (j : Nat) t v, Tryd.f6.params[j]? = some t → args[j]? = some v → Value.okWide Tryd.prog W .any base t v := hval0
  have hW' := hW
  obtain ⟨p, q, hA0, hV, rfl, hfz, hnd⟩ := hW
  have hA : DataW.TrodAll enc Tryd.prog W 0 (fun _ => true) true Tryd.f6.params.toList args.toList ds p := hA0
  have hsz : (DataW.weightsEach Tryd.prog (Tryd.f6.params.toList ++ Rows.fanoBackSpec.plain.varTypes Tryd.prog) (ds ++ gs)).all (· ≤ reachBytes) = true := hsz0
  rw [Tryd.params6] at hA hval hsz
  obtain ⟨v0, vs0, d0, ds0, p0, q0, hargs, rfl, rfl, h0, r0⟩ := trodAll_cons hA
  obtain ⟨v1, vs1, d1, ds1, p1, q1, rfl, rfl, rfl, h1, r1⟩ := trodAll_cons r0
  obtain ⟨v2, vs2, d2, ds2, p2, q2, rfl, rfl, rfl, h2, r2⟩ := trodAll_cons r1
  obtain ⟨rfl, rfl, rfl⟩ := trodAll_nil r2
  obtain rfl : args = #[v0, v1, v2] := by cases args; simp_all
  obtain ⟨rfl, rfl⟩ := trodVars_none hV
  obtain ⟨A0, n0, c0, rfl⟩ := okWide_slice Tryd.underlying29 (hval 0 29 v0 rfl rfl)
  have k0 := h0
  have lt0 : ∀ x ∈ p0, x.block < W.heap.size := by obtain ⟨m, hm⟩ := k0; exact DataW.trod_lt m _ _ _ hm
  obtain ⟨fuel0, hf0⟩ := h0
  obtain ⟨A0_, l0, c0_, hcs0, hle0, hcap0, hnil0, w0⟩ := rd_ints Tryd.underlying29 Tryd.underlying3 (by kernel_rfl) (by kernel_rfl) hf0 (weight_arg hsz (j := 0) (t := 29) rfl rfl)
  have hcs0_ : [Value.slice A0 n0 c0] = [.slice A0_ l0.length c0_] := hcs0
  simp only [List.cons.injEq, Value.slice.injEq, and_true] at hcs0_
  obtain ⟨rfl, rfl, rfl⟩ := hcs0_
  clear hcs0
  obtain ⟨a1, rfl, rfl, rfl, w1⟩ := open_int Tryd.underlying3 (hval 1 3 v1 rfl rfl) h1
  obtain ⟨a2, rfl, rfl, rfl, w2⟩ := open_int Tryd.underlying3 (hval 2 3 v2 rfl rfl) h2
  clear hA0 hval0
  refine (walk A0 l0 c0 a1 a2 W (tab_of hL) hle0 hcap0 hnil0 w0 w1 w2).mono fun e W' ⟨he, bel⟩ => ?_
  subst he
  exact ⟨_, rfl, _, _, _, [], _, [], hW', trodAll_mk1 (shut_bool Tryd.underlying4 _), (trodAll_cons_mk (Below.trod laidOut (by kernel_rfl) (of_decide_eq_true (by kernel_rfl)) k0 bel lt0) (trodAll_cons_mk (shut_int Tryd.underlying3 w1) (trodAll_cons_mk (shut_int Tryd.underlying3 w2) trodAll_mk0))), rfl, bel.frame _, fun h => by cases h⟩

theorem over : Rows.FanoBackSaid :=
  OpenClaim.holds_of_wide 6 Tryd.f6 rfl rfl rfl rfl rfl rfl rfl ⟨rfl, rfl, rfl, rfl, rfl⟩ rfl rfl rfl rfl rfl (by kernel_rfl) Tryd.func6 (by kernel_rfl)
    (of_decide_eq_true (by kernel_rfl)) (by unfold Func.isWrapper; first | (rw [if_pos (by decide +kernel)]; kernel_rfl) | (rw [if_neg (by decide +kernel)]; exact ⟨rfl, rfl⟩))
    (fun os started H enc _ => lifted os started H enc)

/-- THE STATEMENT: the tied card. -/
theorem proved : Rows.FanoBackCardSaid :=
  Claim7.holds_tied_plain_at .later [] [.data] true (true, "a810195525fcbec78bc6bb90b5ec27dd7ea3facb991b9a6aa2dabf128cf97b69") false
    over (fun _ h => by cases h) (by kernel_rfl) (fun _ h => by cases h) fanoBack_row_tie rfl ⟨rfl, rfl⟩ (by kernel_rfl) rfl
    (fun f fn hf hfn => by
      obtain rfl : f = 6 := Option.some.inj ((show Tryd.prog.funcNamed "damask/damaskkeep.FanoBack" = some 6 by kernel_rfl).symm.trans hf) |>.symm
      obtain rfl : fn = Tryd.f6 := (Option.some.inj (Tryd.func6.symm.trans hfn)).symm
      exact ⟨by kernel_rfl, fun j t ht => by
        rw [Tryd.params6] at ht
        have hm : t ∈ [29, 3, 3] := by simpa using Array.mem_of_getElem? ht
        have hall : ([29, 3, 3].all fun u => !Tryd.prog.wantsStandIn u) = true := by kernel_rfl
        exact (show Tryd.prog.wantsStandIn t = false by simpa using List.all_eq_true.1 hall t hm)⟩)
    (by kernel_rfl)
#print axioms proved
end Go.Proofs.YtmlekhgjnhnjlaaDoor.fanoBack
