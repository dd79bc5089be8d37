/-
  For every list l and every list ops of operations, Go's seg.Play and the document's SegPlayed return the same replies, the same list and the same error.
  No condition.
-/
import Derived.Test.YtnjpehgmlfenbaaRows
import Derived.Test.YtnjpehgmlfenbaaFrame
import Derived.Test.YtnjpehgmlfenbaaFrameS
import Derived.Test.YtnjpehgmlfenbaaSegRq
import Derived.Test.YtnjpehgmlfenbaaSameI
import Derived.WalkKit
import Derived.ProofKit
import Derived.OpenShut
import Derived.ChangeOld
import Derived.Below
import Derived.Carry
import Derived.SizedLaws
import Derived.Deep.RegionWith
import Derived.Deep.RegionHeld3
namespace Go.Proofs.Ytnjpehgmlfenbaa.segPlays
open Go.ChangeShapes Go.WideShapes Go.ChangeAt Go.RowKit Words
set_option linter.unusedVariables false

theorem own : ownKnob Try.prog.godebug = none := by kernel_rfl
theorem laidOut : laidOutB Try.prog = true := by kernel_rfl

set_option maxRecDepth 100000 in
set_option maxHeartbeats 4000000 in
/-- The walk: the Go text returns true, and writes nothing that was there. -/
theorem walk (A0 : Option Addr) (l0 : List Int) (c0 : Nat) (A1 : Option Addr) (l1 : List Op9) (c1 : Nat) (w : World) (hle0 : l0.length ≤ c0) (hcap0 : c0 * 8 ≤ 140737488351232) (hnil0 : A0 = none → c0 = 0) (w0 : Lies w w.heap.size A0 (l0.map (.int .i64)) ∧ ∀ z ∈ l0, (Lit.int .i64 z).wf = true) (hle1 : l1.length ≤ c1) (hcap1 : c1 * 32 ≤ 140737488351232) (hnil1 : A1 = none → c1 = 0) (w1 : Lies w w.heap.size A1 (opsC l1)) (f1 : ∀ o ∈ l1, o.Fits) :
    Calls Try.prog 3 #[.slice A0 l0.length c0, .slice A1 l1.length c1] w fun e w' => e = .returned (.bool true) ∧ Below w.heap.size w w' := by
  have HL0 := Lib.hid w0.1
  have HL1 := Lib.hid w1
  have HN0 := Lib.hid hnil0
  have HE := Lib.hid (fun W => sameIntsL_eq none none [] 0 0 W (by simp) Lies.nil Lies.nil)
  by_cases hs : l0.length < 1 ∨ 300 < l0.length ∨ 300 < l1.length
  · have HP := Lib.hid (fun W => play_size A0 A1 l0.length c0 l1.length c1 W (by omega) (by omega) hs)
    have HR := Lib.hid (fun W => rplay_size A0 A1 l0.length c0 l1.length c1 W (by omega) (by omega) hs)
    unfold NoPlay at HP HR
    clear f1 w0 w1 hnil0 hnil1 hs
    go_enter Try.func3, Try.ntmps3
    go_wp2_with fail
    refine (HP.out _).mono ?_
    rintro e v1 ⟨rfl, hb1⟩
    go_wp2_with fail
    refine (HR.out _).mono ?_
    rintro e v2 ⟨rfl, hb2⟩
    go_wp2_with fail
    refine (HE.out _).mono ?_
    rintro e v3 ⟨rfl, hb3⟩
    go_wp2_with fail
    go_loopw [11] (fun a w' => a = .int .i64 0 ∧ Below w.heap.size w w') (fun a _ => 0)
    case atStart => exact ⟨rfl, chain (chain hb1 hb2) hb3⟩
    case round =>
      obtain ⟨rfl, hbl⟩ := hrel
      go_wp2_with fail
      go_ret
      exact ⟨rfl, hbl⟩
  · by_cases hc : Cos l0
    · have HP := Lib.hid (fun W hL hO => play_any A0 A1 l0 l1 c0 c1 W (by omega) (by omega) hle0 (by omega) hc hL hO)
      have HR := Lib.hid (fun W hL hO => rplay_any A0 A1 l0 l1 c0 c1 W (by omega) (by omega) hnil0 (by omega) hc hL hO)
      have HS := Lib.hid (fun A A2 c c2 W h1 h2 => sameIntsL_eq A A2 (runL l0 l1 l1.length) c c2 W (by rw [runL_length]; omega) h1 h2)
      rw [runL_length] at HS
      unfold Played at HP HR
      have hm : l1.length ≤ 300 := by omega
      have hn : l0.length ≤ 300 := by omega
      have hnn : ((l1.length : Int) != (l1.length : Int)) = false := by simp
      clear f1 w0 w1 hnil0 hnil1 hs hc
      go_enter Try.func3, Try.ntmps3
      go_wp2_with fail
      refine (HP.out _ HL0.out HL1.out).mono ?_
      rintro e v1 ⟨B1, d1, B2, d2, rfl, hx1, hx2, hx3, hb1⟩
      go_wp2_with fail
      refine (HR.out _ (HL0.out.on hb1) (HL1.out.on hb1)).mono ?_
      rintro e v2 ⟨C1, f1, C2, f2, rfl, hy1, hy2, hy3, hb2⟩
      have hx2' := hx2.on hb2
      have hx1' := hx1.on hb2
      clear hx1 hx2 hx3 hy3
      go_wp2_with fail
      refine (HS.out _ _ _ _ _ hx2' hy2).mono ?_
      rintro e v3 ⟨rfl, hb3⟩
      have HX := Lib.hid (hx1'.on hb3)
      have HY := Lib.hid (hy1.on hb3)
      have hbl3 := chain (chain hb1 hb2) hb3
      clear hx2' hx1' hy1 hy2 hb1 hb2 hb3 HP HR HS
      go_wp2_with fail
      go_loopw [11] (fun a w' => ∃ i d : Nat, i ≤ l1.length ∧ a = .int .i64 i ∧ w' = v3.drewN d) (fun a _ => l1.length - (intOf a).toNat)
      case atStart => exact ⟨0, 0, Nat.zero_le _, rfl, rfl⟩
      case round =>
        obtain ⟨i, d, hi, rfl, rfl⟩ := hrel
        by_cases hlt : i < l1.length
        · obtain ⟨b1, o1, rfl, hbb1, q1, q2⟩ := two_at HX.out hlt
          obtain ⟨b2, o2, rfl, hbb2, q3, q4⟩ := two_at HY.out hlt
          have hltI : (i : Int) < (l1.length : Int) := by omega
          generalize reps l0 l1 (i * 2) = x at *
          generalize reps l0 l1 (i * 2 + 1) = y at *
          go_wp2_with fail
          go_region
          go_wp2_with fail
          go_roundw
          case rel => exact ⟨i + 1, _, by omega, by go_num, by first | rfl | (simp only [World.drewN_drewN]; rfl)⟩
          case measure => simp [intOf]; omega
        · go_wp2_with fail
          go_ret
          exact ⟨rfl, bdN hbl3 _⟩
    · have HP := Lib.hid (fun W hL => play_range A0 A1 l0 c0 l1.length c1 W (by omega) (by omega) (by omega) hc hL)
      have HR := Lib.hid (fun W hL => rplay_range A0 A1 l0 c0 l1.length c1 W (by omega) (by omega) (by omega) hc hL)
      unfold NoPlay at HP HR
      clear f1 w0 w1 hnil0 hnil1 hs hc
      go_enter Try.func3, Try.ntmps3
      go_wp2_with fail
      refine (HP.out _ HL0.out).mono ?_
      rintro e v1 ⟨rfl, hb1⟩
      go_wp2_with fail
      refine (HR.out _ (HL0.out.on hb1)).mono ?_
      rintro e v2 ⟨rfl, hb2⟩
      go_wp2_with fail
      refine (HE.out _).mono ?_
      rintro e v3 ⟨rfl, hb3⟩
      go_wp2_with fail
      go_loopw [11] (fun a w' => a = .int .i64 0 ∧ Below w.heap.size w w') (fun a _ => 0)
      case atStart => exact ⟨rfl, chain (chain hb1 hb2) hb3⟩
      case round =>
        obtain ⟨rfl, hbl⟩ := hrel
        go_wp2_with fail
        go_ret
        exact ⟨rfl, hbl⟩

set_option maxRecDepth 100000 in
theorem lifted (os : Os) (started : os.Started) (H : Type) (enc : TypeId × Value → H) :
    ReturnsInHanded {} Try.checked os 3 .any (Rows.segPlaysSpec.pre6 enc Try.prog Try.f3 Rows.segPlaysRow.domain false) (Rows.segPlaysSpec.post enc Try.prog Try.f3 false true false false) := by
  refine returnsInHanded_of_change_sized (C := Try.checked) own started (by kernel_rfl) Try.func3
    (ChangeSpec.witness6 (enc := enc) (C := Try.checked) false ⟨#[], #[.slice none 0 0, .slice none 0 0], []⟩ 8 (by kernel_rfl) (by kernel_rfl) (by kernel_rfl) (by kernel_rfl)) ?_
  intro W base args ds gs before hval0 hW hcnd hsz0 _
  have hval : ∀ (j : Nat) t v, Try.f3.params[j]? = some t → args[j]? = some v → Value.okWide Try.prog W .any base t v := hval0
  have hW' := hW
  obtain ⟨p, q, hA0, hV, rfl, hfz, hnd⟩ := hW
  have hA : DataW.TrodAll enc Try.prog W 0 (fun _ => true) true Try.f3.params.toList args.toList ds p := hA0
  have hsz : (DataW.weightsEach Try.prog (Try.f3.params.toList ++ Rows.segPlaysSpec.plain.varTypes Try.prog) (ds ++ gs)).all (· ≤ reachBytes) = true := hsz0
  rw [Try.params3] at hA hval hsz
  obtain ⟨v0, vs0, d0, ds0, p0, q0, hargs, rfl, rfl, h0, r0⟩ := trodAll_cons hA
  obtain ⟨v1, vs1, d1, ds1, p1, q1, rfl, rfl, rfl, h1, r1⟩ := trodAll_cons r0
  obtain ⟨rfl, rfl, rfl⟩ := trodAll_nil r1
  obtain rfl : args = #[v0, v1] := by cases args; simp_all
  obtain ⟨rfl, rfl⟩ := trodVars_none hV
  obtain ⟨A0, n0, c0, rfl⟩ := okWide_slice Try.underlying22 (hval 0 22 v0 rfl rfl)
  have k0 := h0
  have lt0 : ∀ x ∈ p0, x.block < W.heap.size := by obtain ⟨m, hm⟩ := k0; exact DataW.trod_lt m _ _ _ hm
  obtain ⟨fuel0, hf0⟩ := h0
  obtain ⟨A0_, l0, c0_, hcs0, hle0, hcap0, hnil0, w0⟩ := rd_ints Try.underlying22 Try.underlying3 (by kernel_rfl) (by kernel_rfl) hf0 (weight_arg hsz (j := 0) (t := 22) rfl rfl)
  have hcs0_ : [Value.slice A0 n0 c0] = [.slice A0_ l0.length c0_] := hcs0
  simp only [List.cons.injEq, Value.slice.injEq, and_true] at hcs0_
  obtain ⟨rfl, rfl, rfl⟩ := hcs0_
  clear hcs0
  obtain ⟨A1, n1, c1, rfl⟩ := okWide_slice Try.underlying23 (hval 1 23 v1 rfl rfl)
  have k1 := h1
  have lt1 : ∀ x ∈ p1, x.block < W.heap.size := by obtain ⟨m, hm⟩ := k1; exact DataW.trod_lt m _ _ _ hm
  obtain ⟨fuel1, hf1⟩ := h1
  obtain ⟨A1_, l1, c1_, hcs1, hle1, hcap1, hnil1, w1, f1⟩ := rd_fours Try.underlying23 Try.underlying39 (by kernel_rfl) (by kernel_rfl) rfl rfl rfl rfl rfl rfl rfl rfl Try.underlying3 (by kernel_rfl) hf1 (weight_arg hsz (j := 1) (t := 23) rfl rfl)
  have hcs1_ : [Value.slice A1 n1 c1] = [.slice A1_ l1.length c1_] := hcs1
  simp only [List.cons.injEq, Value.slice.injEq, and_true] at hcs1_
  obtain ⟨rfl, rfl, rfl⟩ := hcs1_
  clear hcs1
  clear hA0 hval0
  refine (walk A0 l0 c0 A1 l1 c1 W hle0 hcap0 hnil0 w0 hle1 hcap1 hnil1 w1 f1).mono fun e W' ⟨he, bel⟩ => ?_
  subst he
  exact ⟨_, rfl, _, _, _, [], _, [], hW', trodAll_mk1 (shut_bool Try.underlying4 _), (trodAll_cons_mk (Below.trod laidOut (by kernel_rfl) (of_decide_eq_true (by kernel_rfl)) k0 bel lt0) (trodAll_cons_mk (Below.trod laidOut (by kernel_rfl) (of_decide_eq_true (by kernel_rfl)) k1 bel lt1) trodAll_mk0)), rfl, bel.frame _, fun h => by cases h⟩

theorem over : Rows.segPlaysRow.holds Try.pinned (OpenSpec.ofChange Rows.segPlaysSpec) :=
  OpenClaim.holds_of_wide 3 Try.f3 rfl rfl rfl rfl rfl rfl rfl ⟨rfl, rfl, rfl, rfl, rfl⟩ rfl rfl rfl rfl rfl (by kernel_rfl) Try.func3 (by kernel_rfl)
    (of_decide_eq_true (by kernel_rfl)) (by unfold Func.isWrapper; first | (rw [if_pos (by decide +kernel)]; kernel_rfl) | (rw [if_neg (by decide +kernel)]; exact ⟨rfl, rfl⟩))
    (fun os started H enc _ => lifted os started H enc)

/-- THE STATEMENT. -/
theorem proved : Rows.SegPlaysSaid := over
#print axioms proved
end Go.Proofs.Ytnjpehgmlfenbaa.segPlays
