/-
  For every matrix w, valid or not, Go's wave.May(w) says what the document's answer says (P10.1).
  No condition.
-/
import Derived.Test.YtefgfkicacbmeaaRows
import Derived.Test.YtefgfkicacbmeaaFrame
import Derived.Test.YtefgfkicacbmeaaWavRm
import Derived.WalkKit
import Derived.ProofKit
import Derived.OpenShut
import Derived.ChangeOld
import Derived.Below
import Derived.Carry
import Derived.SizedLaws
import Derived.Deep.RegionWith
import Derived.Deep.RegionHeld3
namespace Go.Proofs.Ytefgfkicacbmeaa.waveMays
open Go.ChangeShapes Go.WideShapes Go.ChangeAt Go.RowKit Words
set_option linter.unusedVariables false

theorem own : ownKnob Try.prog.godebug = none := by kernel_rfl
theorem laidOut : laidOutB Try.prog = true := by kernel_rfl

set_option maxRecDepth 100000 in
set_option maxHeartbeats 4000000 in
/-- The walk: the Go text returns true, and writes nothing that was there. -/
theorem walk (A0 : Option Addr) (l0 : List Lev) (c0 : Nat) (w : World) (hle0 : l0.length ≤ c0) (hcap0 : c0 * 32 ≤ 140737488351232) (hnil0 : A0 = none → c0 = 0) (w0 : Mat w w.heap.size A0 l0) (f0 : ∀ v ∈ l0, v.Fits) :
    Calls Try.prog 4 #[.agg #[.slice A0 l0.length c0]] w fun e w' => e = .returned (.bool true) ∧ Below w.heap.size w w' := by
  have hk : l0.length ≤ 17592186044416 := by omega
  have hws : ∀ v ∈ l0, v.ws.length ≤ 17592186044416 := fun v hv => by have := (f0 v hv).le; have := (f0 v hv).room; omega
  have HW := Lib.hid w0
  by_cases hS : Sound l0
  · have H1 := Lib.hid (fun W hW => wmay_yes A0 l0 c0 W hS hW)
    have H2 := Lib.hid (fun W hW => rwmay_yes A0 l0 c0 W hS hws hW)
    clear hS hws f0 w0
    generalize l0.length = k at *
    go_enter Try.func4, Try.ntmps4
    go_wp2_with fail
    go_region_with (first
      | (go_at_call 17; refine (H1.out _ ?_).mono ?_; (first | exact (HW.out.alloc _).drew | exact (HW.out.alloc _).drew.on hb2); rintro e w1 ⟨rfl, hb1⟩; have hc1 := bcell hb1)
      | (go_at_call 18; refine (H2.out _ ?_).mono ?_; (first | exact (HW.out.alloc _).drew | exact (HW.out.alloc _).drew.on hb1); rintro e w2 ⟨rfl, hb2⟩; have hc2 := bcell hb2))
    all_goals (go_wp2; go_ret; refine ⟨rfl, ?_⟩)
    all_goals first
      | exact chain (chain (bnew _ _).drew hb1) hb2
      | exact chain (chain (bnew _ _).drew hb2) hb1
      | exact chain (chain (bnew _ _) hb1) hb2
      | exact chain (chain (bnew _ _) hb2) hb1
  · have H1 := Lib.hid (fun W hW => wmay_no A0 l0 c0 W hk hS hW)
    have H2 := Lib.hid (fun W hW => rwmay_no A0 l0 c0 W hk hws hS hW)
    clear hS hws f0 w0
    generalize l0.length = k at *
    go_enter Try.func4, Try.ntmps4
    go_wp2_with fail
    go_region_with (first
      | (go_at_call 17; refine (H1.out _ ?_).mono ?_; (first | exact (HW.out.alloc _).drew | exact (HW.out.alloc _).drew.on hb2); rintro e w1 ⟨rfl, hb1⟩; have hc1 := bcell hb1)
      | (go_at_call 18; refine (H2.out _ ?_).mono ?_; (first | exact (HW.out.alloc _).drew | exact (HW.out.alloc _).drew.on hb1); rintro e w2 ⟨rfl, hb2⟩; have hc2 := bcell hb2))
    all_goals (go_wp2; go_ret; refine ⟨rfl, ?_⟩)
    all_goals first
      | exact chain (chain (bnew _ _).drew hb1) hb2
      | exact chain (chain (bnew _ _).drew hb2) hb1
      | exact chain (chain (bnew _ _) hb1) hb2
      | exact chain (chain (bnew _ _) hb2) hb1

set_option maxRecDepth 100000 in
theorem lifted (os : Os) (started : os.Started) (H : Type) (enc : TypeId × Value → H) :
    ReturnsInHanded {} Try.checked os 4 .any (Rows.waveMaysSpec.pre6 enc Try.prog Try.f4 Rows.waveMaysRow.domain false) (Rows.waveMaysSpec.post enc Try.prog Try.f4 false true false false) := by
  refine returnsInHanded_of_change_sized (C := Try.checked) own started (by kernel_rfl) Try.func4
    (ChangeSpec.witness6 (enc := enc) (C := Try.checked) false ⟨#[], #[.agg #[.slice none 0 0]], []⟩ 8 (by kernel_rfl) (by kernel_rfl) (by kernel_rfl) (by kernel_rfl)) ?_
  intro W base args ds gs before hval0 hW hcnd hsz0 _
  have hval : ∀ (j : Nat) t v, Try.f4.params[j]? = some t → args[j]? = some v → Value.okWide Try.prog W .any base t v := hval0
  have hW' := hW
  obtain ⟨p, q, hA0, hV, rfl, hfz, hnd⟩ := hW
  have hA : DataW.TrodAll enc Try.prog W 0 (fun _ => true) true Try.f4.params.toList args.toList ds p := hA0
  have hsz : (DataW.weightsEach Try.prog (Try.f4.params.toList ++ Rows.waveMaysSpec.plain.varTypes Try.prog) (ds ++ gs)).all (· ≤ reachBytes) = true := hsz0
  rw [Try.params4] at hA hval hsz
  obtain ⟨v0, vs0, d0, ds0, p0, q0, hargs, rfl, rfl, h0, r0⟩ := trodAll_cons hA
  obtain ⟨rfl, rfl, rfl⟩ := trodAll_nil r0
  obtain rfl : args = #[v0] := by cases args; simp_all
  obtain ⟨rfl, rfl⟩ := trodVars_none hV
  obtain ⟨cs0, rfl, hsize0⟩ := okWide_struct Try.underlying25 (hval 0 25 v0 rfl rfl)
  have k0 := h0
  have lt0 : ∀ x ∈ p0, x.block < W.heap.size := by obtain ⟨m, hm⟩ := k0; exact DataW.trod_lt m _ _ _ hm
  obtain ⟨fuel0, hf0⟩ := h0
  obtain ⟨A0, l0, c0, hcs0, hle0, hcap0, hnil0, w0, f0⟩ := rd_wave Try.underlying25 (by kernel_rfl) rfl rfl (by kernel_rfl) Try.underlying23 Try.underlying32 (by kernel_rfl) (by kernel_rfl) rfl rfl rfl rfl Try.underlying3 (by kernel_rfl) Try.underlying30 (by kernel_rfl) Try.underlying95 (by kernel_rfl) (by kernel_rfl) hf0 (weight_arg hsz (j := 0) (t := 25) rfl rfl)
  have hcs0_ : cs0 = #[.slice A0 l0.length c0] := Array.toList_inj.1 hcs0
  subst hcs0_
  clear hcs0
  clear hA0 hval0
  refine (walk A0 l0 c0 W hle0 hcap0 hnil0 w0 f0).mono fun e W' ⟨he, bel⟩ => ?_
  subst he
  exact ⟨_, rfl, _, _, _, [], _, [], hW', trodAll_mk1 (shut_bool Try.underlying4 _), (trodAll_cons_mk (Below.trod laidOut (by kernel_rfl) (of_decide_eq_true (by kernel_rfl)) k0 bel lt0) trodAll_mk0), rfl, bel.frame _, fun h => by cases h⟩

theorem over : Rows.waveMaysRow.holds Try.pinned (OpenSpec.ofChange Rows.waveMaysSpec) :=
  OpenClaim.holds_of_wide 4 Try.f4 rfl rfl rfl rfl rfl rfl rfl ⟨rfl, rfl, rfl, rfl, rfl⟩ rfl rfl rfl rfl rfl (by kernel_rfl) Try.func4 (by kernel_rfl)
    (of_decide_eq_true (by kernel_rfl)) (by unfold Func.isWrapper; first | (rw [if_pos (by decide +kernel)]; kernel_rfl) | (rw [if_neg (by decide +kernel)]; exact ⟨rfl, rfl⟩))
    (fun os started H enc _ => lifted os started H enc)

/-- THE STATEMENT. -/
theorem proved : Rows.WaveMaysSaid := over
#print axioms proved
end Go.Proofs.Ytefgfkicacbmeaa.waveMays
