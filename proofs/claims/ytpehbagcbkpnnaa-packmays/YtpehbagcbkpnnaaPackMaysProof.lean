/-
  For every packed array p (any length, any width, any words), Go's pack.May(p) returns what the document's answer returns (P3.1).
  No condition.
-/
import Derived.Test.YtpehbagcbkpnnaaRows
import Derived.Test.YtpehbagcbkpnnaaFrame
import Derived.Test.YtpehbagcbkpnnaaPackRef
import Derived.WalkKit
import Derived.ProofKit
import Derived.OpenShut
import Derived.ChangeOld
import Derived.Below
import Derived.Carry
import Derived.SizedLaws
import Derived.Deep.RegionWith
import Derived.Deep.RegionHeld3
namespace Go.Proofs.Ytpehbagcbkpnnaa.packMays
open Go.ChangeShapes Go.WideShapes Go.ChangeAt Go.RowKit Words
set_option linter.unusedVariables false

theorem own : ownKnob Try.prog.godebug = none := by kernel_rfl
theorem laidOut : laidOutB Try.prog = true := by kernel_rfl

set_option maxHeartbeats 1000000 in
/-- The walk: the Go text returns true, and writes nothing that was there. -/
theorem walk (n0 d0 : Int) (A0 : Option Addr) (l0 : List Nat) (c0 : Nat) (w : World) (wn0 : (Lit.int .i64 n0).wf = true) (wd0 : (Lit.int .i64 d0).wf = true) (hle0 : l0.length ≤ c0) (hcap0 : c0 * 8 ≤ 140737488351232) (hnil0 : A0 = none → c0 = 0) (w0 : Words64 w w.heap.size A0 l0) :
    Calls Try.prog 4 #[.agg #[.int .i64 n0, .int .i64 d0, .slice A0 l0.length c0]] w fun e w' => e = .returned (.bool true) ∧ Below w.heap.size w w' := by
  by_cases h : ∃ m k : Nat, n0 = m ∧ d0 = k ∧ PValid m k l0
  · obtain ⟨m, k, rfl, rfl, hV⟩ := h
    have H1 := Lib.hid (fun W (h : Words64 W W.heap.size A0 l0) => pmay_yes m k A0 l0 c0 W hV h)
    have H2 := Lib.hid (fun W (h : Words64 W W.heap.size A0 l0) => rpmay_yes m k A0 l0 c0 W hV h)
    have HW := Lib.hid w0
    clear hV w0 hnil0 wn0 wd0
    go_enter Try.func4, Try.ntmps4
    go_wp2_with fail
    go_region_with (first
      | (go_at_call 12; refine (H1.out _ ?_).mono ?_; (first | exact HW.out.alloc _ | exact (HW.out.alloc _).on hb2 | exact (HW.out.alloc _).drew.on hb2); rintro e w1 ⟨rfl, hb1⟩; have hc1 := bcell hb1)
      | (go_at_call 13; refine (H2.out _ ?_).mono ?_; (first | exact HW.out.alloc _ | exact (HW.out.alloc _).on hb1 | exact (HW.out.alloc _).drew.on hb1); rintro e w2 ⟨rfl, hb2⟩; have hc2 := bcell hb2))
    all_goals (go_wp2; go_ret; refine ⟨rfl, ?_⟩)
    all_goals first
      | exact chain (chain (bnew _ _).drew hb1) hb2
      | exact chain (chain (bnew _ _).drew hb2) hb1
      | exact chain (chain (bnew _ _) hb1) hb2
      | exact chain (chain (bnew _ _) hb2) hb1
  · have hV : ∀ m k : Nat, n0 = m → d0 = k → ¬ PValid m k l0 := fun m k e e2 hv => h ⟨m, k, e, e2, hv⟩
    have H1 := Lib.hid (fun W (h : Words64 W W.heap.size A0 l0) => pmay_no n0 d0 A0 l0 c0 W hV h)
    have H2 := Lib.hid (fun W (h : Words64 W W.heap.size A0 l0) => rpmay_no n0 d0 A0 l0 c0 W hV (by omega) h)
    have HW := Lib.hid w0
    clear hV w0 hnil0 wn0 wd0 h
    go_enter Try.func4, Try.ntmps4
    go_wp2_with fail
    go_region_with (first
      | (go_at_call 12; refine (H1.out _ ?_).mono ?_; (first | exact HW.out.alloc _ | exact (HW.out.alloc _).on hb2 | exact (HW.out.alloc _).drew.on hb2); rintro e w1 ⟨rfl, hb1⟩; have hc1 := bcell hb1)
      | (go_at_call 13; refine (H2.out _ ?_).mono ?_; (first | exact HW.out.alloc _ | exact (HW.out.alloc _).on hb1 | exact (HW.out.alloc _).drew.on hb1); rintro e w2 ⟨rfl, hb2⟩; have hc2 := bcell hb2))
    all_goals (go_wp2; go_ret; refine ⟨rfl, ?_⟩)
    all_goals first
      | exact chain (chain (bnew _ _).drew hb1) hb2
      | exact chain (chain (bnew _ _).drew hb2) hb1
      | exact chain (chain (bnew _ _) hb1) hb2
      | exact chain (chain (bnew _ _) hb2) hb1

set_option maxRecDepth 100000 in
theorem lifted (os : Os) (started : os.Started) (H : Type) (enc : TypeId × Value → H) :
    ReturnsInHanded {} Try.checked os 4 .any (Rows.packMaysSpec.pre6 enc Try.prog Try.f4 Rows.packMaysRow.domain false) (Rows.packMaysSpec.post enc Try.prog Try.f4 false true false false) := by
  refine returnsInHanded_of_change_sized (C := Try.checked) own started (by kernel_rfl) Try.func4
    (ChangeSpec.witness6 (enc := enc) (C := Try.checked) false ⟨#[], #[.agg #[.int .i64 0, .int .i64 0, .slice none 0 0]], []⟩ 8 (by kernel_rfl) (by kernel_rfl) (by kernel_rfl) (by kernel_rfl)) ?_
  intro W base args ds gs before hval0 hW hcnd hsz0 _
  have hval : ∀ (j : Nat) t v, Try.f4.params[j]? = some t → args[j]? = some v → Value.okWide Try.prog W .any base t v := hval0
  have hW' := hW
  obtain ⟨p, q, hA0, hV, rfl, hfz, hnd⟩ := hW
  have hA : DataW.TrodAll enc Try.prog W 0 (fun _ => true) true Try.f4.params.toList args.toList ds p := hA0
  have hsz : (DataW.weightsEach Try.prog (Try.f4.params.toList ++ Rows.packMaysSpec.plain.varTypes Try.prog) (ds ++ gs)).all (· ≤ reachBytes) = true := hsz0
  rw [Try.params4] at hA hval hsz
  obtain ⟨v0, vs0, d0, ds0, p0, q0, hargs, rfl, rfl, h0, r0⟩ := trodAll_cons hA
  obtain ⟨rfl, rfl, rfl⟩ := trodAll_nil r0
  obtain rfl : args = #[v0] := by cases args; simp_all
  obtain ⟨rfl, rfl⟩ := trodVars_none hV
  obtain ⟨cs0, rfl, hsize0⟩ := okWide_struct Try.underlying25 (hval 0 25 v0 rfl rfl)
  have k0 := h0
  have lt0 : ∀ x ∈ p0, x.block < W.heap.size := by obtain ⟨m, hm⟩ := k0; exact DataW.trod_lt m _ _ _ hm
  obtain ⟨fuel0, hf0⟩ := h0
  obtain ⟨n0, d0, A0, l0, c0, hcs0, wn0, wd0, hle0, hcap0, hnil0, w0⟩ := rd_packed Try.underlying25 (by kernel_rfl) rfl rfl rfl rfl rfl rfl Try.underlying3 (by kernel_rfl) Try.underlying23 (by kernel_rfl) Try.underlying40 (by kernel_rfl) (by kernel_rfl) hf0 (weight_arg hsz (j := 0) (t := 25) rfl rfl)
  have hcs0_ : cs0 = #[.int .i64 n0, .int .i64 d0, .slice A0 l0.length c0] := Array.toList_inj.1 hcs0
  subst hcs0_
  clear hcs0
  clear hA0 hval0
  refine (walk n0 d0 A0 l0 c0 W wn0 wd0 hle0 hcap0 hnil0 w0).mono fun e W' ⟨he, bel⟩ => ?_
  subst he
  exact ⟨_, rfl, _, _, _, [], _, [], hW', trodAll_mk1 (shut_bool Try.underlying4 _), (trodAll_cons_mk (Below.trod laidOut (by kernel_rfl) (of_decide_eq_true (by kernel_rfl)) k0 bel lt0) trodAll_mk0), rfl, bel.frame _, fun h => by cases h⟩

theorem over : Rows.packMaysRow.holds Try.pinned (OpenSpec.ofChange Rows.packMaysSpec) :=
  OpenClaim.holds_of_wide 4 Try.f4 rfl rfl rfl rfl rfl rfl rfl ⟨rfl, rfl, rfl, rfl, rfl⟩ rfl rfl rfl rfl rfl (by kernel_rfl) Try.func4 (by kernel_rfl)
    (of_decide_eq_true (by kernel_rfl)) (by unfold Func.isWrapper; first | (rw [if_pos (by decide +kernel)]; kernel_rfl) | (rw [if_neg (by decide +kernel)]; exact ⟨rfl, rfl⟩))
    (fun os started H enc _ => lifted os started H enc)

/-- THE STATEMENT. -/
theorem proved : Rows.PackMaysSaid := over
#print axioms proved
end Go.Proofs.Ytpehbagcbkpnnaa.packMays
