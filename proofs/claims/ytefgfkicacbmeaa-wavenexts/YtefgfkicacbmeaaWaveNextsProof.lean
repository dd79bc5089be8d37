/-
  For every matrix w, valid or not, and every three numbers a, b and x, Go's wave.Next(w, a, b, x) returns the number or the error that the document's answer returns (P10.2).
  No condition.
-/
import Derived.Test.YtefgfkicacbmeaaRows
import Derived.Test.YtefgfkicacbmeaaFrame
import Derived.Test.YtefgfkicacbmeaaWavRn
import Derived.WalkKit
import Derived.ProofKit
import Derived.OpenShut
import Derived.ChangeOld
import Derived.Below
import Derived.Carry
import Derived.SizedLaws
import Derived.Deep.RegionWith
import Derived.Deep.RegionHeld3
namespace Go.Proofs.Ytefgfkicacbmeaa.waveNexts
open Go.ChangeShapes Go.WideShapes Go.ChangeAt Go.RowKit Words
set_option linter.unusedVariables false

theorem own : ownKnob Try.prog.godebug = none := by kernel_rfl
theorem laidOut : laidOutB Try.prog = true := by kernel_rfl

set_option maxRecDepth 100000 in
set_option maxHeartbeats 4000000 in
/-- The walk: the Go text returns true, and writes nothing that was there. -/
theorem walk (A0 : Option Addr) (l0 : List Lev) (c0 : Nat) (a1 : Int) (a2 : Int) (a3 : Int) (w : World) (hle0 : l0.length ≤ c0) (hcap0 : c0 * 32 ≤ 140737488351232) (hnil0 : A0 = none → c0 = 0) (w0 : Mat w w.heap.size A0 l0) (f0 : ∀ v ∈ l0, v.Fits) (w1 : (Lit.int .i64 a1).wf = true) (w2 : (Lit.int .i64 a2).wf = true) (w3 : (Lit.int .i64 a3).wf = true) :
    Calls Try.prog 9 #[.agg #[.slice A0 l0.length c0], .int .i64 a1, .int .i64 a2, .int .i64 a3] w fun e w' => e = .returned (.bool true) ∧ Below w.heap.size w w' := by
  have hk : l0.length ≤ 17592186044416 := by omega
  have hws : ∀ v ∈ l0, v.ws.length ≤ 17592186044416 := fun v hv => by have := (f0 v hv).le; have := (f0 v hv).room; omega
  have HW := Lib.hid w0
  by_cases hS : Sound l0
  · obtain ⟨n, hV⟩ := hS.wv
    have H1 := Lib.hid (fun W hW => wnx_any n A0 l0 c0 a1 a2 a3 W hV hW)
    have H2 := Lib.hid (fun W hW => rwnx_any n A0 l0 c0 a1 a2 a3 W hV hws hW)
    clear hS hV hws f0 w0
    generalize nextV10 n (fns l0) a1 a2 a3 = V at *
    generalize nextE10 n (fns l0) a1 a2 a3 = Q at *
    have hv : (V == V) = true := by simp
    have hq : (Q == Q) = true := by simp
    generalize l0.length = k at *
    go_enter Try.func9, Try.ntmps9
    go_wp2_with fail
    refine (H1.out _ (by exact HW.out.alloc _)).mono ?_
    rintro e w1 ⟨rfl, hb1⟩
    have hc1 := bcell hb1
    go_wp2_with fail
    refine (H2.out _ (by exact (HW.out.alloc _).on hb1)).mono ?_
    rintro e w2 ⟨rfl, hb2⟩
    go_wp2
    go_ret
    exact ⟨rfl, chain (chain (bnew _ _) hb1) hb2⟩
  · have H1 := Lib.hid (fun W hW => wnx_form A0 l0 c0 a1 a2 a3 W hk hS hW)
    have H2 := Lib.hid (fun W hW => rwnx_form A0 l0 c0 a1 a2 a3 W hk hws hS hW)
    clear hS hws f0 w0
    generalize l0.length = k at *
    go_enter Try.func9, Try.ntmps9
    go_wp2_with fail
    refine (H1.out _ (by exact HW.out.alloc _)).mono ?_
    rintro e w1 ⟨rfl, hb1⟩
    have hc1 := bcell hb1
    go_wp2_with fail
    refine (H2.out _ (by exact (HW.out.alloc _).on hb1)).mono ?_
    rintro e w2 ⟨rfl, hb2⟩
    go_wp2
    go_ret
    exact ⟨rfl, chain (chain (bnew _ _) hb1) hb2⟩

set_option maxRecDepth 100000 in
theorem lifted (os : Os) (started : os.Started) (H : Type) (enc : TypeId × Value → H) :
    ReturnsInHanded {} Try.checked os 9 .any (Rows.waveNextsSpec.pre6 enc Try.prog Try.f9 Rows.waveNextsRow.domain false) (Rows.waveNextsSpec.post enc Try.prog Try.f9 false true false false) := by
  refine returnsInHanded_of_change_sized (C := Try.checked) own started (by kernel_rfl) Try.func9
    (ChangeSpec.witness6 (enc := enc) (C := Try.checked) false ⟨#[], #[.agg #[.slice none 0 0], .int .i64 0, .int .i64 0, .int .i64 0], []⟩ 8 (by kernel_rfl) (by kernel_rfl) (by kernel_rfl) (by kernel_rfl)) ?_
  intro W base args ds gs before hval0 hW hcnd hsz0 _
  have hval : ∀ (j : Nat) t v, Try.f9.params[j]? = some t → args[j]? = some v → Value.okWide Try.prog W .any base t v := hval0
  have hW' := hW
  obtain ⟨p, q, hA0, hV, rfl, hfz, hnd⟩ := hW
  have hA : DataW.TrodAll enc Try.prog W 0 (fun _ => true) true Try.f9.params.toList args.toList ds p := hA0
  have hsz : (DataW.weightsEach Try.prog (Try.f9.params.toList ++ Rows.waveNextsSpec.plain.varTypes Try.prog) (ds ++ gs)).all (· ≤ reachBytes) = true := hsz0
  rw [Try.params9] at hA hval hsz
  obtain ⟨v0, vs0, d0, ds0, p0, q0, hargs, rfl, rfl, h0, r0⟩ := trodAll_cons hA
  obtain ⟨v1, vs1, d1, ds1, p1, q1, rfl, rfl, rfl, h1, r1⟩ := trodAll_cons r0
  obtain ⟨v2, vs2, d2, ds2, p2, q2, rfl, rfl, rfl, h2, r2⟩ := trodAll_cons r1
  obtain ⟨v3, vs3, d3, ds3, p3, q3, rfl, rfl, rfl, h3, r3⟩ := trodAll_cons r2
  obtain ⟨rfl, rfl, rfl⟩ := trodAll_nil r3
  obtain rfl : args = #[v0, v1, v2, v3] := by cases args; simp_all
  obtain ⟨rfl, rfl⟩ := trodVars_none hV
  obtain ⟨cs0, rfl, hsize0⟩ := okWide_struct Try.underlying25 (hval 0 25 v0 rfl rfl)
  have k0 := h0
  have lt0 : ∀ x ∈ p0, x.block < W.heap.size := by obtain ⟨m, hm⟩ := k0; exact DataW.trod_lt m _ _ _ hm
  obtain ⟨fuel0, hf0⟩ := h0
  obtain ⟨A0, l0, c0, hcs0, hle0, hcap0, hnil0, w0, f0⟩ := rd_wave Try.underlying25 (by kernel_rfl) rfl rfl (by kernel_rfl) Try.underlying23 Try.underlying32 (by kernel_rfl) (by kernel_rfl) rfl rfl rfl rfl Try.underlying3 (by kernel_rfl) Try.underlying30 (by kernel_rfl) Try.underlying95 (by kernel_rfl) (by kernel_rfl) hf0 (weight_arg hsz (j := 0) (t := 25) rfl rfl)
  have hcs0_ : cs0 = #[.slice A0 l0.length c0] := Array.toList_inj.1 hcs0
  subst hcs0_
  clear hcs0
  obtain ⟨a1, rfl, rfl, rfl, w1⟩ := open_int Try.underlying3 (hval 1 3 v1 rfl rfl) h1
  obtain ⟨a2, rfl, rfl, rfl, w2⟩ := open_int Try.underlying3 (hval 2 3 v2 rfl rfl) h2
  obtain ⟨a3, rfl, rfl, rfl, w3⟩ := open_int Try.underlying3 (hval 3 3 v3 rfl rfl) h3
  clear hA0 hval0
  refine (walk A0 l0 c0 a1 a2 a3 W hle0 hcap0 hnil0 w0 f0 w1 w2 w3).mono fun e W' ⟨he, bel⟩ => ?_
  subst he
  exact ⟨_, rfl, _, _, _, [], _, [], hW', trodAll_mk1 (shut_bool Try.underlying4 _), (trodAll_cons_mk (Below.trod laidOut (by kernel_rfl) (of_decide_eq_true (by kernel_rfl)) k0 bel lt0) (trodAll_cons_mk (shut_int Try.underlying3 w1) (trodAll_cons_mk (shut_int Try.underlying3 w2) (trodAll_cons_mk (shut_int Try.underlying3 w3) trodAll_mk0)))), rfl, bel.frame _, fun h => by cases h⟩

theorem over : Rows.waveNextsRow.holds Try.pinned (OpenSpec.ofChange Rows.waveNextsSpec) :=
  OpenClaim.holds_of_wide 9 Try.f9 rfl rfl rfl rfl rfl rfl rfl ⟨rfl, rfl, rfl, rfl, rfl⟩ rfl rfl rfl rfl rfl (by kernel_rfl) Try.func9 (by kernel_rfl)
    (of_decide_eq_true (by kernel_rfl)) (by unfold Func.isWrapper; first | (rw [if_pos (by decide +kernel)]; kernel_rfl) | (rw [if_neg (by decide +kernel)]; exact ⟨rfl, rfl⟩))
    (fun os started H enc _ => lifted os started H enc)

/-- THE STATEMENT. -/
theorem proved : Rows.WaveNextsSaid := over
#print axioms proved
end Go.Proofs.Ytefgfkicacbmeaa.waveNexts
