/-
  For every tree t and every two numbers i, by, Go's fen.Add(t, i, by) returns the tree or the error that the document's answer returns (P8.2).
  No condition.
-/
import Derived.Test.YtegcpfopdaoebaaRows
import Derived.Test.YtegcpfopdaoebaaFrame
import Derived.Test.YtegcpfopdaoebaaFenRg
import Derived.Test.YtegcpfopdaoebaaSameI
import Derived.WalkKit
import Derived.ProofKit
import Derived.OpenShut
import Derived.ChangeOld
import Derived.Below
import Derived.Carry
import Derived.SizedLaws
import Derived.Deep.RegionWith
import Derived.Deep.RegionHeld3
namespace Go.Proofs.Ytegcpfopdaoebaa.fenAdds
open Go.ChangeShapes Go.WideShapes Go.ChangeAt Go.RowKit Words
set_option linter.unusedVariables false

theorem own : ownKnob Try.prog.godebug = none := by kernel_rfl
theorem laidOut : laidOutB Try.prog = true := by kernel_rfl
/-- Both tell the same error. -/
theorem same_no (A : Option Addr) (n c : Nat) (i d : Int) (r : Int) (w : World)
    (h1 : ∀ W, Below w.heap.size w W → Calls Try.prog 13 #[.slice A n c, .int .i64 i, .int .i64 d] W (NoT W r))
    (h2 : ∀ W, Below w.heap.size w W → Calls Try.prog 14 #[.slice A n c, .int .i64 i, .int .i64 d] W (NoT W r)) :
    Calls Try.prog 4 #[.slice A n c, .int .i64 i, .int .i64 d] w fun e w' => e = .returned (.bool true) ∧ Below w.heap.size w w' := by
  have H1 := Lib.hid h1
  have H2 := Lib.hid h2
  have HS := Lib.hid (fun W => sameIntsL_eq none none [] 0 0 W (by decide) Lies.nil Lies.nil)
  have hxx : (r == r) = true := by simp
  clear h1 h2
  go_enter Try.func4, Try.ntmps4
  go_wp2_with fail
  refine (H1.out _ (Below.refl _ _)).mono ?_
  rintro e w1 ⟨rfl, hb1⟩
  go_wp2_with fail
  refine (H2.out _ hb1).mono ?_
  rintro e w2 ⟨rfl, hb2⟩
  go_wp2_with fail
  refine (HS.out _).mono ?_
  rintro e w3 ⟨rfl, hb3⟩
  go_wp2_with fail
  go_ret
  exact ⟨rfl, chain (chain hb1 hb2) hb3⟩

set_option maxHeartbeats 1000000 in
/-- Both tell the same tree. -/
theorem same_yes (A : Option Addr) (n c m : Nat) (i d : Int) (f : Nat → Int) (w : World) (hm : m ≤ 300)
    (h1 : ∀ W, Below w.heap.size w W → Calls Try.prog 13 #[.slice A n c, .int .i64 i, .int .i64 d] W (GivesT W f m))
    (h2 : ∀ W, Below w.heap.size w W → Calls Try.prog 14 #[.slice A n c, .int .i64 i, .int .i64 d] W (GivesT W f m)) :
    Calls Try.prog 4 #[.slice A n c, .int .i64 i, .int .i64 d] w fun e w' => e = .returned (.bool true) ∧ Below w.heap.size w w' := by
  have H1 := Lib.hid h1
  have H2 := Lib.hid h2
  have HS := Lib.hid (fun A A2 c c2 W h1 h2 => sameIntsL_eq A A2 (vals f m) c c2 W (by rw [vals_length]; omega) h1 h2)
  rw [vals_length] at HS
  unfold GivesT at H1 H2
  clear h1 h2
  go_enter Try.func4, Try.ntmps4
  go_wp2_with fail
  refine (H1.out _ (Below.refl _ _)).mono ?_
  rintro e w1 ⟨A1, c1, rfl, hl1, _, _, hb1⟩
  go_wp2_with fail
  refine (H2.out _ hb1).mono ?_
  rintro e w2 ⟨A2, c2, rfl, hl2, _, _, hb2⟩
  go_wp2_with fail
  refine (HS.out A1 A2 c1 c2 _ (hl1.on hb2) hl2).mono ?_
  rintro e w3 ⟨rfl, hb3⟩
  go_wp2_with fail
  go_ret
  exact ⟨rfl, chain (chain hb1 hb2) hb3⟩


set_option maxRecDepth 100000 in
set_option maxHeartbeats 4000000 in
/-- The walk: the Go text returns true, and writes nothing that was there. -/
theorem walk (A0 : Option Addr) (l0 : List Int) (c0 : Nat) (a1 : Int) (a2 : Int) (w : World) (hle0 : l0.length ≤ c0) (hcap0 : c0 * 8 ≤ 140737488351232) (hnil0 : A0 = none → c0 = 0) (w0 : Lies w w.heap.size A0 (l0.map (.int .i64)) ∧ ∀ z ∈ l0, (Lit.int .i64 z).wf = true) (w1 : (Lit.int .i64 a1).wf = true) (w2 : (Lit.int .i64 a2).wf = true) :
    Calls Try.prog 4 #[.slice A0 l0.length c0, .int .i64 a1, .int .i64 a2] w fun e w' => e = .returned (.bool true) ∧ Below w.heap.size w w' := by
  have hL : ∀ W, Below w.heap.size w W → Lies W W.heap.size A0 (l0.map (.int .i64)) := fun W h => w0.1.on h
  by_cases hv : Valid l0
  · by_cases hr : a1 < 0 ∨ (l0.length : Int) ≤ a1 ∨ ¬ In 1048576 a2
    · exact same_no A0 l0.length c0 a1 a2 2 w (fun W h => fadd_range A0 l0 c0 a1 a2 W hv hr (hL W h)) (fun W h => rfadd_range A0 l0 c0 a1 a2 W hv hr (hL W h))
    · obtain ⟨p, rfl⟩ := Int.eq_ofNat_of_zero_le (a := a1) (by omega)
      have hp : p < l0.length := by omega
      have hd : In 1048576 a2 := Classical.byContradiction fun h => hr (.inr (.inr h))
      by_cases hV : Valid (vals (added (at0 l0) p a2) l0.length)
      · exact same_yes A0 l0.length c0 l0.length p a2 _ w hv.1 (fun W h => (fadd_both A0 l0 c0 p a2 W hv hp hd hnil0 (hL W h)).mono fun e w' hh => hh.elim (fun x => x.2) (fun x => absurd hV x.1)) (fun W h => (rfadd_both A0 l0 c0 p a2 W hv hp hd (hL W h)).mono fun e w' hh => hh.elim (fun x => x.2) (fun x => absurd hV x.1))
      · exact same_no A0 l0.length c0 p a2 1 w (fun W h => (fadd_both A0 l0 c0 p a2 W hv hp hd hnil0 (hL W h)).mono fun e w' hh => hh.elim (fun x => absurd x.1 hV) (fun x => x.2)) (fun W h => (rfadd_both A0 l0 c0 p a2 W hv hp hd (hL W h)).mono fun e w' hh => hh.elim (fun x => absurd x.1 hV) (fun x => x.2))
  · exact same_no A0 l0.length c0 a1 a2 4 w (fun W h => fadd_form A0 l0 c0 a1 a2 W (by omega) hv (hL W h)) (fun W h => rfadd_form A0 l0 c0 a1 a2 W (by omega) hv (hL W h))

set_option maxRecDepth 100000 in
theorem lifted (os : Os) (started : os.Started) (H : Type) (enc : TypeId × Value → H) :
    ReturnsInHanded {} Try.checked os 4 .any (Rows.fenAddsSpec.pre6 enc Try.prog Try.f4 Rows.fenAddsRow.domain false) (Rows.fenAddsSpec.post enc Try.prog Try.f4 false true false false) := by
  refine returnsInHanded_of_change_sized (C := Try.checked) own started (by kernel_rfl) Try.func4
    (ChangeSpec.witness6 (enc := enc) (C := Try.checked) false ⟨#[], #[.slice none 0 0, .int .i64 0, .int .i64 0], []⟩ 8 (by kernel_rfl) (by kernel_rfl) (by kernel_rfl) (by kernel_rfl)) ?_
  intro W base args ds gs before hval0 hW hcnd hsz0 _
  have hval : ∀ (j : Nat) t v, Try.f4.params[j]? = some t → args[j]? = some v → Value.okWide Try.prog W .any base t v := hval0
  have hW' := hW
  obtain ⟨p, q, hA0, hV, rfl, hfz, hnd⟩ := hW
  have hA : DataW.TrodAll enc Try.prog W 0 (fun _ => true) true Try.f4.params.toList args.toList ds p := hA0
  have hsz : (DataW.weightsEach Try.prog (Try.f4.params.toList ++ Rows.fenAddsSpec.plain.varTypes Try.prog) (ds ++ gs)).all (· ≤ reachBytes) = true := hsz0
  rw [Try.params4] at hA hval hsz
  obtain ⟨v0, vs0, d0, ds0, p0, q0, hargs, rfl, rfl, h0, r0⟩ := trodAll_cons hA
  obtain ⟨v1, vs1, d1, ds1, p1, q1, rfl, rfl, rfl, h1, r1⟩ := trodAll_cons r0
  obtain ⟨v2, vs2, d2, ds2, p2, q2, rfl, rfl, rfl, h2, r2⟩ := trodAll_cons r1
  obtain ⟨rfl, rfl, rfl⟩ := trodAll_nil r2
  obtain rfl : args = #[v0, v1, v2] := by cases args; simp_all
  obtain ⟨rfl, rfl⟩ := trodVars_none hV
  obtain ⟨A0, n0, c0, rfl⟩ := okWide_slice Try.underlying22 (hval 0 22 v0 rfl rfl)
  have k0 := h0
  have lt0 : ∀ x ∈ p0, x.block < W.heap.size := by obtain ⟨m, hm⟩ := k0; exact DataW.trod_lt m _ _ _ hm
  obtain ⟨fuel0, hf0⟩ := h0
  obtain ⟨A0_, l0, c0_, hcs0, hle0, hcap0, hnil0, w0⟩ := rd_ints Try.underlying22 Try.underlying3 (by kernel_rfl) (by kernel_rfl) hf0 (weight_arg hsz (j := 0) (t := 22) rfl rfl)
  have hcs0_ : [Value.slice A0 n0 c0] = [.slice A0_ l0.length c0_] := hcs0
  simp only [List.cons.injEq, Value.slice.injEq, and_true] at hcs0_
  obtain ⟨rfl, rfl, rfl⟩ := hcs0_
  clear hcs0
  obtain ⟨a1, rfl, rfl, rfl, w1⟩ := open_int Try.underlying3 (hval 1 3 v1 rfl rfl) h1
  obtain ⟨a2, rfl, rfl, rfl, w2⟩ := open_int Try.underlying3 (hval 2 3 v2 rfl rfl) h2
  clear hA0 hval0
  refine (walk A0 l0 c0 a1 a2 W hle0 hcap0 hnil0 w0 w1 w2).mono fun e W' ⟨he, bel⟩ => ?_
  subst he
  exact ⟨_, rfl, _, _, _, [], _, [], hW', trodAll_mk1 (shut_bool Try.underlying4 _), (trodAll_cons_mk (Below.trod laidOut (by kernel_rfl) (of_decide_eq_true (by kernel_rfl)) k0 bel lt0) (trodAll_cons_mk (shut_int Try.underlying3 w1) (trodAll_cons_mk (shut_int Try.underlying3 w2) trodAll_mk0))), rfl, bel.frame _, fun h => by cases h⟩

theorem over : Rows.fenAddsRow.holds Try.pinned (OpenSpec.ofChange Rows.fenAddsSpec) :=
  OpenClaim.holds_of_wide 4 Try.f4 rfl rfl rfl rfl rfl rfl rfl ⟨rfl, rfl, rfl, rfl, rfl⟩ rfl rfl rfl rfl rfl (by kernel_rfl) Try.func4 (by kernel_rfl)
    (of_decide_eq_true (by kernel_rfl)) (by unfold Func.isWrapper; first | (rw [if_pos (by decide +kernel)]; kernel_rfl) | (rw [if_neg (by decide +kernel)]; exact ⟨rfl, rfl⟩))
    (fun os started H enc _ => lifted os started H enc)

/-- THE STATEMENT. -/
theorem proved : Rows.FenAddsSaid := over
#print axioms proved
end Go.Proofs.Ytegcpfopdaoebaa.fenAdds
