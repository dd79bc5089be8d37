/-
  For every two numbers n and number, Go's perm.Order(n, number) returns the list or the error that the document's answer returns (P11.4).
  No condition.
-/
import Derived.Test.YtehmngecpipebaaRows
import Derived.Test.YtehmngecpipebaaFrame
import Derived.Test.YtehmngecpipebaaPermRo
import Derived.Test.YtehmngecpipebaaSameI
import Derived.WalkKit
import Derived.ProofKit
import Derived.OpenShut
import Derived.ChangeOld
import Derived.Below
import Derived.Carry
import Derived.SizedLaws
import Derived.Deep.RegionWith
import Derived.Deep.RegionHeld3
namespace Go.Proofs.Ytehmngecpipebaa.permOrders
open Go.ChangeShapes Go.WideShapes Go.ChangeAt Go.RowKit Words
set_option linter.unusedVariables false

theorem own : ownKnob Try.prog.godebug = none := by kernel_rfl
theorem laidOut : laidOutB Try.prog = true := by kernel_rfl
/-- Both tell the same error. -/
theorem same_no (a b : Int) (r : Int) (w : World)
    (h1 : ∀ W, Below w.heap.size w W → Calls Try.prog 32 #[.int .i64 a, .int .i64 b] W (NoPL W r))
    (h2 : ∀ W, Below w.heap.size w W → Calls Try.prog 33 #[.int .i64 a, .int .i64 b] W (NoPL W r)) :
    Calls Try.prog 10 #[.int .i64 a, .int .i64 b] w fun e w' => e = .returned (.bool true) ∧ Below w.heap.size w w' := by
  have H1 := Lib.hid h1
  have H2 := Lib.hid h2
  have HS := Lib.hid (fun W => sameIntsL_eq none none [] 0 0 W (by decide) Lies.nil Lies.nil)
  have hxx : (r == r) = true := by simp
  clear h1 h2
  go_enter Try.func10, Try.ntmps10
  go_wp2_with fail
  refine (H1.out _ (Below.refl _ _)).mono ?_
  rintro e w1 ⟨rfl, hb1⟩
  go_wp2_with fail
  refine (H2.out _ hb1).mono ?_
  rintro e w2 ⟨rfl, hb2⟩
  go_wp2_with fail
  refine (HS.out _).mono ?_
  rintro e w3 ⟨rfl, hb3⟩
  go_wp2_with fail
  go_ret
  exact ⟨rfl, chain (chain hb1 hb2) hb3⟩

set_option maxHeartbeats 1000000 in
/-- Both tell the same list. -/
theorem same_yes (a b : Int) (m : Nat) (q : List Nat) (w : World) (hq : q.length = m) (hm : m ≤ 300)
    (h1 : ∀ W, Below w.heap.size w W → Calls Try.prog 32 #[.int .i64 a, .int .i64 b] W (GivesPL W q m))
    (h2 : ∀ W, Below w.heap.size w W → Calls Try.prog 33 #[.int .i64 a, .int .i64 b] W (GivesPL W q m)) :
    Calls Try.prog 10 #[.int .i64 a, .int .i64 b] w fun e w' => e = .returned (.bool true) ∧ Below w.heap.size w w' := by
  have H1 := Lib.hid h1
  have H2 := Lib.hid h2
  have HS := Lib.hid (fun A A2 c c2 W h1 h2 => sameIntsL_eq A A2 (ofN q) c c2 W (by rw [ofN_length]; omega) h1 h2)
  rw [ofN_length, hq] at HS
  unfold GivesPL at H1 H2
  clear h1 h2 hq
  go_enter Try.func10, Try.ntmps10
  go_wp2_with fail
  refine (H1.out _ (Below.refl _ _)).mono ?_
  rintro e w1 ⟨A1, c1, rfl, _, hl1, _, _, hb1⟩
  go_wp2_with fail
  refine (H2.out _ hb1).mono ?_
  rintro e w2 ⟨A2, c2, rfl, _, hl2, _, _, hb2⟩
  go_wp2_with fail
  refine (HS.out A1 A2 c1 c2 _ (by unfold ofN; rw [← natC_map]; exact hl1.on hb2) (by unfold ofN; rw [← natC_map]; exact hl2)).mono ?_
  rintro e w3 ⟨rfl, hb3⟩
  go_wp2_with fail
  go_ret
  exact ⟨rfl, chain (chain hb1 hb2) hb3⟩


set_option maxRecDepth 100000 in
set_option maxHeartbeats 4000000 in
/-- The walk: the Go text returns true, and writes nothing that was there. -/
theorem walk (a0 : Int) (a1 : Int) (w : World) (w0 : (Lit.int .i64 a0).wf = true) (w1 : (Lit.int .i64 a1).wf = true) :
    Calls Try.prog 10 #[.int .i64 a0, .int .i64 a1] w fun e w' => e = .returned (.bool true) ∧ Below w.heap.size w w' := by
  by_cases h : a0 < 0 ∨ 20 < a0 ∨ a1 < 0 ∨ (fact a0.toNat : Int) ≤ a1
  · exact same_no a0 a1 2 w (fun W _ => order_err a0 a1 W h) (fun W _ => rorder_err a0 a1 W h)
  · obtain ⟨n, rfl⟩ := Int.eq_ofNat_of_zero_le (a := a0) (by omega)
    obtain ⟨N, rfl⟩ := Int.eq_ofNat_of_zero_le (a := a1) (by omega)
    rw [Int.toNat_natCast] at h
    have hn : n ≤ 20 := by omega
    have hN : N < fact n := by omega
    exact same_yes n N n (ordL n (List.range n) N) w (ordL_length n _ _) (by omega) (fun W _ => order_ok n N W hn hN) (fun W _ => rorder_ok n N W hn hN)

set_option maxRecDepth 100000 in
theorem lifted (os : Os) (started : os.Started) (H : Type) (enc : TypeId × Value → H) :
    ReturnsInHanded {} Try.checked os 10 .any (Rows.permOrdersSpec.pre6 enc Try.prog Try.f10 Rows.permOrdersRow.domain false) (Rows.permOrdersSpec.post enc Try.prog Try.f10 false true false false) := by
  refine returnsInHanded_of_change_sized (C := Try.checked) own started (by kernel_rfl) Try.func10
    (ChangeSpec.witness6 (enc := enc) (C := Try.checked) false ⟨#[], #[.int .i64 0, .int .i64 0], []⟩ 8 (by kernel_rfl) (by kernel_rfl) (by kernel_rfl) (by kernel_rfl)) ?_
  intro W base args ds gs before hval0 hW hcnd hsz0 _
  have hval : ∀ (j : Nat) t v, Try.f10.params[j]? = some t → args[j]? = some v → Value.okWide Try.prog W .any base t v := hval0
  have hW' := hW
  obtain ⟨p, q, hA0, hV, rfl, hfz, hnd⟩ := hW
  have hA : DataW.TrodAll enc Try.prog W 0 (fun _ => true) true Try.f10.params.toList args.toList ds p := hA0
  have hsz : (DataW.weightsEach Try.prog (Try.f10.params.toList ++ Rows.permOrdersSpec.plain.varTypes Try.prog) (ds ++ gs)).all (· ≤ reachBytes) = true := hsz0
  rw [Try.params10] at hA hval hsz
  obtain ⟨v0, vs0, d0, ds0, p0, q0, hargs, rfl, rfl, h0, r0⟩ := trodAll_cons hA
  obtain ⟨v1, vs1, d1, ds1, p1, q1, rfl, rfl, rfl, h1, r1⟩ := trodAll_cons r0
  obtain ⟨rfl, rfl, rfl⟩ := trodAll_nil r1
  obtain rfl : args = #[v0, v1] := by cases args; simp_all
  obtain ⟨rfl, rfl⟩ := trodVars_none hV
  obtain ⟨a0, rfl, rfl, rfl, w0⟩ := open_int Try.underlying3 (hval 0 3 v0 rfl rfl) h0
  obtain ⟨a1, rfl, rfl, rfl, w1⟩ := open_int Try.underlying3 (hval 1 3 v1 rfl rfl) h1
  clear hA0 hval0
  refine (walk a0 a1 W w0 w1).mono fun e W' ⟨he, bel⟩ => ?_
  subst he
  exact ⟨_, rfl, _, _, _, [], _, [], hW', trodAll_mk1 (shut_bool Try.underlying4 _), (trodAll_cons_mk (shut_int Try.underlying3 w0) (trodAll_cons_mk (shut_int Try.underlying3 w1) trodAll_mk0)), rfl, bel.frame _, fun h => by cases h⟩

theorem over : Rows.permOrdersRow.holds Try.pinned (OpenSpec.ofChange Rows.permOrdersSpec) :=
  OpenClaim.holds_of_wide 10 Try.f10 rfl rfl rfl rfl rfl rfl rfl ⟨rfl, rfl, rfl, rfl, rfl⟩ rfl rfl rfl rfl rfl (by kernel_rfl) Try.func10 (by kernel_rfl)
    (of_decide_eq_true (by kernel_rfl)) (by unfold Func.isWrapper; first | (rw [if_pos (by decide +kernel)]; kernel_rfl) | (rw [if_neg (by decide +kernel)]; exact ⟨rfl, rfl⟩))
    (fun os started H enc _ => lifted os started H enc)

/-- THE STATEMENT. -/
theorem proved : Rows.PermOrdersSaid := over
#print axioms proved
end Go.Proofs.Ytehmngecpipebaa.permOrders
