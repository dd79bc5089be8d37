/-
  For every number n, brought into 1 to 1048576: the costs that Go's gam.Cost returns of its gamma code and of its delta code are without an error, the first is odd, the second greater by 1 at most, from 16 on not greater, from 32 on smaller.
  No condition.
-/
import Derived.Test.YtelcnkmgdohigaaRows
import Derived.Test.YtelcnkmgdohigaaFrame
import Derived.Test.YtelcnkmgdohigaaGamCst
import Derived.Test.YtelcnkmgdohigaaKeep3
import Derived.WalkKit
import Derived.ProofKit
import Derived.OpenShut
import Derived.ChangeOld
import Derived.Below
import Derived.Carry
import Derived.SizedLaws
import Derived.Deep.RegionWith
import Derived.Deep.RegionHeld3
namespace Go.Proofs.Ytelcnkmgdohigaa.gamLong
open Go.ChangeShapes Go.WideShapes Go.ChangeAt Go.RowKit Words
set_option linter.unusedVariables false

theorem own : ownKnob Try.prog.godebug = none := by kernel_rfl
theorem laidOut : laidOutB Try.prog = true := by kernel_rfl
theorem long_aux : ∀ L, 1 ≤ L → L ≤ 21 → 2 * Lib.bitLen L - 1 + L - 1 ≤ 2 * L - 1 + 1 ∧ (5 ≤ L → 2 * Lib.bitLen L - 1 + L - 1 ≤ 2 * L - 1) ∧ (6 ≤ L → 2 * Lib.bitLen L - 1 + L - 1 < 2 * L - 1) := by
  intro L h0 h1
  have h : ∀ L : Fin 22, 1 ≤ L.val → 2 * Lib.bitLen L.val - 1 + L.val - 1 ≤ 2 * L.val - 1 + 1 ∧ (5 ≤ L.val → 2 * Lib.bitLen L.val - 1 + L.val - 1 ≤ 2 * L.val - 1) ∧ (6 ≤ L.val → 2 * Lib.bitLen L.val - 1 + L.val - 1 < 2 * L.val - 1) := by decide
  exact h ⟨L, by omega⟩ h0

/-- The two costs of a number. -/
theorem long_any (m : Nat) (h0 : 1 ≤ m) (h1 : m ≤ 1048576) : ∃ x y : Nat, costAns 1 m = (x, 0) ∧ costAns 2 m = (y, 0) ∧ 1 ≤ x ∧ x ≤ 41 ∧ y ≤ 41 ∧ x % 2 = 1 ∧ y ≤ x + 1 ∧ (16 ≤ m → y ≤ x) ∧ (32 ≤ m → y < x) := by
  obtain ⟨b0, b1⟩ := blen_code (n := m) h0 (by omega)
  obtain ⟨r0, r1⟩ := blen_range (n := m) h0 (by omega)
  obtain ⟨l1, l2, l3⟩ := long_aux _ b0 b1
  have c1 := costOf_bound 1 h0 (show m ≤ 2097151 by omega)
  have c2 := costOf_bound 2 h0 (show m ≤ 2097151 by omega)
  have hc : Codes m := ⟨by omega, by omega⟩
  have e1 : costOf 1 m = 2 * Lib.bitLen m - 1 := rfl
  have e2 : costOf 2 m = 2 * Lib.bitLen (Lib.bitLen m) - 1 + Lib.bitLen m - 1 := rfl
  have hbig : ∀ k, 2 ^ k ≤ m → k < Lib.bitLen m := fun k hk => by
    rcases Nat.lt_or_ge k (Lib.bitLen m) with h | h
    · exact h
    · have := (blen_lt m (by omega) k).1 h
      omega
  refine ⟨costOf 1 m, costOf 2 m, ?_, ?_, by omega, by omega, by omega, by omega, by omega, fun h => ?_, fun h => ?_⟩
  · unfold costAns; rw [if_neg (fun h => h (.inl rfl)), if_neg (fun h => h hc)]; rfl
  · unfold costAns; rw [if_neg (fun h => h (.inr rfl)), if_neg (fun h => h hc)]; rfl
  · have := hbig 4 h
    have := l2 (by omega)
    omega
  · have := hbig 5 h
    have := l3 (by omega)
    omega


set_option maxHeartbeats 1000000 in
/-- The walk: the Go text returns true, and writes nothing that was there. -/
theorem walk (a0 : Int) (w : World) (w0 : (Lit.int .i64 a0).wf = true) :
    Calls Try.prog 8 #[.int .i64 a0] w fun e w' => e = .returned (.bool true) ∧ Below w.heap.size w w' := by
  have hP0 := pick_lt (n := 1048576) (by decide) a0
  have HP := Lib.hid (pick_any a0 1048576 · (by decide) (by decide) w0)
  generalize pick 1048576 a0 = q at *
  obtain ⟨x, y, e1, e2, h1, h2, h3, h4, h5, h6, h7⟩ := long_any (1 + q) (by omega) (by omega)
  have H1 := Lib.hid (cost_any 1 ((1 + q : Nat) : Int))
  have H2 := Lib.hid (cost_any 2 ((1 + q : Nat) : Int))
  rw [e1] at H1
  rw [e2] at H2
  simp only [Int.natCast_add] at H1 H2
  clear e1 e2 w0
  have hm : ((x : Int) % 2 == 1) = true := by simp; omega
  have hm2 : ((x : Int).tmod 2 == 1) = true := by rw [Int.tmod_eq_emod_of_nonneg (by omega)]; exact hm
  by_cases hA : 1 + q < 16
  · go_enter Try.func8, Try.ntmps8
    go_wp2_with fail
    refine (HP.out _).mono ?_
    rintro e w' ⟨rfl, rfl⟩
    go_wp2_with fail
    refine (H1.out _).mono ?_
    rintro e w' ⟨rfl, rfl⟩
    go_wp2_with fail
    refine (H2.out _).mono ?_
    rintro e w' ⟨rfl, rfl⟩
    go_wp2
    go_ret
    exact ⟨rfl, Below.refl _ _⟩
  · by_cases hB : 1 + q < 32
    · have h6' := h6 (by omega)
      clear h6 h7
      go_enter Try.func8, Try.ntmps8
      go_wp2_with fail
      refine (HP.out _).mono ?_
      rintro e w' ⟨rfl, rfl⟩
      go_wp2_with fail
      refine (H1.out _).mono ?_
      rintro e w' ⟨rfl, rfl⟩
      go_wp2_with fail
      refine (H2.out _).mono ?_
      rintro e w' ⟨rfl, rfl⟩
      go_wp2
      go_ret
      exact ⟨rfl, Below.refl _ _⟩
    · have h6' := h6 (by omega)
      have h7' := h7 (by omega)
      clear h6 h7
      go_enter Try.func8, Try.ntmps8
      go_wp2_with fail
      refine (HP.out _).mono ?_
      rintro e w' ⟨rfl, rfl⟩
      go_wp2_with fail
      refine (H1.out _).mono ?_
      rintro e w' ⟨rfl, rfl⟩
      go_wp2_with fail
      refine (H2.out _).mono ?_
      rintro e w' ⟨rfl, rfl⟩
      go_wp2
      go_ret
      exact ⟨rfl, Below.refl _ _⟩

set_option maxRecDepth 100000 in
theorem lifted (os : Os) (started : os.Started) (H : Type) (enc : TypeId × Value → H) :
    ReturnsInHanded {} Try.checked os 8 .any (Rows.gamLongSpec.pre6 enc Try.prog Try.f8 Rows.gamLongRow.domain false) (Rows.gamLongSpec.post enc Try.prog Try.f8 false true false false) := by
  refine returnsInHanded_of_change_sized (C := Try.checked) own started (by kernel_rfl) Try.func8
    (ChangeSpec.witness6 (enc := enc) (C := Try.checked) false ⟨#[], #[.int .i64 0], []⟩ 8 (by kernel_rfl) (by kernel_rfl) (by kernel_rfl) (by kernel_rfl)) ?_
  intro W base args ds gs before hval0 hW hcnd hsz0 _
  have hval : ∀ (j : Nat) t v, Try.f8.params[j]? = some t → args[j]? = some v → Value.okWide Try.prog W .any base t v := hval0
  have hW' := hW
  obtain ⟨p, q, hA0, hV, rfl, hfz, hnd⟩ := hW
  have hA : DataW.TrodAll enc Try.prog W 0 (fun _ => true) true Try.f8.params.toList args.toList ds p := hA0
  have hsz : (DataW.weightsEach Try.prog (Try.f8.params.toList ++ Rows.gamLongSpec.plain.varTypes Try.prog) (ds ++ gs)).all (· ≤ reachBytes) = true := hsz0
  rw [Try.params8] at hA hval hsz
  obtain ⟨v0, vs0, d0, ds0, p0, q0, hargs, rfl, rfl, h0, r0⟩ := trodAll_cons hA
  obtain ⟨rfl, rfl, rfl⟩ := trodAll_nil r0
  obtain rfl : args = #[v0] := by cases args; simp_all
  obtain ⟨rfl, rfl⟩ := trodVars_none hV
  obtain ⟨a0, rfl, rfl, rfl, w0⟩ := open_int Try.underlying3 (hval 0 3 v0 rfl rfl) h0
  clear hA0 hval0
  refine (walk a0 W w0).mono fun e W' ⟨he, bel⟩ => ?_
  subst he
  exact ⟨_, rfl, _, _, _, [], _, [], hW', trodAll_mk1 (shut_bool Try.underlying4 _), (trodAll_cons_mk (shut_int Try.underlying3 w0) trodAll_mk0), rfl, bel.frame _, fun h => by cases h⟩

theorem over : Rows.gamLongRow.holds Try.pinned (OpenSpec.ofChange Rows.gamLongSpec) :=
  OpenClaim.holds_of_wide 8 Try.f8 rfl rfl rfl rfl rfl rfl rfl ⟨rfl, rfl, rfl, rfl, rfl⟩ rfl rfl rfl rfl rfl (by kernel_rfl) Try.func8 (by kernel_rfl)
    (of_decide_eq_true (by kernel_rfl)) (by unfold Func.isWrapper; first | (rw [if_pos (by decide +kernel)]; kernel_rfl) | (rw [if_neg (by decide +kernel)]; exact ⟨rfl, rfl⟩))
    (fun os started H enc _ => lifted os started H enc)

/-- THE STATEMENT. -/
theorem proved : Rows.GamLongSaid := over
#print axioms proved
end Go.Proofs.Ytelcnkmgdohigaa.gamLong
