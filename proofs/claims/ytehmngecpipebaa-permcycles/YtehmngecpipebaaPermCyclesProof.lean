/-
  For every list p, Go's perm.Cycles(p) returns the cycles or the error that the document's answer returns (P11.3).
  No condition.
-/
import Derived.Test.YtehmngecpipebaaRows
import Derived.Test.YtehmngecpipebaaFrame
import Derived.Test.YtehmngecpipebaaPermRc
import Derived.WalkKit
import Derived.ProofKit
import Derived.OpenShut
import Derived.ChangeOld
import Derived.Below
import Derived.Carry
import Derived.SizedLaws
import Derived.Deep.RegionWith
import Derived.Deep.RegionHeld3
namespace Go.Proofs.Ytehmngecpipebaa.permCycles
open Go.ChangeShapes Go.WideShapes Go.ChangeAt Go.RowKit Words
set_option linter.unusedVariables false

theorem own : ownKnob Try.prog.godebug = none := by kernel_rfl
theorem laidOut : laidOutB Try.prog = true := by kernel_rfl
/-- Both tell the same error. -/
theorem same_no (A : Option Addr) (n c : Nat) (r : Int) (w : World)
    (h1 : ∀ W, Below w.heap.size w W → Calls Try.prog 25 #[.slice A n c] W (NoPL W r))
    (h2 : ∀ W, Below w.heap.size w W → Calls Try.prog 26 #[.slice A n c] W (NoPL W r)) :
    Calls Try.prog 7 #[.slice A n c] w fun e w' => e = .returned (.bool true) ∧ Below w.heap.size w w' := by
  have H1 := Lib.hid h1
  have H2 := Lib.hid h2
  have HS := Lib.hid (fun W => sameRows_eq none none [] [] [] 0 0 W (by decide) (fun r hr => by cases hr) Grid.nil Grid.nil rfl rfl)
  have hxx : (r == r) = true := by simp
  clear h1 h2
  go_enter Try.func7, Try.ntmps7
  go_wp2_with fail
  refine (H1.out _ (Below.refl _ _)).mono ?_
  rintro e w1 ⟨rfl, hb1⟩
  go_wp2_with fail
  refine (H2.out _ hb1).mono ?_
  rintro e w2 ⟨rfl, hb2⟩
  go_wp2_with fail
  refine (HS.out _).mono ?_
  rintro e w3 ⟨rfl, hb3⟩
  go_wp2_with fail
  go_ret
  exact ⟨rfl, chain (chain hb1 hb2) hb3⟩

set_option maxHeartbeats 1000000 in
/-- Both tell the same rows. -/
theorem same_yes (A : Option Addr) (n c : Nat) (T : List (List Nat)) (w : World) (hT : T.length ≤ 300) (hm : ∀ r ∈ T, r.length ≤ 300)
    (h1 : ∀ W, Below w.heap.size w W → Calls Try.prog 25 #[.slice A n c] W (GivesCy W T))
    (h2 : ∀ W, Below w.heap.size w W → Calls Try.prog 26 #[.slice A n c] W (GivesCy W T)) :
    Calls Try.prog 7 #[.slice A n c] w fun e w' => e = .returned (.bool true) ∧ Below w.heap.size w w' := by
  have H1 := Lib.hid h1
  have H2 := Lib.hid h2
  have HS := Lib.hid (fun A A2 (rs qs : List Row) c c2 W h1 h2 t1 t2 => sameRows_eq A A2 rs qs (T.map ofN) c c2 W (by
    have := congrArg List.length (show rs.map Row.nums = T.map ofN from t1)
    simp at this
    omega) (fun r hr => by
    obtain ⟨q, hq, rfl⟩ := List.mem_map.1 hr
    have := hm q hq
    rw [ofN_length]
    omega) h1 h2 t1 t2)
  unfold GivesCy at H1 H2
  clear h1 h2 hT hm
  go_enter Try.func7, Try.ntmps7
  go_wp2_with fail
  refine (H1.out _ (Below.refl _ _)).mono ?_
  rintro e w1 ⟨A1, rs, c1, rfl, hg1, ht1, _, _, hb1⟩
  have HG1 := Lib.hid hg1
  have HT1 := Lib.hid ht1
  clear hg1 ht1
  go_wp2_with fail
  refine (H2.out _ hb1).mono ?_
  rintro e w2 ⟨A2, qs, c2, rfl, hg2, ht2, _, _, hb2⟩
  have HG2 := Lib.hid hg2
  have HT2 := Lib.hid ht2
  clear hg2 ht2
  have HS2 := Lib.hid (HS.out A1 A2 rs qs c1 c2 _ (HG1.out.on hb2) HG2.out HT1.out HT2.out)
  go_wp2_with fail
  refine HS2.out.mono ?_
  rintro e w3 ⟨rfl, hb3⟩
  go_wp2_with fail
  go_ret
  exact ⟨rfl, chain (chain hb1 hb2) hb3⟩


set_option maxRecDepth 100000 in
set_option maxHeartbeats 4000000 in
/-- The walk: the Go text returns true, and writes nothing that was there. -/
theorem walk (A0 : Option Addr) (l0 : List Int) (c0 : Nat) (w : World) (hle0 : l0.length ≤ c0) (hcap0 : c0 * 8 ≤ 140737488351232) (hnil0 : A0 = none → c0 = 0) (w0 : Lies w w.heap.size A0 (l0.map (.int .i64)) ∧ ∀ z ∈ l0, (Lit.int .i64 z).wf = true) :
    Calls Try.prog 7 #[.slice A0 l0.length c0] w fun e w' => e = .returned (.bool true) ∧ Below w.heap.size w w' := by
  have hb : l0.length ≤ 17592186044416 := by omega
  have hL : ∀ W, Below w.heap.size w W → Lies W W.heap.size A0 (l0.map (.int .i64)) := fun W h => w0.1.on h
  have hN : ∀ p : List Nat, l0 = ofN p → ∀ W, Below w.heap.size w W → Lies W W.heap.size A0 (natC p) := fun p e W h => by
    have := hL W h
    rw [e] at this
    unfold ofN at this
    rwa [← natC_map] at this
  by_cases hr : chk l0 = 0
  · obtain ⟨hn, p, hp, hl⟩ := chk_zero hr
    have hpl : l0.length = p.length := by rw [hl, ofN_length]
    rw [hpl] at hn ⊢
    refine same_yes A0 p.length c0 (cycs p) w (by have := cycsTo_length_le p p.length; exact Nat.le_trans this hn) (fun r hr => ?_) (fun W h => cycles_ok A0 p c0 W hp hn (hN p hl W h)) (fun W h => rcycles_ok A0 p c0 W hp hn hnil0 (hN p hl W h))
    obtain ⟨i, hi, rfl⟩ := List.mem_map.1 hr
    rw [cyc_length]
    exact Nat.le_trans (per_le hp (List.mem_range.1 (List.mem_filter.1 hi).1)) hn
  · exact same_no A0 l0.length c0 (chk l0) w (fun W h => cycles_err A0 l0.length c0 (chk l0) W hr (check_any A0 l0 c0 W hb w0.2 (hL W h))) (fun W h => rcycles_err A0 l0.length c0 (chk l0) W hr (rfault_any11 A0 l0 c0 W hb hnil0 (hL W h)))

set_option maxRecDepth 100000 in
theorem lifted (os : Os) (started : os.Started) (H : Type) (enc : TypeId × Value → H) :
    ReturnsInHanded {} Try.checked os 7 .any (Rows.permCyclesSpec.pre6 enc Try.prog Try.f7 Rows.permCyclesRow.domain false) (Rows.permCyclesSpec.post enc Try.prog Try.f7 false true false false) := by
  refine returnsInHanded_of_change_sized (C := Try.checked) own started (by kernel_rfl) Try.func7
    (ChangeSpec.witness6 (enc := enc) (C := Try.checked) false ⟨#[], #[.slice none 0 0], []⟩ 8 (by kernel_rfl) (by kernel_rfl) (by kernel_rfl) (by kernel_rfl)) ?_
  intro W base args ds gs before hval0 hW hcnd hsz0 _
  have hval : ∀ (j : Nat) t v, Try.f7.params[j]? = some t → args[j]? = some v → Value.okWide Try.prog W .any base t v := hval0
  have hW' := hW
  obtain ⟨p, q, hA0, hV, rfl, hfz, hnd⟩ := hW
  have hA : DataW.TrodAll enc Try.prog W 0 (fun _ => true) true Try.f7.params.toList args.toList ds p := hA0
  have hsz : (DataW.weightsEach Try.prog (Try.f7.params.toList ++ Rows.permCyclesSpec.plain.varTypes Try.prog) (ds ++ gs)).all (· ≤ reachBytes) = true := hsz0
  rw [Try.params7] at hA hval hsz
  obtain ⟨v0, vs0, d0, ds0, p0, q0, hargs, rfl, rfl, h0, r0⟩ := trodAll_cons hA
  obtain ⟨rfl, rfl, rfl⟩ := trodAll_nil r0
  obtain rfl : args = #[v0] := by cases args; simp_all
  obtain ⟨rfl, rfl⟩ := trodVars_none hV
  obtain ⟨A0, n0, c0, rfl⟩ := okWide_slice Try.underlying22 (hval 0 22 v0 rfl rfl)
  have k0 := h0
  have lt0 : ∀ x ∈ p0, x.block < W.heap.size := by obtain ⟨m, hm⟩ := k0; exact DataW.trod_lt m _ _ _ hm
  obtain ⟨fuel0, hf0⟩ := h0
  obtain ⟨A0_, l0, c0_, hcs0, hle0, hcap0, hnil0, w0⟩ := rd_ints Try.underlying22 Try.underlying3 (by kernel_rfl) (by kernel_rfl) hf0 (weight_arg hsz (j := 0) (t := 22) rfl rfl)
  have hcs0_ : [Value.slice A0 n0 c0] = [.slice A0_ l0.length c0_] := hcs0
  simp only [List.cons.injEq, Value.slice.injEq, and_true] at hcs0_
  obtain ⟨rfl, rfl, rfl⟩ := hcs0_
  clear hcs0
  clear hA0 hval0
  refine (walk A0 l0 c0 W hle0 hcap0 hnil0 w0).mono fun e W' ⟨he, bel⟩ => ?_
  subst he
  exact ⟨_, rfl, _, _, _, [], _, [], hW', trodAll_mk1 (shut_bool Try.underlying4 _), (trodAll_cons_mk (Below.trod laidOut (by kernel_rfl) (of_decide_eq_true (by kernel_rfl)) k0 bel lt0) trodAll_mk0), rfl, bel.frame _, fun h => by cases h⟩

theorem over : Rows.permCyclesRow.holds Try.pinned (OpenSpec.ofChange Rows.permCyclesSpec) :=
  OpenClaim.holds_of_wide 7 Try.f7 rfl rfl rfl rfl rfl rfl rfl ⟨rfl, rfl, rfl, rfl, rfl⟩ rfl rfl rfl rfl rfl (by kernel_rfl) Try.func7 (by kernel_rfl)
    (of_decide_eq_true (by kernel_rfl)) (by unfold Func.isWrapper; first | (rw [if_pos (by decide +kernel)]; kernel_rfl) | (rw [if_neg (by decide +kernel)]; exact ⟨rfl, rfl⟩))
    (fun os started H enc _ => lifted os started H enc)

/-- THE STATEMENT. -/
theorem proved : Rows.PermCyclesSaid := over
#print axioms proved
end Go.Proofs.Ytehmngecpipebaa.permCycles
