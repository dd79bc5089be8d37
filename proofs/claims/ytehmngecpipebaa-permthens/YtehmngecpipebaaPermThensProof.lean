/-
  For every two lists p and q, Go's perm.Then(p, q) returns the list or the error that the document's answer returns (P11.2).
  No condition.
-/
import Derived.Test.YtehmngecpipebaaRows
import Derived.Test.YtehmngecpipebaaFrame
import Derived.Test.YtehmngecpipebaaPermTh
import Derived.Test.YtehmngecpipebaaSameI
import Derived.WalkKit
import Derived.ProofKit
import Derived.OpenShut
import Derived.ChangeOld
import Derived.Below
import Derived.Carry
import Derived.SizedLaws
import Derived.Deep.RegionWith
import Derived.Deep.RegionHeld3
namespace Go.Proofs.Ytehmngecpipebaa.permThens
open Go.ChangeShapes Go.WideShapes Go.ChangeAt Go.RowKit Words
set_option linter.unusedVariables false

theorem own : ownKnob Try.prog.godebug = none := by kernel_rfl
theorem laidOut : laidOutB Try.prog = true := by kernel_rfl
/-- Both tell the same error. -/
theorem same_no (A : Option Addr) (n c : Nat) (B : Option Addr) (k d : Nat) (r : Int) (w : World)
    (h1 : ∀ W, Below w.heap.size w W → Calls Try.prog 23 #[.slice A n c, .slice B k d] W (NoPL W r))
    (h2 : ∀ W, Below w.heap.size w W → Calls Try.prog 24 #[.slice A n c, .slice B k d] W (NoPL W r)) :
    Calls Try.prog 6 #[.slice A n c, .slice B k d] w fun e w' => e = .returned (.bool true) ∧ Below w.heap.size w w' := by
  have H1 := Lib.hid h1
  have H2 := Lib.hid h2
  have HS := Lib.hid (fun W => sameIntsL_eq none none [] 0 0 W (by decide) Lies.nil Lies.nil)
  have hxx : (r == r) = true := by simp
  clear h1 h2
  go_enter Try.func6, Try.ntmps6
  go_wp2_with fail
  refine (H1.out _ (Below.refl _ _)).mono ?_
  rintro e w1 ⟨rfl, hb1⟩
  go_wp2_with fail
  refine (H2.out _ hb1).mono ?_
  rintro e w2 ⟨rfl, hb2⟩
  go_wp2_with fail
  refine (HS.out _).mono ?_
  rintro e w3 ⟨rfl, hb3⟩
  go_wp2_with fail
  go_ret
  exact ⟨rfl, chain (chain hb1 hb2) hb3⟩

set_option maxHeartbeats 1000000 in
/-- Both tell the same list. -/
theorem same_yes (A : Option Addr) (n c : Nat) (B : Option Addr) (k d : Nat) (m : Nat) (q : List Nat) (w : World) (hq : q.length = m) (hm : m ≤ 300)
    (h1 : ∀ W, Below w.heap.size w W → Calls Try.prog 23 #[.slice A n c, .slice B k d] W (GivesPL W q m))
    (h2 : ∀ W, Below w.heap.size w W → Calls Try.prog 24 #[.slice A n c, .slice B k d] W (GivesPL W q m)) :
    Calls Try.prog 6 #[.slice A n c, .slice B k d] w fun e w' => e = .returned (.bool true) ∧ Below w.heap.size w w' := by
  have H1 := Lib.hid h1
  have H2 := Lib.hid h2
  have HS := Lib.hid (fun A A2 c c2 W h1 h2 => sameIntsL_eq A A2 (ofN q) c c2 W (by rw [ofN_length]; omega) h1 h2)
  rw [ofN_length, hq] at HS
  unfold GivesPL at H1 H2
  clear h1 h2 hq
  go_enter Try.func6, Try.ntmps6
  go_wp2_with fail
  refine (H1.out _ (Below.refl _ _)).mono ?_
  rintro e w1 ⟨A1, c1, rfl, _, hl1, _, _, hb1⟩
  go_wp2_with fail
  refine (H2.out _ hb1).mono ?_
  rintro e w2 ⟨A2, c2, rfl, _, hl2, _, _, hb2⟩
  go_wp2_with fail
  refine (HS.out A1 A2 c1 c2 _ (by unfold ofN; rw [← natC_map]; exact hl1.on hb2) (by unfold ofN; rw [← natC_map]; exact hl2)).mono ?_
  rintro e w3 ⟨rfl, hb3⟩
  go_wp2_with fail
  go_ret
  exact ⟨rfl, chain (chain hb1 hb2) hb3⟩


set_option maxRecDepth 100000 in
set_option maxHeartbeats 4000000 in
/-- The walk: the Go text returns true, and writes nothing that was there. -/
theorem walk (A0 : Option Addr) (l0 : List Int) (c0 : Nat) (A1 : Option Addr) (l1 : List Int) (c1 : Nat) (w : World) (hle0 : l0.length ≤ c0) (hcap0 : c0 * 8 ≤ 140737488351232) (hnil0 : A0 = none → c0 = 0) (w0 : Lies w w.heap.size A0 (l0.map (.int .i64)) ∧ ∀ z ∈ l0, (Lit.int .i64 z).wf = true) (hle1 : l1.length ≤ c1) (hcap1 : c1 * 8 ≤ 140737488351232) (hnil1 : A1 = none → c1 = 0) (w1 : Lies w w.heap.size A1 (l1.map (.int .i64)) ∧ ∀ z ∈ l1, (Lit.int .i64 z).wf = true) :
    Calls Try.prog 6 #[.slice A0 l0.length c0, .slice A1 l1.length c1] w fun e w' => e = .returned (.bool true) ∧ Below w.heap.size w w' := by
  have hb : l0.length ≤ 17592186044416 := by omega
  have hb2 : l1.length ≤ 17592186044416 := by omega
  have hL : ∀ W, Below w.heap.size w W → Lies W W.heap.size A0 (l0.map (.int .i64)) := fun W h => w0.1.on h
  have hM : ∀ W, Below w.heap.size w W → Lies W W.heap.size A1 (l1.map (.int .i64)) := fun W h => w1.1.on h
  have hC : ∀ W, Below w.heap.size w W → Calls Try.prog 18 #[.slice A0 l0.length c0] W (Says W (chk l0)) := fun W h => check_any A0 l0 c0 W hb w0.2 (hL W h)
  have hC2 : ∀ W, Below w.heap.size w W → Calls Try.prog 18 #[.slice A1 l1.length c1] W (Says W (chk l1)) := fun W h => check_any A1 l1 c1 W hb2 w1.2 (hM W h)
  have hR : ∀ W, Below w.heap.size w W → Calls Try.prog 19 #[.slice A0 l0.length c0] W (Says W (chk l0)) := fun W h => rfault_any11 A0 l0 c0 W hb hnil0 (hL W h)
  have hR2 : ∀ W, Below w.heap.size w W → Calls Try.prog 19 #[.slice A1 l1.length c1] W (Says W (chk l1)) := fun W h => rfault_any11 A1 l1 c1 W hb2 hnil1 (hM W h)
  by_cases hr : chk l0 = 0
  · by_cases hr2 : chk l1 = 0
    · rw [hr] at hC hR
      rw [hr2] at hC2 hR2
      by_cases hne : l0.length = l1.length
      · obtain ⟨hn, p, hp, hl⟩ := chk_zero hr
        obtain ⟨hn2, q, hq, hl2⟩ := chk_zero hr2
        have hpl : l0.length = p.length := by rw [hl, ofN_length]
        have hql : l1.length = q.length := by rw [hl2, ofN_length]
        have hqp : q.length = p.length := by omega
        have hN : ∀ W, Below w.heap.size w W → Lies W W.heap.size A0 (natC p) := fun W h => by
          have := hL W h
          rw [hl] at this
          unfold ofN at this
          rwa [← natC_map] at this
        have hN2 : ∀ W, Below w.heap.size w W → Lies W W.heap.size A1 (natC q) := fun W h => by
          have := hM W h
          rw [hl2] at this
          unfold ofN at this
          rwa [← natC_map] at this
        rw [hpl] at hn ⊢
        rw [hql, hqp]
        exact same_yes A0 p.length c0 A1 p.length c1 p.length (thenL p q) w (thenL_length p q) hn (fun W h => then_ok A0 A1 p q c0 c1 W hp hq hqp hn (hN W h) (hN2 W h)) (fun W h => rthen_ok A0 A1 p q c0 c1 W hp hq hqp hn hnil0 hnil1 (hN W h) (hN2 W h))
      · exact same_no A0 l0.length c0 A1 l1.length c1 1 w (fun W h => then_err3 A0 A1 l0.length c0 l1.length c1 W hne (hC W h) fun W2 h2 => hC2 W2 (chain h h2)) (fun W h => rthen_err3 A0 A1 l0.length c0 l1.length c1 W hne (hR W h) fun W2 h2 => hR2 W2 (chain h h2))
    · rw [hr] at hC hR
      exact same_no A0 l0.length c0 A1 l1.length c1 (chk l1) w (fun W h => then_err2 A0 A1 l0.length c0 l1.length c1 _ W hr2 (hC W h) fun W2 h2 => hC2 W2 (chain h h2)) (fun W h => rthen_err2 A0 A1 l0.length c0 l1.length c1 _ W hr2 (hR W h) fun W2 h2 => hR2 W2 (chain h h2))
  · exact same_no A0 l0.length c0 A1 l1.length c1 (chk l0) w (fun W h => then_err1 A0 A1 l0.length c0 l1.length c1 _ W hr (hC W h)) (fun W h => rthen_err1 A0 A1 l0.length c0 l1.length c1 _ W hr (hR W h))

set_option maxRecDepth 100000 in
theorem lifted (os : Os) (started : os.Started) (H : Type) (enc : TypeId × Value → H) :
    ReturnsInHanded {} Try.checked os 6 .any (Rows.permThensSpec.pre6 enc Try.prog Try.f6 Rows.permThensRow.domain false) (Rows.permThensSpec.post enc Try.prog Try.f6 false true false false) := by
  refine returnsInHanded_of_change_sized (C := Try.checked) own started (by kernel_rfl) Try.func6
    (ChangeSpec.witness6 (enc := enc) (C := Try.checked) false ⟨#[], #[.slice none 0 0, .slice none 0 0], []⟩ 8 (by kernel_rfl) (by kernel_rfl) (by kernel_rfl) (by kernel_rfl)) ?_
  intro W base args ds gs before hval0 hW hcnd hsz0 _
  have hval : ∀ (j : Nat) t v, Try.f6.params[j]? = some t → args[j]? = some v → Value.okWide Try.prog W .any base t v := hval0
  have hW' := hW
  obtain ⟨p, q, hA0, hV, rfl, hfz, hnd⟩ := hW
  have hA : DataW.TrodAll enc Try.prog W 0 (fun _ => true) true Try.f6.params.toList args.toList ds p := hA0
  have hsz : (DataW.weightsEach Try.prog (Try.f6.params.toList ++ Rows.permThensSpec.plain.varTypes Try.prog) (ds ++ gs)).all (· ≤ reachBytes) = true := hsz0
  rw [Try.params6] at hA hval hsz
  obtain ⟨v0, vs0, d0, ds0, p0, q0, hargs, rfl, rfl, h0, r0⟩ := trodAll_cons hA
  obtain ⟨v1, vs1, d1, ds1, p1, q1, rfl, rfl, rfl, h1, r1⟩ := trodAll_cons r0
  obtain ⟨rfl, rfl, rfl⟩ := trodAll_nil r1
  obtain rfl : args = #[v0, v1] := by cases args; simp_all
  obtain ⟨rfl, rfl⟩ := trodVars_none hV
  obtain ⟨A0, n0, c0, rfl⟩ := okWide_slice Try.underlying22 (hval 0 22 v0 rfl rfl)
  have k0 := h0
  have lt0 : ∀ x ∈ p0, x.block < W.heap.size := by obtain ⟨m, hm⟩ := k0; exact DataW.trod_lt m _ _ _ hm
  obtain ⟨fuel0, hf0⟩ := h0
  obtain ⟨A0_, l0, c0_, hcs0, hle0, hcap0, hnil0, w0⟩ := rd_ints Try.underlying22 Try.underlying3 (by kernel_rfl) (by kernel_rfl) hf0 (weight_arg hsz (j := 0) (t := 22) rfl rfl)
  have hcs0_ : [Value.slice A0 n0 c0] = [.slice A0_ l0.length c0_] := hcs0
  simp only [List.cons.injEq, Value.slice.injEq, and_true] at hcs0_
  obtain ⟨rfl, rfl, rfl⟩ := hcs0_
  clear hcs0
  obtain ⟨A1, n1, c1, rfl⟩ := okWide_slice Try.underlying22 (hval 1 22 v1 rfl rfl)
  have k1 := h1
  have lt1 : ∀ x ∈ p1, x.block < W.heap.size := by obtain ⟨m, hm⟩ := k1; exact DataW.trod_lt m _ _ _ hm
  obtain ⟨fuel1, hf1⟩ := h1
  obtain ⟨A1_, l1, c1_, hcs1, hle1, hcap1, hnil1, w1⟩ := rd_ints Try.underlying22 Try.underlying3 (by kernel_rfl) (by kernel_rfl) hf1 (weight_arg hsz (j := 1) (t := 22) rfl rfl)
  have hcs1_ : [Value.slice A1 n1 c1] = [.slice A1_ l1.length c1_] := hcs1
  simp only [List.cons.injEq, Value.slice.injEq, and_true] at hcs1_
  obtain ⟨rfl, rfl, rfl⟩ := hcs1_
  clear hcs1
  clear hA0 hval0
  refine (walk A0 l0 c0 A1 l1 c1 W hle0 hcap0 hnil0 w0 hle1 hcap1 hnil1 w1).mono fun e W' ⟨he, bel⟩ => ?_
  subst he
  exact ⟨_, rfl, _, _, _, [], _, [], hW', trodAll_mk1 (shut_bool Try.underlying4 _), (trodAll_cons_mk (Below.trod laidOut (by kernel_rfl) (of_decide_eq_true (by kernel_rfl)) k0 bel lt0) (trodAll_cons_mk (Below.trod laidOut (by kernel_rfl) (of_decide_eq_true (by kernel_rfl)) k1 bel lt1) trodAll_mk0)), rfl, bel.frame _, fun h => by cases h⟩

theorem over : Rows.permThensRow.holds Try.pinned (OpenSpec.ofChange Rows.permThensSpec) :=
  OpenClaim.holds_of_wide 6 Try.f6 rfl rfl rfl rfl rfl rfl rfl ⟨rfl, rfl, rfl, rfl, rfl⟩ rfl rfl rfl rfl rfl (by kernel_rfl) Try.func6 (by kernel_rfl)
    (of_decide_eq_true (by kernel_rfl)) (by unfold Func.isWrapper; first | (rw [if_pos (by decide +kernel)]; kernel_rfl) | (rw [if_neg (by decide +kernel)]; exact ⟨rfl, rfl⟩))
    (fun os started H enc _ => lifted os started H enc)

/-- THE STATEMENT. -/
theorem proved : Rows.PermThensSaid := over
#print axioms proved
end Go.Proofs.Ytehmngecpipebaa.permThens
