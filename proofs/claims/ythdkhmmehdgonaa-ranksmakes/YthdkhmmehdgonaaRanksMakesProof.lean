/-
  For every list l, Go's ranks.Make(l) returns the lists or the error that the document's answer returns (P12.1).
  No condition.
-/
import Derived.Test.YthdkhmmehdgonaaRows
import Derived.Test.YthdkhmmehdgonaaFrame
import Derived.Test.YthdkhmmehdgonaaRnkRf
import Derived.Test.YthdkhmmehdgonaaSameI
import Derived.WalkKit
import Derived.ProofKit
import Derived.OpenShut
import Derived.ChangeOld
import Derived.Below
import Derived.Carry
import Derived.SizedLaws
import Derived.Deep.RegionWith
import Derived.Deep.RegionHeld3
namespace Go.Proofs.Ythdkhmmehdgonaa.ranksMakes
open Go.ChangeShapes Go.WideShapes Go.ChangeAt Go.RowKit Words
set_option linter.unusedVariables false

theorem own : ownKnob Try.prog.godebug = none := by kernel_rfl
theorem laidOut : laidOutB Try.prog = true := by kernel_rfl
/-- Both tell the same error. -/
theorem same_no (A : Option Addr) (n c : Nat) (r : Int) (w : World)
    (h1 : ∀ W, Below w.heap.size w W → Calls Try.prog 6 #[.slice A n c] W (NoRk W r))
    (h2 : ∀ W, Below w.heap.size w W → Calls Try.prog 7 #[.slice A n c] W (NoRk W r)) :
    Calls Try.prog 3 #[.slice A n c] w fun e w' => e = .returned (.bool true) ∧ Below w.heap.size w w' := by
  have H1 := Lib.hid h1
  have H2 := Lib.hid h2
  have HS := Lib.hid (fun W => sameIntsL_eq none none [] 0 0 W (by decide) Lies.nil Lies.nil)
  have hxx : (r == r) = true := by simp
  clear h1 h2
  go_enter Try.func3, Try.ntmps3
  go_wp2_with fail
  refine (H1.out _ (Below.refl _ _)).mono ?_
  rintro e w1 ⟨rfl, hb1⟩
  go_wp2_with fail
  refine (H2.out _ hb1).mono ?_
  rintro e w2 ⟨rfl, hb2⟩
  go_wp2_with fail
  refine (HS.out _).mono ?_
  rintro e w3 ⟨rfl, hb3⟩
  go_wp2_with fail
  refine (HS.out _).mono ?_
  rintro e w4 ⟨rfl, hb4⟩
  go_wp2_with fail
  go_ret
  exact ⟨rfl, chain (chain (chain hb1 hb2) hb3) hb4⟩

set_option maxHeartbeats 1000000 in
/-- Both tell the same lists. -/
theorem same_yes (A : Option Addr) (n c : Nat) (vs rs : List Int) (w : World) (hv : vs.length ≤ 300) (hr : rs.length ≤ 300)
    (h1 : ∀ W, Below w.heap.size w W → Calls Try.prog 6 #[.slice A n c] W (GivesRk W vs rs))
    (h2 : ∀ W, Below w.heap.size w W → Calls Try.prog 7 #[.slice A n c] W (GivesRk W vs rs)) :
    Calls Try.prog 3 #[.slice A n c] w fun e w' => e = .returned (.bool true) ∧ Below w.heap.size w w' := by
  have H1 := Lib.hid h1
  have H2 := Lib.hid h2
  have HS := Lib.hid (fun A A2 c c2 W h1 h2 => sameIntsL_eq A A2 vs c c2 W (by omega) h1 h2)
  have HT := Lib.hid (fun A A2 c c2 W h1 h2 => sameIntsL_eq A A2 rs c c2 W (by omega) h1 h2)
  unfold GivesRk at H1 H2
  generalize vs.map (Value.int .i64) = xs at *
  generalize rs.map (Value.int .i64) = ys at *
  generalize vs.length = m at *
  generalize rs.length = k at *
  clear h1 h2
  go_enter Try.func3, Try.ntmps3
  go_wp2_with fail
  refine (H1.out _ (Below.refl _ _)).mono ?_
  rintro e w1 ⟨A1, c1, A2, c2, rfl, hl1, _, _, hl2, _, _, hb1⟩
  go_wp2_with fail
  refine (H2.out _ hb1).mono ?_
  rintro e w2 ⟨A3, c3, A4, c4, rfl, hl3, _, _, hl4, _, _, hb2⟩
  go_wp2_with fail
  refine (HS.out A1 A3 c1 c3 _ (hl1.on hb2) hl3).mono ?_
  rintro e w3 ⟨rfl, hb3⟩
  go_wp2_with fail
  refine (HT.out A2 A4 c2 c4 _ ((hl2.on hb2).on hb3) (hl4.on hb3)).mono ?_
  rintro e w4 ⟨rfl, hb4⟩
  go_wp2_with fail
  go_ret
  exact ⟨rfl, chain (chain (chain hb1 hb2) hb3) hb4⟩


set_option maxRecDepth 100000 in
set_option maxHeartbeats 4000000 in
/-- The walk: the Go text returns true, and writes nothing that was there. -/
theorem walk (A0 : Option Addr) (l0 : List Int) (c0 : Nat) (w : World) (hle0 : l0.length ≤ c0) (hcap0 : c0 * 8 ≤ 140737488351232) (hnil0 : A0 = none → c0 = 0) (w0 : Lies w w.heap.size A0 (l0.map (.int .i64)) ∧ ∀ z ∈ l0, (Lit.int .i64 z).wf = true) :
    Calls Try.prog 3 #[.slice A0 l0.length c0] w fun e w' => e = .returned (.bool true) ∧ Below w.heap.size w w' := by
  have hL : ∀ W, Below w.heap.size w W → Lies W W.heap.size A0 (l0.map (.int .i64)) := fun W h => w0.1.on h
  by_cases hn : 300 < l0.length
  · exact same_no A0 l0.length c0 1 w (fun W _ => make_size12 A0 l0.length c0 W hn (by omega)) (fun W _ => rmake_size12 A0 l0.length c0 W hn (by omega))
  · have hd := dst_length_le l0
    exact same_yes A0 l0.length c0 (dst l0) (rks l0) w (by omega) (by rw [rks_length]; omega) (fun W h => make_ranks A0 l0 c0 W (by omega) (hL W h)) (fun W h => rmake_ranks A0 l0 c0 W (by omega) (hL W h))

set_option maxRecDepth 100000 in
theorem lifted (os : Os) (started : os.Started) (H : Type) (enc : TypeId × Value → H) :
    ReturnsInHanded {} Try.checked os 3 .any (Rows.ranksMakesSpec.pre6 enc Try.prog Try.f3 Rows.ranksMakesRow.domain false) (Rows.ranksMakesSpec.post enc Try.prog Try.f3 false true false false) := by
  refine returnsInHanded_of_change_sized (C := Try.checked) own started (by kernel_rfl) Try.func3
    (ChangeSpec.witness6 (enc := enc) (C := Try.checked) false ⟨#[], #[.slice none 0 0], []⟩ 8 (by kernel_rfl) (by kernel_rfl) (by kernel_rfl) (by kernel_rfl)) ?_
  intro W base args ds gs before hval0 hW hcnd hsz0 _
  have hval : ∀ (j : Nat) t v, Try.f3.params[j]? = some t → args[j]? = some v → Value.okWide Try.prog W .any base t v := hval0
  have hW' := hW
  obtain ⟨p, q, hA0, hV, rfl, hfz, hnd⟩ := hW
  have hA : DataW.TrodAll enc Try.prog W 0 (fun _ => true) true Try.f3.params.toList args.toList ds p := hA0
  have hsz : (DataW.weightsEach Try.prog (Try.f3.params.toList ++ Rows.ranksMakesSpec.plain.varTypes Try.prog) (ds ++ gs)).all (· ≤ reachBytes) = true := hsz0
  rw [Try.params3] at hA hval hsz
  obtain ⟨v0, vs0, d0, ds0, p0, q0, hargs, rfl, rfl, h0, r0⟩ := trodAll_cons hA
  obtain ⟨rfl, rfl, rfl⟩ := trodAll_nil r0
  obtain rfl : args = #[v0] := by cases args; simp_all
  obtain ⟨rfl, rfl⟩ := trodVars_none hV
  obtain ⟨A0, n0, c0, rfl⟩ := okWide_slice Try.underlying22 (hval 0 22 v0 rfl rfl)
  have k0 := h0
  have lt0 : ∀ x ∈ p0, x.block < W.heap.size := by obtain ⟨m, hm⟩ := k0; exact DataW.trod_lt m _ _ _ hm
  obtain ⟨fuel0, hf0⟩ := h0
  obtain ⟨A0_, l0, c0_, hcs0, hle0, hcap0, hnil0, w0⟩ := rd_ints Try.underlying22 Try.underlying3 (by kernel_rfl) (by kernel_rfl) hf0 (weight_arg hsz (j := 0) (t := 22) rfl rfl)
  have hcs0_ : [Value.slice A0 n0 c0] = [.slice A0_ l0.length c0_] := hcs0
  simp only [List.cons.injEq, Value.slice.injEq, and_true] at hcs0_
  obtain ⟨rfl, rfl, rfl⟩ := hcs0_
  clear hcs0
  clear hA0 hval0
  refine (walk A0 l0 c0 W hle0 hcap0 hnil0 w0).mono fun e W' ⟨he, bel⟩ => ?_
  subst he
  exact ⟨_, rfl, _, _, _, [], _, [], hW', trodAll_mk1 (shut_bool Try.underlying4 _), (trodAll_cons_mk (Below.trod laidOut (by kernel_rfl) (of_decide_eq_true (by kernel_rfl)) k0 bel lt0) trodAll_mk0), rfl, bel.frame _, fun h => by cases h⟩

theorem over : Rows.ranksMakesRow.holds Try.pinned (OpenSpec.ofChange Rows.ranksMakesSpec) :=
  OpenClaim.holds_of_wide 3 Try.f3 rfl rfl rfl rfl rfl rfl rfl ⟨rfl, rfl, rfl, rfl, rfl⟩ rfl rfl rfl rfl rfl (by kernel_rfl) Try.func3 (by kernel_rfl)
    (of_decide_eq_true (by kernel_rfl)) (by unfold Func.isWrapper; first | (rw [if_pos (by decide +kernel)]; kernel_rfl) | (rw [if_neg (by decide +kernel)]; exact ⟨rfl, rfl⟩))
    (fun os started H enc _ => lifted os started H enc)

/-- THE STATEMENT. -/
theorem proved : Rows.RanksMakesSaid := over
#print axioms proved
end Go.Proofs.Ythdkhmmehdgonaa.ranksMakes
