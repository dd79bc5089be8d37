/-
  For every list ps of points and every rectangle r, Go's grid.Count(ps, r) returns the number or the error that the document's answer returns (P13.2).
  No condition.
-/
import Derived.Test.YthmfcdefdbeefaaRows
import Derived.Test.YthmfcdefdbeefaaJ03
import Derived.Test.YthmfcdefdbeefaaJ33
import Derived.Test.YthmfcdefdbeefaaJ24
import Derived.WalkKit
import Derived.ProofKit
import Derived.OpenShut
import Derived.ChangeOld
import Derived.Below
import Derived.Carry
import Derived.SizedLaws
import Derived.Deep.RegionWith
import Derived.Deep.RegionHeld3
namespace Go.Proofs.Ythmfcdefdbeefaa.gridCounts
open Go.ChangeShapes Go.WideShapes Go.ChangeAt Go.RowKit Words
set_option linter.unusedVariables false

theorem own : ownKnob Try.prog.godebug = none := by kernel_rfl
theorem laidOut : laidOutB Try.prog = true := by kernel_rfl
/-- Both tell the same number and the same error. -/
theorem same_tellsGridCounts (A : Option Addr) (n c : Nat) (r : Rc4) (x z : Int) (w : World)
    (h1 : ∀ W, Below w.heap.size w W → Calls Try.prog 13 #[.slice A n c, .agg #[.int .i64 r.x0, .int .i64 r.y0, .int .i64 r.x1, .int .i64 r.y1]] W (TellsG W x z))
    (h2 : ∀ W, Below w.heap.size w W → Calls Try.prog 14 #[.slice A n c, .agg #[.int .i64 r.x0, .int .i64 r.y0, .int .i64 r.x1, .int .i64 r.y1]] W (TellsG W x z)) :
    Calls Try.prog 4 #[.slice A n c, .agg #[.int .i64 r.x0, .int .i64 r.y0, .int .i64 r.x1, .int .i64 r.y1]] w fun e w' => e = .returned (.bool true) ∧ Below w.heap.size w w' := by
  have H1 := Lib.hid h1
  have H2 := Lib.hid h2
  have hxx : (x == x) = true := by simp
  have hzz : (z == z) = true := by simp
  have HB := Lib.hid (bnew w (.cells #[.int .i64 r.x0, .int .i64 r.y0, .int .i64 r.x1, .int .i64 r.y1] 27))
  have HR := Lib.hid (Blk.new w 27 [.int .i64 r.x0, .int .i64 r.y0, .int .i64 r.x1, .int .i64 r.y1])
  unfold TellsG at H1 H2
  clear h1 h2
  go_enter Try.func4, Try.ntmps4
  go_wp2_with fail
  refine (H1.out _ HB.out).mono ?_
  rintro e w1 ⟨rfl, hb1⟩
  have k1 := HR.out.below hb1 HR.out.lt
  have r0 := k1.cell 0
  have r1 := k1.cell 1
  have r2 := k1.cell 2
  have r3 := k1.cell 3
  have HB1 := Lib.hid (chain HB.out hb1)
  clear k1 hb1
  go_wp2_with fail
  refine (H2.out _ HB1.out).mono ?_
  rintro e w2 ⟨rfl, hb2⟩
  go_wp2_with fail
  go_ret
  exact ⟨rfl, chain HB1.out hb2⟩


set_option maxRecDepth 100000 in
set_option maxHeartbeats 4000000 in
/-- The walk: the Go text returns true, and writes nothing that was there. -/
theorem walk (A0 : Option Addr) (l0 : List Pt3) (c0 : Nat) (o1 : Rc4) (w : World) (hle0 : l0.length ≤ c0) (hcap0 : c0 * 24 ≤ 140737488351232) (hnil0 : A0 = none → c0 = 0) (w0 : Lies w w.heap.size A0 (ptC l0)) (f0 : ∀ o ∈ l0, o.Fits) (f1 : o1.Fits) :
    Calls Try.prog 4 #[.slice A0 l0.length c0, .agg #[.int .i64 o1.x0, .int .i64 o1.y0, .int .i64 o1.x1, .int .i64 o1.y1]] w fun e w' => e = .returned (.bool true) ∧ Below w.heap.size w w' := by
  have hb : l0.length ≤ 17592186044416 := by omega
  by_cases he : ptsF l0 = 0
  · exact same_tellsGridCounts A0 l0.length c0 o1 ((insR l0 o1).length : Nat) 0 w (fun W h => gcount_ok A0 l0 c0 o1 W he f1 (w0.on h)) (fun W h => rcount_ok A0 l0 c0 o1 W hb (w0.on h) he)
  · exact same_tellsGridCounts A0 l0.length c0 o1 0 (ptsF l0) w (fun W h => gcount_err A0 l0 c0 o1 W hb (w0.on h) he) (fun W h => rcount_err A0 l0 c0 o1 W hb (w0.on h) he)

set_option maxRecDepth 100000 in
theorem lifted (os : Os) (started : os.Started) (H : Type) (enc : TypeId × Value → H) :
    ReturnsInHanded {} Try.checked os 4 .any (Rows.gridCountsSpec.pre6 enc Try.prog Try.f4 Rows.gridCountsRow.domain false) (Rows.gridCountsSpec.post enc Try.prog Try.f4 false true false false) := by
  refine returnsInHanded_of_change_sized (C := Try.checked) own started (by kernel_rfl) Try.func4
    (ChangeSpec.witness6 (enc := enc) (C := Try.checked) false ⟨#[], #[.slice none 0 0, .agg #[.int .i64 0, .int .i64 0, .int .i64 0, .int .i64 0]], []⟩ 8 (by kernel_rfl) (by kernel_rfl) (by kernel_rfl) (by kernel_rfl)) ?_
  intro W base args ds gs before hval0 hW hcnd hsz0 _
  have hval : ∀ (j : Nat) t v, Try.f4.params[j]? = some t → args[j]? = some v → Value.okWide Try.prog W .any base t v := hval0
  have hW' := hW
  obtain ⟨p, q, hA0, hV, rfl, hfz, hnd⟩ := hW
  have hA : DataW.TrodAll enc Try.prog W 0 (fun _ => true) true Try.f4.params.toList args.toList ds p := hA0
  have hsz : (DataW.weightsEach Try.prog (Try.f4.params.toList ++ Rows.gridCountsSpec.plain.varTypes Try.prog) (ds ++ gs)).all (· ≤ reachBytes) = true := hsz0
  rw [Try.params4] at hA hval hsz
  obtain ⟨v0, vs0, d0, ds0, p0, q0, hargs, rfl, rfl, h0, r0⟩ := trodAll_cons hA
  obtain ⟨v1, vs1, d1, ds1, p1, q1, rfl, rfl, rfl, h1, r1⟩ := trodAll_cons r0
  obtain ⟨rfl, rfl, rfl⟩ := trodAll_nil r1
  obtain rfl : args = #[v0, v1] := by cases args; simp_all
  obtain ⟨rfl, rfl⟩ := trodVars_none hV
  obtain ⟨A0, n0, c0, rfl⟩ := okWide_slice Try.underlying22 (hval 0 22 v0 rfl rfl)
  have k0 := h0
  have lt0 : ∀ x ∈ p0, x.block < W.heap.size := by obtain ⟨m, hm⟩ := k0; exact DataW.trod_lt m _ _ _ hm
  obtain ⟨fuel0, hf0⟩ := h0
  obtain ⟨A0_, l0, c0_, hcs0, hle0, hcap0, hnil0, w0, f0⟩ := rd_threes Try.underlying22 Try.underlying43 (by kernel_rfl) (by kernel_rfl) rfl rfl rfl rfl rfl rfl Try.underlying3 (by kernel_rfl) hf0 (weight_arg hsz (j := 0) (t := 22) rfl rfl)
  have hcs0_ : [Value.slice A0 n0 c0] = [.slice A0_ l0.length c0_] := hcs0
  simp only [List.cons.injEq, Value.slice.injEq, and_true] at hcs0_
  obtain ⟨rfl, rfl, rfl⟩ := hcs0_
  clear hcs0
  obtain ⟨cs1, rfl, hsize1⟩ := okWide_struct Try.underlying27 (hval 1 27 v1 rfl rfl)
  have k1 := h1
  have lt1 : ∀ x ∈ p1, x.block < W.heap.size := by obtain ⟨m, hm⟩ := k1; exact DataW.trod_lt m _ _ _ hm
  obtain ⟨fuel1, hf1⟩ := h1
  obtain ⟨o1, hcs1, f1⟩ := rd_rect Try.underlying27 (by kernel_rfl) rfl rfl rfl rfl rfl rfl rfl rfl Try.underlying3 (by kernel_rfl) hf1
  have hcs1_ : cs1 = #[.int .i64 o1.x0, .int .i64 o1.y0, .int .i64 o1.x1, .int .i64 o1.y1] := Array.toList_inj.1 hcs1
  subst hcs1_
  clear hcs1
  clear hA0 hval0
  refine (walk A0 l0 c0 o1 W hle0 hcap0 hnil0 w0 f0 f1).mono fun e W' ⟨he, bel⟩ => ?_
  subst he
  exact ⟨_, rfl, _, _, _, [], _, [], hW', trodAll_mk1 (shut_bool Try.underlying4 _), (trodAll_cons_mk (Below.trod laidOut (by kernel_rfl) (of_decide_eq_true (by kernel_rfl)) k0 bel lt0) (trodAll_cons_mk (Below.trod laidOut (by kernel_rfl) (of_decide_eq_true (by kernel_rfl)) k1 bel lt1) trodAll_mk0)), rfl, bel.frame _, fun h => by cases h⟩

theorem over : Rows.gridCountsRow.holds Try.pinned (OpenSpec.ofChange Rows.gridCountsSpec) :=
  OpenClaim.holds_of_wide 4 Try.f4 rfl rfl rfl rfl rfl rfl rfl ⟨rfl, rfl, rfl, rfl, rfl⟩ rfl rfl rfl rfl rfl (by kernel_rfl) Try.func4 (by kernel_rfl)
    (of_decide_eq_true (by kernel_rfl)) (by unfold Func.isWrapper; first | (rw [if_pos (by decide +kernel)]; kernel_rfl) | (rw [if_neg (by decide +kernel)]; exact ⟨rfl, rfl⟩))
    (fun os started H enc _ => lifted os started H enc)

/-- THE STATEMENT. -/
theorem proved : Rows.GridCountsSaid := over
#print axioms proved
end Go.Proofs.Ythmfcdefdbeefaa.gridCounts
