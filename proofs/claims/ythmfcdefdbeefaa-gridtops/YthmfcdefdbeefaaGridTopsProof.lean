/-
  For every list ps of points, every rectangle r and every integer k, Go's grid.Top(ps, r, k) returns the list or the error that the document's answer returns (P13.2).
  No condition.
-/
import Derived.Test.YthmfcdefdbeefaaRows
import Derived.Test.YthmfcdefdbeefaaJ03
import Derived.Test.YthmfcdefdbeefaaJ33
import Derived.Test.YthmfcdefdbeefaaJ24
import Derived.Test.YthmfcdefdbeefaaJ05
import Derived.Test.YthmfcdefdbeefaaJ35
import Derived.WalkKit
import Derived.ProofKit
import Derived.OpenShut
import Derived.ChangeOld
import Derived.Below
import Derived.Carry
import Derived.SizedLaws
import Derived.Deep.RegionWith
import Derived.Deep.RegionHeld3
namespace Go.Proofs.Ythmfcdefdbeefaa.gridTops
open Go.ChangeShapes Go.WideShapes Go.ChangeAt Go.RowKit Words
set_option linter.unusedVariables false

theorem own : ownKnob Try.prog.godebug = none := by kernel_rfl
theorem laidOut : laidOutB Try.prog = true := by kernel_rfl
/-- Both tell the same error. -/
theorem same_noGridTops (A : Option Addr) (n c : Nat) (r : Rc4) (k : Int) (z : Int) (w : World)
    (h1 : ∀ W, Below w.heap.size w W → Calls Try.prog 20 #[.slice A n c, .agg #[.int .i64 r.x0, .int .i64 r.y0, .int .i64 r.x1, .int .i64 r.y1], .int .i64 k] W (NoGL W z))
    (h2 : ∀ W, Below w.heap.size w W → Calls Try.prog 21 #[.slice A n c, .agg #[.int .i64 r.x0, .int .i64 r.y0, .int .i64 r.x1, .int .i64 r.y1], .int .i64 k] W (NoGL W z)) :
    Calls Try.prog 7 #[.slice A n c, .agg #[.int .i64 r.x0, .int .i64 r.y0, .int .i64 r.x1, .int .i64 r.y1], .int .i64 k] w fun e w' => e = .returned (.bool true) ∧ Below w.heap.size w w' := by
  have H1 := Lib.hid h1
  have H2 := Lib.hid h2
  have HS := Lib.hid (fun W => sameIntsL_eq none none [] 0 0 W (by decide) Lies.nil Lies.nil)
  have hzz : (z == z) = true := by simp
  have HB := Lib.hid (bnew w (.cells #[.int .i64 r.x0, .int .i64 r.y0, .int .i64 r.x1, .int .i64 r.y1] 27))
  have HR := Lib.hid (Blk.new w 27 [.int .i64 r.x0, .int .i64 r.y0, .int .i64 r.x1, .int .i64 r.y1])
  unfold NoGL at H1 H2
  clear h1 h2
  go_enter Try.func7, Try.ntmps7
  go_wp2_with fail
  refine (H1.out _ HB.out).mono ?_
  rintro e w1 ⟨rfl, hb1⟩
  have k1 := HR.out.below hb1 HR.out.lt
  have r0 := k1.cell 0
  have r1 := k1.cell 1
  have r2 := k1.cell 2
  have r3 := k1.cell 3
  have HB1 := Lib.hid (chain HB.out hb1)
  clear k1 hb1
  go_wp2_with fail
  refine (H2.out _ HB1.out).mono ?_
  rintro e w2 ⟨rfl, hb2⟩
  go_wp2_with fail
  refine (HS.out _).mono ?_
  rintro e w3 ⟨rfl, hb3⟩
  go_wp2_with fail
  go_ret
  exact ⟨rfl, chain (chain HB1.out hb2) hb3⟩

/-- Both tell the same list. -/
theorem same_yesGridTops (A : Option Addr) (n c : Nat) (r : Rc4) (k : Int) (L : List Nat) (w : World) (hl : L.length ≤ 150)
    (h1 : ∀ W, Below w.heap.size w W → Calls Try.prog 20 #[.slice A n c, .agg #[.int .i64 r.x0, .int .i64 r.y0, .int .i64 r.x1, .int .i64 r.y1], .int .i64 k] W (GivesGL W L))
    (h2 : ∀ W, Below w.heap.size w W → Calls Try.prog 21 #[.slice A n c, .agg #[.int .i64 r.x0, .int .i64 r.y0, .int .i64 r.x1, .int .i64 r.y1], .int .i64 k] W (GivesGL W L)) :
    Calls Try.prog 7 #[.slice A n c, .agg #[.int .i64 r.x0, .int .i64 r.y0, .int .i64 r.x1, .int .i64 r.y1], .int .i64 k] w fun e w' => e = .returned (.bool true) ∧ Below w.heap.size w w' := by
  have H1 := Lib.hid h1
  have H2 := Lib.hid h2
  have HS := Lib.hid (fun A A2 c c2 W h1 h2 => sameIntsL_eq A A2 (L.map fun x : Nat => (x : Int)) c c2 W (by rw [List.length_map]; omega) h1 h2)
  rw [← natC_map, List.length_map] at HS
  have HB := Lib.hid (bnew w (.cells #[.int .i64 r.x0, .int .i64 r.y0, .int .i64 r.x1, .int .i64 r.y1] 27))
  have HR := Lib.hid (Blk.new w 27 [.int .i64 r.x0, .int .i64 r.y0, .int .i64 r.x1, .int .i64 r.y1])
  unfold GivesGL at H1 H2
  generalize natC L = xs at *
  generalize L.length = m at *
  clear h1 h2
  go_enter Try.func7, Try.ntmps7
  go_wp2_with fail
  refine (H1.out _ HB.out).mono ?_
  rintro e w1 ⟨A1, c1, rfl, _, hl1, _, _, hb1⟩
  have k1 := HR.out.below hb1 HR.out.lt
  have r0 := k1.cell 0
  have r1 := k1.cell 1
  have r2 := k1.cell 2
  have r3 := k1.cell 3
  have HB1 := Lib.hid (chain HB.out hb1)
  clear k1 hb1
  go_wp2_with fail
  refine (H2.out _ HB1.out).mono ?_
  rintro e w2 ⟨A2, c2, rfl, _, hl2, _, _, hb2⟩
  go_wp2_with fail
  refine (HS.out A1 A2 c1 c2 _ (hl1.on hb2) hl2).mono ?_
  rintro e w3 ⟨rfl, hb3⟩
  go_wp2_with fail
  go_ret
  exact ⟨rfl, chain (chain HB1.out hb2) hb3⟩


set_option maxRecDepth 100000 in
set_option maxHeartbeats 4000000 in
/-- The walk: the Go text returns true, and writes nothing that was there. -/
theorem walk (A0 : Option Addr) (l0 : List Pt3) (c0 : Nat) (o1 : Rc4) (a2 : Int) (w : World) (hle0 : l0.length ≤ c0) (hcap0 : c0 * 24 ≤ 140737488351232) (hnil0 : A0 = none → c0 = 0) (w0 : Lies w w.heap.size A0 (ptC l0)) (f0 : ∀ o ∈ l0, o.Fits) (f1 : o1.Fits) (w2 : (Lit.int .i64 a2).wf = true) :
    Calls Try.prog 7 #[.slice A0 l0.length c0, .agg #[.int .i64 o1.x0, .int .i64 o1.y0, .int .i64 o1.x1, .int .i64 o1.y1], .int .i64 a2] w fun e w' => e = .returned (.bool true) ∧ Below w.heap.size w w' := by
  have hb : l0.length ≤ 17592186044416 := by omega
  by_cases he : ptsF l0 = 0
  · by_cases hk : a2 < 0
    · exact same_noGridTops A0 l0.length c0 o1 a2 2 w (fun W h => gtop_neg A0 l0 c0 o1 a2 W hb (w0.on h) he hk) (fun W h => rtop_neg A0 l0 c0 o1 a2 W hb (w0.on h) he hk)
    · obtain ⟨k, rfl⟩ := Int.eq_ofNat_of_zero_le (a := a2) (by omega)
      have hl : (topN (ssort (ltP l0 ltW) (insR l0 o1)) (k : Int)).length ≤ 150 := by
        unfold topN
        rw [List.length_take, ssort_length]
        have := Nat.le_trans (insTo_length l0 o1 l0.length) (ptsF_zero he).1
        unfold insR
        omega
      exact same_yesGridTops A0 l0.length c0 o1 k (topN (ssort (ltP l0 ltW) (insR l0 o1)) k) w hl (fun W h => gtop_ok A0 l0 c0 o1 k W he f1 (w0.on h)) (fun W h => rtop_ok A0 l0 c0 o1 k W hb (w0.on h) he)
  · exact same_noGridTops A0 l0.length c0 o1 a2 (ptsF l0) w (fun W h => gtop_err A0 l0 c0 o1 a2 W hb (w0.on h) he) (fun W h => rtop_err A0 l0 c0 o1 a2 W hb (w0.on h) he)

set_option maxRecDepth 100000 in
theorem lifted (os : Os) (started : os.Started) (H : Type) (enc : TypeId × Value → H) :
    ReturnsInHanded {} Try.checked os 7 .any (Rows.gridTopsSpec.pre6 enc Try.prog Try.f7 Rows.gridTopsRow.domain false) (Rows.gridTopsSpec.post enc Try.prog Try.f7 false true false false) := by
  refine returnsInHanded_of_change_sized (C := Try.checked) own started (by kernel_rfl) Try.func7
    (ChangeSpec.witness6 (enc := enc) (C := Try.checked) false ⟨#[], #[.slice none 0 0, .agg #[.int .i64 0, .int .i64 0, .int .i64 0, .int .i64 0], .int .i64 0], []⟩ 8 (by kernel_rfl) (by kernel_rfl) (by kernel_rfl) (by kernel_rfl)) ?_
  intro W base args ds gs before hval0 hW hcnd hsz0 _
  have hval : ∀ (j : Nat) t v, Try.f7.params[j]? = some t → args[j]? = some v → Value.okWide Try.prog W .any base t v := hval0
  have hW' := hW
  obtain ⟨p, q, hA0, hV, rfl, hfz, hnd⟩ := hW
  have hA : DataW.TrodAll enc Try.prog W 0 (fun _ => true) true Try.f7.params.toList args.toList ds p := hA0
  have hsz : (DataW.weightsEach Try.prog (Try.f7.params.toList ++ Rows.gridTopsSpec.plain.varTypes Try.prog) (ds ++ gs)).all (· ≤ reachBytes) = true := hsz0
  rw [Try.params7] at hA hval hsz
  obtain ⟨v0, vs0, d0, ds0, p0, q0, hargs, rfl, rfl, h0, r0⟩ := trodAll_cons hA
  obtain ⟨v1, vs1, d1, ds1, p1, q1, rfl, rfl, rfl, h1, r1⟩ := trodAll_cons r0
  obtain ⟨v2, vs2, d2, ds2, p2, q2, rfl, rfl, rfl, h2, r2⟩ := trodAll_cons r1
  obtain ⟨rfl, rfl, rfl⟩ := trodAll_nil r2
  obtain rfl : args = #[v0, v1, v2] := by cases args; simp_all
  obtain ⟨rfl, rfl⟩ := trodVars_none hV
  obtain ⟨A0, n0, c0, rfl⟩ := okWide_slice Try.underlying22 (hval 0 22 v0 rfl rfl)
  have k0 := h0
  have lt0 : ∀ x ∈ p0, x.block < W.heap.size := by obtain ⟨m, hm⟩ := k0; exact DataW.trod_lt m _ _ _ hm
  obtain ⟨fuel0, hf0⟩ := h0
  obtain ⟨A0_, l0, c0_, hcs0, hle0, hcap0, hnil0, w0, f0⟩ := rd_threes Try.underlying22 Try.underlying43 (by kernel_rfl) (by kernel_rfl) rfl rfl rfl rfl rfl rfl Try.underlying3 (by kernel_rfl) hf0 (weight_arg hsz (j := 0) (t := 22) rfl rfl)
  have hcs0_ : [Value.slice A0 n0 c0] = [.slice A0_ l0.length c0_] := hcs0
  simp only [List.cons.injEq, Value.slice.injEq, and_true] at hcs0_
  obtain ⟨rfl, rfl, rfl⟩ := hcs0_
  clear hcs0
  obtain ⟨cs1, rfl, hsize1⟩ := okWide_struct Try.underlying27 (hval 1 27 v1 rfl rfl)
  have k1 := h1
  have lt1 : ∀ x ∈ p1, x.block < W.heap.size := by obtain ⟨m, hm⟩ := k1; exact DataW.trod_lt m _ _ _ hm
  obtain ⟨fuel1, hf1⟩ := h1
  obtain ⟨o1, hcs1, f1⟩ := rd_rect Try.underlying27 (by kernel_rfl) rfl rfl rfl rfl rfl rfl rfl rfl Try.underlying3 (by kernel_rfl) hf1
  have hcs1_ : cs1 = #[.int .i64 o1.x0, .int .i64 o1.y0, .int .i64 o1.x1, .int .i64 o1.y1] := Array.toList_inj.1 hcs1
  subst hcs1_
  clear hcs1
  obtain ⟨a2, rfl, rfl, rfl, w2⟩ := open_int Try.underlying3 (hval 2 3 v2 rfl rfl) h2
  clear hA0 hval0
  refine (walk A0 l0 c0 o1 a2 W hle0 hcap0 hnil0 w0 f0 f1 w2).mono fun e W' ⟨he, bel⟩ => ?_
  subst he
  exact ⟨_, rfl, _, _, _, [], _, [], hW', trodAll_mk1 (shut_bool Try.underlying4 _), (trodAll_cons_mk (Below.trod laidOut (by kernel_rfl) (of_decide_eq_true (by kernel_rfl)) k0 bel lt0) (trodAll_cons_mk (Below.trod laidOut (by kernel_rfl) (of_decide_eq_true (by kernel_rfl)) k1 bel lt1) (trodAll_cons_mk (shut_int Try.underlying3 w2) trodAll_mk0))), rfl, bel.frame _, fun h => by cases h⟩

theorem over : Rows.gridTopsRow.holds Try.pinned (OpenSpec.ofChange Rows.gridTopsSpec) :=
  OpenClaim.holds_of_wide 7 Try.f7 rfl rfl rfl rfl rfl rfl rfl ⟨rfl, rfl, rfl, rfl, rfl⟩ rfl rfl rfl rfl rfl (by kernel_rfl) Try.func7 (by kernel_rfl)
    (of_decide_eq_true (by kernel_rfl)) (by unfold Func.isWrapper; first | (rw [if_pos (by decide +kernel)]; kernel_rfl) | (rw [if_neg (by decide +kernel)]; exact ⟨rfl, rfl⟩))
    (fun os started H enc _ => lifted os started H enc)

/-- THE STATEMENT. -/
theorem proved : Rows.GridTopsSaid := over
#print axioms proved
end Go.Proofs.Ythmfcdefdbeefaa.gridTops
