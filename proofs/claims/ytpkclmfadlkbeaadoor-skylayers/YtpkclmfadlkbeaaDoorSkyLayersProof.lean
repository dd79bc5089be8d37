/-
  For every list ps of points, Go's sky.Layers(ps) returns the list or the error that the document's answer returns (P14.1).
  The card is tied: the document's package variable everywhere holds, when the call begins, what the program's own text lays (the tie is given with the seat; that nothing else writes it is the translator's report).
-/
import Derived.Test.YtpkclmfadlkbeaaDoorRows
import Derived.Test.YtpkclmfadlkbeaaDoorTie
import Derived.Test.YtpkclmfadlkbeaaDoorCards
import Derived.Test.YtpkclmfadlkbeaaDoorJ03
import Derived.Test.YtpkclmfadlkbeaaDoorJ34
import Derived.Test.YtpkclmfadlkbeaaDoorJ18
import Derived.Test.YtpkclmfadlkbeaaDoorJ04
import Derived.WalkKit
import Derived.ProofKit
import Derived.OpenShut
import Derived.ChangeOld
import Derived.Below
import Derived.Carry
import Derived.SizedLaws
import Derived.Deep.RegionWith
import Derived.Deep.RegionHeld3
import Derived.LaidMore
import Derived.Stop.Joined
import Derived.Lib.LaidTab
import Derived.SevenTiedAt
namespace Go.Proofs.YtpkclmfadlkbeaaDoor.skyLayers
open Go.ChangeShapes Go.WideShapes Go.ChangeAt Go.RowKit Words
set_option linter.unusedVariables false

theorem own : ownKnob Tryd.prog.godebug = none := by kernel_rfl
theorem laidOut : laidOutB Tryd.prog = true := by kernel_rfl
/-- Both tell the same error. -/
theorem same_noSkyLayers (A : Option Addr) (n c : Nat) (z : Int) (w : World)
    (h1 : ∀ W, Below w.heap.size w W → Calls Tryd.prog 8 #[.slice A n c] W (NoGL W z))
    (h2 : ∀ W, Below w.heap.size w W → Calls Tryd.prog 9 #[.slice A n c] W (NoGL W z)) :
    Calls Tryd.prog 4 #[.slice A n c] w fun e w' => e = .returned (.bool true) ∧ Below w.heap.size w w' := by
  have H1 := Lib.hid h1
  have H2 := Lib.hid h2
  have HS := Lib.hid (fun W => sameIntsL_eq none none [] 0 0 W (by decide) Lies.nil Lies.nil)
  have hzz : (z == z) = true := by simp
  have HB := Lib.hid (Below.refl w.heap.size w)
  unfold NoGL at H1 H2
  clear h1 h2
  go_enter Tryd.func4, Tryd.ntmps4
  go_wp2_with fail
  refine (H1.out _ HB.out).mono ?_
  rintro e w1 ⟨rfl, hb1⟩
  have HB1 := Lib.hid hb1
  clear hb1
  go_wp2_with fail
  refine (H2.out _ HB1.out).mono ?_
  rintro e w2 ⟨rfl, hb2⟩
  go_wp2_with fail
  refine (HS.out _).mono ?_
  rintro e w3 ⟨rfl, hb3⟩
  go_wp2_with fail
  go_ret
  exact ⟨rfl, chain (chain HB1.out hb2) hb3⟩

/-- Both tell the same list. -/
theorem same_yesSkyLayers (A : Option Addr) (n c : Nat) (L : List Nat) (w : World) (hl : L.length ≤ 150)
    (h1 : ∀ W, Below w.heap.size w W → Calls Tryd.prog 8 #[.slice A n c] W (GivesGL W L))
    (h2 : ∀ W, Below w.heap.size w W → Calls Tryd.prog 9 #[.slice A n c] W (GivesGL W L)) :
    Calls Tryd.prog 4 #[.slice A n c] w fun e w' => e = .returned (.bool true) ∧ Below w.heap.size w w' := by
  have H1 := Lib.hid h1
  have H2 := Lib.hid h2
  have HS := Lib.hid (fun A A2 c c2 W h1 h2 => sameIntsL_eq A A2 (L.map fun x : Nat => (x : Int)) c c2 W (by rw [List.length_map]; omega) h1 h2)
  rw [← natC_map, List.length_map] at HS
  have HB := Lib.hid (Below.refl w.heap.size w)
  unfold GivesGL at H1 H2
  generalize natC L = xs at *
  generalize L.length = m at *
  clear h1 h2
  go_enter Tryd.func4, Tryd.ntmps4
  go_wp2_with fail
  refine (H1.out _ HB.out).mono ?_
  rintro e w1 ⟨A1, c1, rfl, _, hl1, _, _, hb1⟩
  have HB1 := Lib.hid hb1
  clear hb1
  go_wp2_with fail
  refine (H2.out _ HB1.out).mono ?_
  rintro e w2 ⟨A2, c2, rfl, _, hl2, _, _, hb2⟩
  go_wp2_with fail
  refine (HS.out A1 A2 c1 c2 _ (hl1.on hb2) hl2).mono ?_
  rintro e w3 ⟨rfl, hb3⟩
  go_wp2_with fail
  go_ret
  exact ⟨rfl, chain (chain HB1.out hb2) hb3⟩


set_option maxRecDepth 100000 in
set_option maxHeartbeats 4000000 in
/-- The walk: the Go text returns true, and writes nothing that was there. -/
theorem walk (A0 : Option Addr) (l0 : List Pt3) (c0 : Nat) (w : World) (hT : Ev w) (hle0 : l0.length ≤ c0) (hcap0 : c0 * 24 ≤ 140737488351232) (hnil0 : A0 = none → c0 = 0) (w0 : Lies w w.heap.size A0 (ptC l0)) (f0 : ∀ o ∈ l0, o.Fits) :
    Calls Tryd.prog 4 #[.slice A0 l0.length c0] w fun e w' => e = .returned (.bool true) ∧ Below w.heap.size w w' := by
  have hb : l0.length ≤ 17592186044416 := by omega
  by_cases he : ptsF l0 = 0
  · refine same_yesSkyLayers A0 l0.length c0 ((List.range l0.length).map (layL l0)) w (by simpa using (ptsF_zero he).1) (fun W h => (slay_ok A0 l0 c0 W he (w0.on h)).mono ?_) (fun W h => rlay_ok A0 l0 c0 W (hT.on h) (w0.on h) he)
    rintro e w' ⟨f, hf, hg⟩
    rwa [List.map_congr_left fun i hi => lay_one he hf (layL_lay l0) i (List.mem_range.1 hi)] at hg
  · exact same_noSkyLayers A0 l0.length c0 (ptsF l0) w (fun W h => slay_err A0 l0 c0 W hb (w0.on h) he) (fun W h => rlay_err A0 l0 c0 W hb (w0.on h) he)

theorem gTab : Tryd.prog.globalNamed "damask/damaskref.everywhere" = some 0 := by kernel_rfl
theorem tTab : (Tryd.prog.globals[0]?).map (·.type) = some 33 := by kernel_rfl
/-- The door's own heap meets the condition. -/
theorem door_met (os : Os) (args : Array Value) : laidMetH Tryd.prog Rows.skyLayersRow.laid ((World.doorLaid Tryd.prog 14 os).forCall (fun _ _ => 0) ⟨#[], args, []⟩).memory :=
  laidMetH_of_parts3 (fuel := 8) (laidMet_of_run' 8 (by kernel_rfl) (by kernel_rfl)) (by kernel_rfl) (by kernel_rfl)

/-- What the condition gives the walk: the variable's cells. -/
theorem tab_of {W : World} (h : laidMetH Tryd.prog Rows.skyLayersRow.laid W) : Ev W := by
  rw [MakeChecks.laidMetH_plain _ _ _ (by kernel_rfl)] at h
  have h2 : laidMet Tryd.prog [("damask/damaskref.everywhere", .agg [.lit (.int .i64 (-1048576)), .lit (.int .i64 (-1048576)), .lit (.int .i64 1048576), .lit (.int .i64 1048576)])] W := h
  obtain ⟨ps, ⟨g2, t2, cs, fuel, p, q, hg2, ht2, hvar, hd, _, _⟩, _⟩ := h2
  obtain rfl := Option.some.inj (gTab.symm.trans hg2)
  obtain rfl := Option.some.inj (tTab.symm.trans ht2)
  have hcs := ev_rect Tryd.underlying33 (by kernel_rfl) rfl rfl rfl rfl rfl rfl rfl rfl Tryd.underlying3 (by kernel_rfl) hd
  have hc := fun i => World.var?_cell gTab hvar i
  obtain rfl : cs = #[.int .i64 (-1048576), .int .i64 (-1048576), .int .i64 1048576, .int .i64 1048576] := Array.toList_inj.1 hcs
  exact ⟨hc 0, hc 1, hc 2, hc 3⟩

set_option maxRecDepth 100000 in
theorem lifted (os : Os) (started : os.Started) (H : Type) (enc : TypeId × Value → H) :
    ReturnsInHanded {} Tryd.checked os 4 .any (fun w args => (Rows.skyLayersSpec.pre enc Tryd.prog Tryd.f4 [] false w args ∧ laidMetH Tryd.prog Rows.skyLayersRow.laid w) ∧ sizedMet enc Tryd.prog Tryd.f4 (OpenSpec.ofChange Rows.skyLayersSpec) false w args)
      (Rows.skyLayersSpec.post enc Tryd.prog Tryd.f4 false true false false) := by
  refine returnsInHanded_of_change_and (C := Tryd.checked) (X := fun w _ => laidMetH Tryd.prog Rows.skyLayersRow.laid w) (fun _ _ _ hh h => h.of_heap hh) own started (by kernel_rfl) Tryd.func4
    (ChangeSpec.witness_shaped (enc := enc) (C := Tryd.checked) (os := os) (X := fun w _ => laidMetH Tryd.prog Rows.skyLayersRow.laid w) false (World.doorLaid Tryd.prog 14 os) #[.slice none 0 0] 8 rfl (World.shaped_of_RefB (by kernel_rfl) (by kernel_rfl)) (by kernel_rfl) (by kernel_rfl) (by kernel_rfl) (door_met os _)) ?_
  intro W base args ds gs before hval0 hW _ hsz0 hL _
  have hval : ∀ (j : Nat) t v, Tryd.f4.params[j]? = some t → args[j]? = some v → Value.okWide Tryd.prog W .any base t v := hval0
  have hW' := hW
  obtain ⟨p, q, hA0, hV, rfl, hfz, hnd⟩ := hW
  have hA : DataW.TrodAll enc Tryd.prog W 0 (fun _ => true) true Tryd.f4.params.toList args.toList ds p := hA0
  have hsz : (DataW.weightsEach Tryd.prog (Tryd.f4.params.toList ++ Rows.skyLayersSpec.plain.varTypes Tryd.prog) (ds ++ gs)).all (· ≤ reachBytes) = true := hsz0
  rw [Tryd.params4] at hA hval hsz
  obtain ⟨v0, vs0, d0, ds0, p0, q0, hargs, rfl, rfl, h0, r0⟩ := trodAll_cons hA
  obtain ⟨rfl, rfl, rfl⟩ := trodAll_nil r0
  obtain rfl : args = #[v0] := by cases args; simp_all
  obtain ⟨rfl, rfl⟩ := trodVars_none hV
  obtain ⟨A0, n0, c0, rfl⟩ := okWide_slice Tryd.underlying22 (hval 0 22 v0 rfl rfl)
  have k0 := h0
  have lt0 : ∀ x ∈ p0, x.block < W.heap.size := by obtain ⟨m, hm⟩ := k0; exact DataW.trod_lt m _ _ _ hm
  obtain ⟨fuel0, hf0⟩ := h0
  obtain ⟨A0_, l0, c0_, hcs0, hle0, hcap0, hnil0, w0, f0⟩ := rd_threes Tryd.underlying22 Tryd.underlying35 (by kernel_rfl) (by kernel_rfl) rfl rfl rfl rfl rfl rfl Tryd.underlying3 (by kernel_rfl) hf0 (weight_arg hsz (j := 0) (t := 22) rfl rfl)
  have hcs0_ : [Value.slice A0 n0 c0] = [.slice A0_ l0.length c0_] := hcs0
  simp only [List.cons.injEq, Value.slice.injEq, and_true] at hcs0_
  obtain ⟨rfl, rfl, rfl⟩ := hcs0_
  clear hcs0
  clear hA0 hval0
  refine (walk A0 l0 c0 W (tab_of hL) hle0 hcap0 hnil0 w0 f0).mono fun e W' ⟨he, bel⟩ => ?_
  subst he
  exact ⟨_, rfl, _, _, _, [], _, [], hW', trodAll_mk1 (shut_bool Tryd.underlying4 _), (trodAll_cons_mk (Below.trod laidOut (by kernel_rfl) (of_decide_eq_true (by kernel_rfl)) k0 bel lt0) trodAll_mk0), rfl, bel.frame _, fun h => by cases h⟩

theorem over : Rows.SkyLayersSaid :=
  OpenClaim.holds_of_wide 4 Tryd.f4 rfl rfl rfl rfl rfl rfl rfl ⟨rfl, rfl, rfl, rfl, rfl⟩ rfl rfl rfl rfl rfl (by kernel_rfl) Tryd.func4 (by kernel_rfl)
    (of_decide_eq_true (by kernel_rfl)) (by unfold Func.isWrapper; first | (rw [if_pos (by decide +kernel)]; kernel_rfl) | (rw [if_neg (by decide +kernel)]; exact ⟨rfl, rfl⟩))
    (fun os started H enc _ => lifted os started H enc)

/-- THE STATEMENT: the tied card. -/
theorem proved : Rows.SkyLayersCardSaid :=
  Claim7.holds_tied_plain_at .later [] [.data] true (true, "e238aebeadf4dfc84d2404cf205fb1df9930a523ecbaa1bedc30cf7b4654623a") false
    over (fun _ h => by cases h) (by kernel_rfl) (fun _ h => by cases h) skyLayers_row_tie rfl ⟨rfl, rfl⟩ (by kernel_rfl) rfl
    (fun f fn hf hfn => by
      obtain rfl : f = 4 := Option.some.inj ((show Tryd.prog.funcNamed "damask/damasklaw.SkyLayers" = some 4 by kernel_rfl).symm.trans hf) |>.symm
      obtain rfl : fn = Tryd.f4 := (Option.some.inj (Tryd.func4.symm.trans hfn)).symm
      exact ⟨by kernel_rfl, fun j t ht => by
        rw [Tryd.params4] at ht
        have hm : t ∈ [22] := by simpa using Array.mem_of_getElem? ht
        have hall : ([22].all fun u => !Tryd.prog.wantsStandIn u) = true := by kernel_rfl
        exact (show Tryd.prog.wantsStandIn t = false by simpa using List.all_eq_true.1 hall t hm)⟩)
    (by kernel_rfl)
#print axioms proved
end Go.Proofs.YtpkclmfadlkbeaaDoor.skyLayers
