/-
  For every encoding f (any bound, any words), Go's fano.May(f) returns what the document's answer returns (P5.2).
  The card is tied: the library's table math/bits.deBruijn64tab holds, when the call begins, what the program's own text lays (the tie is given with the seat; that nothing else writes the table is the translator's report).
-/
import Derived.Test.YtmlekhgjnhnjlaaDoorRows
import Derived.Test.YtmlekhgjnhnjlaaDoorTie
import Derived.Test.YtmlekhgjnhnjlaaDoorCards
import Derived.Test.YtmlekhgjnhnjlaaDoorFrame
import Derived.Test.YtmlekhgjnhnjlaaDoorFrameF
import Derived.Test.YtmlekhgjnhnjlaaDoorFanoAsk
import Derived.WalkKit
import Derived.ProofKit
import Derived.OpenShut
import Derived.ChangeOld
import Derived.Below
import Derived.Carry
import Derived.SizedLaws
import Derived.Deep.RegionWith
import Derived.Deep.RegionHeld3
import Derived.LaidMore
import Derived.Stop.Joined
import Derived.Lib.LaidTab
import Derived.SevenTiedAt
namespace Go.Proofs.YtmlekhgjnhnjlaaDoor.fanoMays
open Go.ChangeShapes Go.WideShapes Go.ChangeAt Go.RowKit Words
set_option linter.unusedVariables false

theorem own : ownKnob Tryd.prog.godebug = none := by kernel_rfl
theorem laidOut : laidOutB Tryd.prog = true := by kernel_rfl

set_option maxHeartbeats 1000000 in
/-- The walk: the Go text returns true, and writes nothing that was there. -/
theorem walk (Z0 N0 D0 : Int) (A0 : Option Addr) (l0 : List Nat) (c0 : Nat) (M0 : Int) (E0 : Option Addr) (g0 : List Nat) (e0 : Nat) (w : World) (hT : Tab w) (wZ0 : (Lit.int .i64 Z0).wf = true) (wN0 : (Lit.int .i64 N0).wf = true) (wD0 : (Lit.int .i64 D0).wf = true) (hle0 : l0.length ≤ c0) (hcap0 : c0 * 8 ≤ 140737488351232) (hnil0 : A0 = none → c0 = 0) (w0 : Words64 w w.heap.size A0 l0) (wM0 : (Lit.int .i64 M0).wf = true) (gle0 : g0.length ≤ e0) (gcap0 : e0 * 8 ≤ 140737488351232) (gnil0 : E0 = none → e0 = 0) (v0 : Words64 w w.heap.size E0 g0) :
    Calls Tryd.prog 3 #[.agg #[.int .i64 Z0, .int .i64 N0, .int .i64 D0, .slice A0 l0.length c0, .int .i64 M0, .slice E0 g0.length e0]] w fun e w' => e = .returned (.bool true) ∧ Below w.heap.size w w' := by
  have HT := Lib.hid hT
  have HW := Lib.hid w0
  have HH := Lib.hid v0
  have hk1 : l0.length ≤ 17592186044416 := by omega
  have hk2 : g0.length ≤ 17592186044416 := by omega
  have HR := Lib.hid (fun W hW hH => read_any Z0 N0 D0 A0 l0 c0 M0 E0 g0 e0 W hW hH hk1 hk2)
  clear hT w0 v0 hnil0 gnil0 wZ0 wN0 wD0 wM0
  by_cases h : ∃ ns B, Enc Z0 N0 D0 l0 M0 g0 ns B
  · obtain ⟨ns, B, he⟩ := h
    have HM := Lib.hid (fun W hT hW hH => fmay_yes Z0 N0 D0 A0 l0 c0 M0 E0 g0 e0 W hT hW hH ns B he)
    have HE := Lib.hid he
    clear he
    generalize l0.length = k at *
    generalize g0.length = k2 at *
    go_enter Tryd.func3, Tryd.ntmps3
    go_wp2_with fail
    refine (HR.out _ (by exact HW.out.alloc _) (by exact HH.out.alloc _)).mono ?_
    rintro e w1 h
    obtain ⟨A5, c5, rfl, hle5, hl5, hb1⟩ := h.yes HE.out
    have hc1 := bcell hb1
    clear h hl5
    go_wp2_with fail
    refine (HM.out _ (by exact (HT.out.alloc _).on hb1) (by exact (HW.out.alloc _).on hb1) (by exact (HH.out.alloc _).on hb1)).mono ?_
    rintro e w2 ⟨rfl, hb2⟩
    go_wp2
    go_ret
    exact ⟨rfl, chain (chain (bnew _ _) hb1) hb2⟩
  · have hno : ∀ ns B, ¬ Enc Z0 N0 D0 l0 M0 g0 ns B := fun ns B he => h ⟨ns, B, he⟩
    have HM := Lib.hid (fun W hT hW hH => fmay_no Z0 N0 D0 A0 l0 c0 M0 E0 g0 e0 W hT hW hH hno)
    have HNo := Lib.hid hno
    clear h hno
    generalize l0.length = k at *
    generalize g0.length = k2 at *
    go_enter Tryd.func3, Tryd.ntmps3
    go_wp2_with fail
    refine (HR.out _ (by exact HW.out.alloc _) (by exact HH.out.alloc _)).mono ?_
    rintro e w1 h
    obtain ⟨rfl, hb1⟩ := h.no HNo.out
    have hc1 := bcell hb1
    clear h
    go_wp2_with fail
    refine (HM.out _ (by exact (HT.out.alloc _).on hb1) (by exact (HW.out.alloc _).on hb1) (by exact (HH.out.alloc _).on hb1)).mono ?_
    rintro e w2 ⟨rfl, hb2⟩
    go_wp2
    go_ret
    exact ⟨rfl, chain (chain (bnew _ _) hb1) hb2⟩

theorem gTab : Tryd.prog.globalNamed "math/bits.deBruijn64tab" = some 0 := by kernel_rfl
theorem tTab : (Tryd.prog.globals[0]?).map (·.type) = some 72 := by kernel_rfl
/-- The door's own heap meets the condition. -/
theorem door_met (os : Os) (args : Array Value) : laidMetH Tryd.prog Rows.fanoMaysRow.laid ((World.doorLaid Tryd.prog 14 os).forCall (fun _ _ => 0) ⟨#[], args, []⟩).memory :=
  laidMetH_of_parts3 (fuel := 8) (laidMet_of_run' 8 (by kernel_rfl) (by kernel_rfl)) (by kernel_rfl) (by kernel_rfl)

/-- What the condition gives the walk: the table's cells. -/
theorem tab_of {W : World} (h : laidMetH Tryd.prog Rows.fanoMaysRow.laid W) : Tab W := by
  rw [MakeChecks.laidMetH_plain _ _ _ (by kernel_rfl)] at h
  have h2 : laidMet Tryd.prog [("math/bits.deBruijn64tab", Lib.tabData .u8 (Lib.deBruijn64tab.map fun n : Nat => (n : Int)))] W := h
  have ht := Lib.tabIs_of_head gTab tTab Tryd.underlying72 Tryd.underlying5 (by kernel_rfl) (by kernel_rfl) h2
  intro j hj
  have hc := ht.cell gTab j (by simpa [Lib.deBruijn64tab] using hj)
  rw [hc]
  congr 2
  simp only [List.getD, List.getElem?_map]
  cases Lib.deBruijn64tab[j]? <;> rfl

set_option maxRecDepth 100000 in
theorem lifted (os : Os) (started : os.Started) (H : Type) (enc : TypeId × Value → H) :
    ReturnsInHanded {} Tryd.checked os 3 .any (fun w args => (Rows.fanoMaysSpec.pre enc Tryd.prog Tryd.f3 [] false w args ∧ laidMetH Tryd.prog Rows.fanoMaysRow.laid w) ∧ sizedMet enc Tryd.prog Tryd.f3 (OpenSpec.ofChange Rows.fanoMaysSpec) false w args)
      (Rows.fanoMaysSpec.post enc Tryd.prog Tryd.f3 false true false false) := by
  refine returnsInHanded_of_change_and (C := Tryd.checked) (X := fun w _ => laidMetH Tryd.prog Rows.fanoMaysRow.laid w) (fun _ _ _ hh h => h.of_heap hh) own started (by kernel_rfl) Tryd.func3
    (ChangeSpec.witness_shaped (enc := enc) (C := Tryd.checked) (os := os) (X := fun w _ => laidMetH Tryd.prog Rows.fanoMaysRow.laid w) false (World.doorLaid Tryd.prog 14 os) #[.agg #[.int .i64 0, .int .i64 0, .int .i64 0, .slice none 0 0, .int .i64 0, .slice none 0 0]] 8 rfl (World.shaped_of_RefB (by kernel_rfl) (by kernel_rfl)) (by kernel_rfl) (by kernel_rfl) (by kernel_rfl) (door_met os _)) ?_
  intro W base args ds gs before hval0 hW _ hsz0 hL _
  have hval : ∀ (j : Nat) t v, Tryd.f3.params[j]? = some t → args[j]? = some v → Value.okWide Tryd.prog W .any base t v := hval0
  have hW' := hW
  obtain ⟨p, q, hA0, hV, rfl, hfz, hnd⟩ := hW
  have hA : DataW.TrodAll enc Tryd.prog W 0 (fun _ => true) true Tryd.f3.params.toList args.toList ds p := hA0
  have hsz : (DataW.weightsEach Tryd.prog (Tryd.f3.params.toList ++ Rows.fanoMaysSpec.plain.varTypes Tryd.prog) (ds ++ gs)).all (· ≤ reachBytes) = true := hsz0
  rw [Tryd.params3] at hA hval hsz
  obtain ⟨v0, vs0, d0, ds0, p0, q0, hargs, rfl, rfl, h0, r0⟩ := trodAll_cons hA
  obtain ⟨rfl, rfl, rfl⟩ := trodAll_nil r0
  obtain rfl : args = #[v0] := by cases args; simp_all
  obtain ⟨rfl, rfl⟩ := trodVars_none hV
  obtain ⟨cs0, rfl, hsize0⟩ := okWide_struct Tryd.underlying28 (hval 0 28 v0 rfl rfl)
  have k0 := h0
  have lt0 : ∀ x ∈ p0, x.block < W.heap.size := by obtain ⟨m, hm⟩ := k0; exact DataW.trod_lt m _ _ _ hm
  obtain ⟨fuel0, hf0⟩ := h0
  obtain ⟨Z0, N0, D0, A0, l0, c0, M0, E0, g0, e0, hcs0, wZ0, wN0, wD0, hle0, hcap0, hnil0, w0, wM0, gle0, gcap0, gnil0, v0⟩ := rd_fano Tryd.underlying28 (by kernel_rfl) rfl rfl rfl rfl rfl rfl Tryd.underlying24 (by kernel_rfl) rfl rfl rfl rfl rfl rfl Tryd.underlying26 (by kernel_rfl) rfl rfl rfl rfl Tryd.underlying3 (by kernel_rfl) Tryd.underlying22 (by kernel_rfl) Tryd.underlying60 (by kernel_rfl) (by kernel_rfl) hf0 (weight_arg hsz (j := 0) (t := 28) rfl rfl)
  have hcs0_ : cs0 = #[.int .i64 Z0, .int .i64 N0, .int .i64 D0, .slice A0 l0.length c0, .int .i64 M0, .slice E0 g0.length e0] := Array.toList_inj.1 hcs0
  subst hcs0_
  clear hcs0
  clear hA0 hval0
  refine (walk Z0 N0 D0 A0 l0 c0 M0 E0 g0 e0 W (tab_of hL) wZ0 wN0 wD0 hle0 hcap0 hnil0 w0 wM0 gle0 gcap0 gnil0 v0).mono fun e W' ⟨he, bel⟩ => ?_
  subst he
  exact ⟨_, rfl, _, _, _, [], _, [], hW', trodAll_mk1 (shut_bool Tryd.underlying4 _), (trodAll_cons_mk (Below.trod laidOut (by kernel_rfl) (of_decide_eq_true (by kernel_rfl)) k0 bel lt0) trodAll_mk0), rfl, bel.frame _, fun h => by cases h⟩

theorem over : Rows.FanoMaysSaid :=
  OpenClaim.holds_of_wide 3 Tryd.f3 rfl rfl rfl rfl rfl rfl rfl ⟨rfl, rfl, rfl, rfl, rfl⟩ rfl rfl rfl rfl rfl (by kernel_rfl) Tryd.func3 (by kernel_rfl)
    (of_decide_eq_true (by kernel_rfl)) (by unfold Func.isWrapper; first | (rw [if_pos (by decide +kernel)]; kernel_rfl) | (rw [if_neg (by decide +kernel)]; exact ⟨rfl, rfl⟩))
    (fun os started H enc _ => lifted os started H enc)

/-- THE STATEMENT: the tied card. -/
theorem proved : Rows.FanoMaysCardSaid :=
  Claim7.holds_tied_plain_at .later [] [.data] true (true, "a810195525fcbec78bc6bb90b5ec27dd7ea3facb991b9a6aa2dabf128cf97b69") false
    over (fun _ h => by cases h) (by kernel_rfl) (fun _ h => by cases h) fanoMays_row_tie rfl ⟨rfl, rfl⟩ (by kernel_rfl) rfl
    (fun f fn hf hfn => by
      obtain rfl : f = 3 := Option.some.inj ((show Tryd.prog.funcNamed "damask/damasklaw.FanoMays" = some 3 by kernel_rfl).symm.trans hf) |>.symm
      obtain rfl : fn = Tryd.f3 := (Option.some.inj (Tryd.func3.symm.trans hfn)).symm
      exact ⟨by kernel_rfl, fun j t ht => by
        rw [Tryd.params3] at ht
        have hm : t ∈ [28] := by simpa using Array.mem_of_getElem? ht
        have hall : ([28].all fun u => !Tryd.prog.wantsStandIn u) = true := by kernel_rfl
        exact (show Tryd.prog.wantsStandIn t = false by simpa using List.all_eq_true.1 hall t hm)⟩)
    (by kernel_rfl)
#print axioms proved
end Go.Proofs.YtmlekhgjnhnjlaaDoor.fanoMays
