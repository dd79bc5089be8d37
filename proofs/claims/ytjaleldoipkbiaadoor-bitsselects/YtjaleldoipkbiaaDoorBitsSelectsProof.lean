/-
  For every bit vector b, every kind of bit and every number k, Go's bits.Select(b, one, k) returns the place or the error that the document's answer returns (P2.2).
  The card is tied: the library's table math/bits.deBruijn64tab holds, when the call begins, what the program's own text lays (the tie is given with the seat; that nothing else writes the table is the translator's report).
-/
import Derived.Test.YtjaleldoipkbiaaDoorRows
import Derived.Test.YtjaleldoipkbiaaDoorTie
import Derived.Test.YtjaleldoipkbiaaDoorCards
import Derived.Test.YtjaleldoipkbiaaDoorFrame
import Derived.Test.YtjaleldoipkbiaaDoorBitsSel
import Derived.Test.YtjaleldoipkbiaaDoorRefSel
import Derived.WalkKit
import Derived.ProofKit
import Derived.OpenShut
import Derived.ChangeOld
import Derived.Below
import Derived.Carry
import Derived.SizedLaws
import Derived.Deep.RegionWith
import Derived.Deep.RegionHeld3
import Derived.LaidMore
import Derived.Stop.Joined
import Derived.Lib.LaidTab
import Derived.SevenTiedAt
namespace Go.Proofs.YtjaleldoipkbiaaDoor.bitsSelects
open Go.ChangeShapes Go.WideShapes Go.ChangeAt Go.RowKit Words
set_option linter.unusedVariables false

theorem own : ownKnob Tryd.prog.godebug = none := by kernel_rfl
theorem laidOut : laidOutB Tryd.prog = true := by kernel_rfl

set_option maxHeartbeats 1000000 in
/-- The walk: the Go text returns true, and writes nothing that was there. -/
theorem walk (n0 : Int) (A0 : Option Addr) (l0 : List Nat) (c0 : Nat) (a1 : Bool) (a2 : Int) (w : World) (hT : Tab w) (wn0 : (Lit.int .i64 n0).wf = true) (hle0 : l0.length ≤ c0) (hcap0 : c0 * 8 ≤ 140737488351232) (hnil0 : A0 = none → c0 = 0) (w0 : Words64 w w.heap.size A0 l0) (w2 : (Lit.int .i64 a2).wf = true) :
    Calls Tryd.prog 3 #[.agg #[.int .i64 n0, .slice A0 l0.length c0], .bool a1, .int .i64 a2] w fun e w' => e = .returned (.bool true) ∧ Below w.heap.size w w' := by
  have HT := Lib.hid hT
  have hb64 := bounds_i64 w2
  clear hT w2
  by_cases h : ∃ m : Nat, n0 = m ∧ Valid m l0
  · obtain ⟨m, rfl, hV⟩ := h
    by_cases hr : a2 < 0
    · have H1 := Lib.hid (fun W (_ : Tab W) (h : Words64 W W.heap.size A0 l0) => bsel_neg m a2 a1 A0 l0 c0 W hV h hr)
      have H2 := Lib.hid (fun W (h : Words64 W W.heap.size A0 l0) => rbsel_neg m a2 a1 A0 l0 c0 W hV h hr)
      clear hr hV hb64
      have HW := Lib.hid w0
      clear w0 hnil0 wn0
      go_enter Tryd.func3, Tryd.ntmps3
      go_wp2_with (first
        | (go_at_call 5; refine (H1.out _ (by exact HT.out.alloc _) (by exact HW.out.alloc _)).mono ?_; rintro e w1 ⟨rfl, hb1⟩; have hc1 := bcell hb1)
        | (go_at_call 6; refine (H2.out _ (by exact (HW.out.alloc _).on hb1)).mono ?_; rintro e w2 ⟨rfl, hb2⟩))
      go_ret
      exact ⟨rfl, chain (chain (bnew _ _) hb1) hb2⟩
    · obtain ⟨k, rfl⟩ := Int.eq_ofNat_of_zero_le (a := a2) (by omega)
      by_cases hn : tally (kind l0 m a1) m ≤ k
      · have H1 := Lib.hid (fun W (_ : Tab W) (h : Words64 W W.heap.size A0 l0) => bsel_none m k a1 A0 l0 c0 W hV h (by omega) hn)
        have H2 := Lib.hid (fun W (h : Words64 W W.heap.size A0 l0) => rbsel_none m k a1 A0 l0 c0 W hV h (by omega) hn)
        clear hr hV hn hb64
        have HW := Lib.hid w0
        clear w0 hnil0 wn0
        go_enter Tryd.func3, Tryd.ntmps3
        go_wp2_with (first
          | (go_at_call 5; refine (H1.out _ (by exact HT.out.alloc _) (by exact HW.out.alloc _)).mono ?_; rintro e w1 ⟨rfl, hb1⟩; have hc1 := bcell hb1)
          | (go_at_call 6; refine (H2.out _ (by exact (HW.out.alloc _).on hb1)).mono ?_; rintro e w2 ⟨rfl, hb2⟩))
        go_ret
        exact ⟨rfl, chain (chain (bnew _ _) hb1) hb2⟩
      · obtain ⟨p, hp, hpb, hpc⟩ := tally_hit (kind l0 m a1) k m (by omega)
        rw [kind_in l0 m a1 hp] at hpb
        have hpb : bit l0 p = a1 := by simpa using hpb
        have H1 := Lib.hid (fun W (hT : Tab W) (h : Words64 W W.heap.size A0 l0) => bsel_some m k p a1 A0 l0 c0 W hT hV h hp hpb hpc)
        have H2 := Lib.hid (fun W (h : Words64 W W.heap.size A0 l0) => rbsel_some m k p a1 A0 l0 c0 W hV h hp hpb hpc)
        clear hr hV hn hp hpb hpc hb64
        have HW := Lib.hid w0
        clear w0 hnil0 wn0
        go_enter Tryd.func3, Tryd.ntmps3
        go_wp2_with (first
          | (go_at_call 5; refine (H1.out _ (by exact HT.out.alloc _) (by exact HW.out.alloc _)).mono ?_; rintro e w1 ⟨rfl, hb1⟩; have hc1 := bcell hb1)
          | (go_at_call 6; refine (H2.out _ (by exact (HW.out.alloc _).on hb1)).mono ?_; rintro e w2 ⟨rfl, hb2⟩))
        go_ret
        exact ⟨rfl, chain (chain (bnew _ _) hb1) hb2⟩
  · have hV : ∀ m : Nat, n0 = m → ¬ Valid m l0 := fun m e hv => h ⟨m, e, hv⟩
    have H1 := Lib.hid (fun W (_ : Tab W) (h : Words64 W W.heap.size A0 l0) => bsel_form n0 a2 a1 A0 l0 c0 W hV h)
    have H2 := Lib.hid (fun W (h : Words64 W W.heap.size A0 l0) => rbsel_form n0 a2 a1 A0 l0 c0 W hV (by omega) h)
    clear hV h hb64
    have HW := Lib.hid w0
    clear w0 hnil0 wn0
    go_enter Tryd.func3, Tryd.ntmps3
    go_wp2_with (first
      | (go_at_call 5; refine (H1.out _ (by exact HT.out.alloc _) (by exact HW.out.alloc _)).mono ?_; rintro e w1 ⟨rfl, hb1⟩; have hc1 := bcell hb1)
      | (go_at_call 6; refine (H2.out _ (by exact (HW.out.alloc _).on hb1)).mono ?_; rintro e w2 ⟨rfl, hb2⟩))
    go_ret
    exact ⟨rfl, chain (chain (bnew _ _) hb1) hb2⟩

theorem gTab : Tryd.prog.globalNamed "math/bits.deBruijn64tab" = some 0 := by kernel_rfl
theorem tTab : (Tryd.prog.globals[0]?).map (·.type) = some 48 := by kernel_rfl
/-- The door's own heap meets the condition. -/
theorem door_met (os : Os) (args : Array Value) : laidMetH Tryd.prog Rows.bitsSelectsRow.laid ((World.doorLaid Tryd.prog 14 os).forCall (fun _ _ => 0) ⟨#[], args, []⟩).memory :=
  laidMetH_of_parts3 (fuel := 8) (laidMet_of_run' 8 (by kernel_rfl) (by kernel_rfl)) (by kernel_rfl) (by kernel_rfl)

/-- What the condition gives the walk: the table's cells. -/
theorem tab_of {W : World} (h : laidMetH Tryd.prog Rows.bitsSelectsRow.laid W) : Tab W := by
  rw [MakeChecks.laidMetH_plain _ _ _ (by kernel_rfl)] at h
  have h2 : laidMet Tryd.prog [("math/bits.deBruijn64tab", Lib.tabData .u8 (Lib.deBruijn64tab.map fun n : Nat => (n : Int)))] W := h
  have ht := Lib.tabIs_of_head gTab tTab Tryd.underlying48 Tryd.underlying5 (by kernel_rfl) (by kernel_rfl) h2
  intro j hj
  have hc := ht.cell gTab j (by simpa [Lib.deBruijn64tab] using hj)
  rw [hc]
  congr 2
  simp only [List.getD, List.getElem?_map]
  cases Lib.deBruijn64tab[j]? <;> rfl

set_option maxRecDepth 100000 in
theorem lifted (os : Os) (started : os.Started) (H : Type) (enc : TypeId × Value → H) :
    ReturnsInHanded {} Tryd.checked os 3 .any (fun w args => (Rows.bitsSelectsSpec.pre enc Tryd.prog Tryd.f3 [] false w args ∧ laidMetH Tryd.prog Rows.bitsSelectsRow.laid w) ∧ sizedMet enc Tryd.prog Tryd.f3 (OpenSpec.ofChange Rows.bitsSelectsSpec) false w args)
      (Rows.bitsSelectsSpec.post enc Tryd.prog Tryd.f3 false true false false) := by
  refine returnsInHanded_of_change_and (C := Tryd.checked) (X := fun w _ => laidMetH Tryd.prog Rows.bitsSelectsRow.laid w) (fun _ _ _ hh h => h.of_heap hh) own started (by kernel_rfl) Tryd.func3
    (ChangeSpec.witness_shaped (enc := enc) (C := Tryd.checked) (os := os) (X := fun w _ => laidMetH Tryd.prog Rows.bitsSelectsRow.laid w) false (World.doorLaid Tryd.prog 14 os) #[.agg #[.int .i64 0, .slice none 0 0], .bool false, .int .i64 0] 8 rfl (World.shaped_of_RefB (by kernel_rfl) (by kernel_rfl)) (by kernel_rfl) (by kernel_rfl) (by kernel_rfl) (door_met os _)) ?_
  intro W base args ds gs before hval0 hW _ hsz0 hL _
  have hval : ∀ (j : Nat) t v, Tryd.f3.params[j]? = some t → args[j]? = some v → Value.okWide Tryd.prog W .any base t v := hval0
  have hW' := hW
  obtain ⟨p, q, hA0, hV, rfl, hfz, hnd⟩ := hW
  have hA : DataW.TrodAll enc Tryd.prog W 0 (fun _ => true) true Tryd.f3.params.toList args.toList ds p := hA0
  have hsz : (DataW.weightsEach Tryd.prog (Tryd.f3.params.toList ++ Rows.bitsSelectsSpec.plain.varTypes Tryd.prog) (ds ++ gs)).all (· ≤ reachBytes) = true := hsz0
  rw [Tryd.params3] at hA hval hsz
  obtain ⟨v0, vs0, d0, ds0, p0, q0, hargs, rfl, rfl, h0, r0⟩ := trodAll_cons hA
  obtain ⟨v1, vs1, d1, ds1, p1, q1, rfl, rfl, rfl, h1, r1⟩ := trodAll_cons r0
  obtain ⟨v2, vs2, d2, ds2, p2, q2, rfl, rfl, rfl, h2, r2⟩ := trodAll_cons r1
  obtain ⟨rfl, rfl, rfl⟩ := trodAll_nil r2
  obtain rfl : args = #[v0, v1, v2] := by cases args; simp_all
  obtain ⟨rfl, rfl⟩ := trodVars_none hV
  obtain ⟨cs0, rfl, hsize0⟩ := okWide_struct Tryd.underlying24 (hval 0 24 v0 rfl rfl)
  have k0 := h0
  have lt0 : ∀ x ∈ p0, x.block < W.heap.size := by obtain ⟨m, hm⟩ := k0; exact DataW.trod_lt m _ _ _ hm
  obtain ⟨fuel0, hf0⟩ := h0
  obtain ⟨n0, A0, l0, c0, hcs0, wn0, hle0, hcap0, hnil0, w0⟩ := rd_bits Tryd.underlying24 (by kernel_rfl) rfl rfl rfl rfl Tryd.underlying3 (by kernel_rfl) Tryd.underlying22 (by kernel_rfl) Tryd.underlying37 (by kernel_rfl) (by kernel_rfl) hf0 (weight_arg hsz (j := 0) (t := 24) rfl rfl)
  have hcs0_ : cs0 = #[.int .i64 n0, .slice A0 l0.length c0] := Array.toList_inj.1 hcs0
  subst hcs0_
  clear hcs0
  obtain ⟨a1, rfl, rfl, rfl⟩ := open_bool Tryd.underlying4 (hval 1 4 v1 rfl rfl) h1
  obtain ⟨a2, rfl, rfl, rfl, w2⟩ := open_int Tryd.underlying3 (hval 2 3 v2 rfl rfl) h2
  clear hA0 hval0
  refine (walk n0 A0 l0 c0 a1 a2 W (tab_of hL) wn0 hle0 hcap0 hnil0 w0 w2).mono fun e W' ⟨he, bel⟩ => ?_
  subst he
  exact ⟨_, rfl, _, _, _, [], _, [], hW', trodAll_mk1 (shut_bool Tryd.underlying4 _), (trodAll_cons_mk (Below.trod laidOut (by kernel_rfl) (of_decide_eq_true (by kernel_rfl)) k0 bel lt0) (trodAll_cons_mk (shut_bool Tryd.underlying4 _) (trodAll_cons_mk (shut_int Tryd.underlying3 w2) trodAll_mk0))), rfl, bel.frame _, fun h => by cases h⟩

theorem over : Rows.BitsSelectsSaid :=
  OpenClaim.holds_of_wide 3 Tryd.f3 rfl rfl rfl rfl rfl rfl rfl ⟨rfl, rfl, rfl, rfl, rfl⟩ rfl rfl rfl rfl rfl (by kernel_rfl) Tryd.func3 (by kernel_rfl)
    (of_decide_eq_true (by kernel_rfl)) (by unfold Func.isWrapper; first | (rw [if_pos (by decide +kernel)]; kernel_rfl) | (rw [if_neg (by decide +kernel)]; exact ⟨rfl, rfl⟩))
    (fun os started H enc _ => lifted os started H enc)

/-- THE STATEMENT: the tied card. -/
theorem proved : Rows.BitsSelectsCardSaid :=
  Claim7.holds_tied_plain_at .later [] [.data] true (true, "1f2c0e77f9958e90b66a2d44aec9a9b6ba4816cfb20debf5887efc1c1fc8a8c0") false
    over (fun _ h => by cases h) (by kernel_rfl) (fun _ h => by cases h) bitsSelects_row_tie rfl ⟨rfl, rfl⟩ (by kernel_rfl) rfl
    (fun f fn hf hfn => by
      obtain rfl : f = 3 := Option.some.inj ((show Tryd.prog.funcNamed "damask/damasklaw.BitsSelects" = some 3 by kernel_rfl).symm.trans hf) |>.symm
      obtain rfl : fn = Tryd.f3 := (Option.some.inj (Tryd.func3.symm.trans hfn)).symm
      exact ⟨by kernel_rfl, fun j t ht => by
        rw [Tryd.params3] at ht
        have hm : t ∈ [24, 4, 3] := by simpa using Array.mem_of_getElem? ht
        have hall : ([24, 4, 3].all fun u => !Tryd.prog.wantsStandIn u) = true := by kernel_rfl
        exact (show Tryd.prog.wantsStandIn t = false by simpa using List.all_eq_true.1 hall t hm)⟩)
    (by kernel_rfl)
#print axioms proved
end Go.Proofs.YtjaleldoipkbiaaDoor.bitsSelects
