/-
  For every word w and every number k (taken modulo the number of one bits): Go's pop.Select returns a one bit whose rank is that number; at the number of one bits itself it finds none; a word without one bits is 0. No condition.
  The card is tied: the library's table math/bits.deBruijn64tab holds, when the call begins, what the program's own text lays (the tie is given with the seat; that nothing else writes the table is the translator's report).
-/
import Derived.Test.YtjdgejjpkjhdjaaDoorRows
import Derived.Test.YtjdgejjpkjhdjaaDoorTie
import Derived.Test.YtjdgejjpkjhdjaaDoorCards
import Derived.Test.YtjdgejjpkjhdjaaDoorPopSel
import Derived.Test.YtjdgejjpkjhdjaaDoorKeep1
import Derived.ProofKit
import Derived.LaidMore
import Derived.OpenShut
import Derived.Stop.Joined
import Derived.Lib.LaidTab
import Derived.SevenTiedAt
namespace Go.Proofs.YtjdgejjpkjhdjaaDoor.selectRank
open Go.ChangeShapes Go.WideShapes Go.ChangeAt Go.RowKit
set_option linter.unusedVariables false

theorem own : ownKnob Tryd.prog.godebug = none := by kernel_rfl
theorem gTab : Tryd.prog.globalNamed "math/bits.deBruijn64tab" = some 0 := by kernel_rfl
theorem tTab : (Tryd.prog.globals[0]?).map (·.type) = some 31 := by kernel_rfl

/-- The walk: the Go text returns true. -/
theorem walk (a0 : Int) (a1 : Int) (w0 : (Lit.int .u64 a0).wf = true) (w1 : (Lit.int .i64 a1).wf = true) (w : World) (hT : Tab w) :
    Calls Tryd.prog 4 #[.int .u64 a0, .int .i64 a1] w fun e w' => e = .returned (.bool true) ∧ Grown w w' := by
  obtain ⟨x, rfl, hx⟩ := word_of w0
  have hO := ones_any x w hx
  have h5 : Calls Tryd.prog 7 #[.int .u64 5] w fun e w' => e = .returned (.int .i64 2) ∧ w = w' := ones_any 5 w (by decide)
  have hN := sel_none x (Words.cnt x 64) w hx (Nat.le_refl _)
  have h64 := Words.cnt_le x 64
  by_cases hn : Words.cnt x 64 = 0
  · have hz : x = 0 := by
      apply Nat.eq_of_testBit_eq
      intro i
      rw [Nat.zero_testBit]
      by_cases hi : i < 64
      · exact Words.cnt_zero_of x 64 hn i hi
      · exact Nat.testBit_lt_two_pow (Nat.lt_of_lt_of_le (show x < 2 ^ 64 from hx) (Nat.pow_le_pow_right (by decide) (by omega)))
    rw [hn] at hO hN
    subst hz
    have hO' : Calls Tryd.prog 7 #[.int .u64 0] w fun e w' => e = .returned (.int .i64 0) ∧ w = w' := hO
    have hN' : Calls Tryd.prog 5 #[.int .u64 0, .int .i64 0] w fun e w' => e = .returned (.tuple #[.int .i64 0, .int .i64 7]) ∧ w = w' := hN
    clear hO hN hn h64 hx w0 w1 hT
    show Calls Tryd.prog 4 #[.int .u64 0, .int .i64 a1] w _
    go_enter Tryd.func4, Tryd.ntmps4
    go_wp2_with (first | (go_at_call 7; ((with_reducible first | refine hO'.mono ?_ | refine h5.mono ?_); rintro e w' ⟨rfl, rfl⟩)) | (go_at_call 5; refine hN'.mono ?_; rintro e w' ⟨rfl, rfl⟩))
    go_ret
    exact ⟨rfl, Grown.refl _⟩
  · obtain ⟨k, hk, hP⟩ := picked_any a1 (Words.cnt x 64) w (by omega) (by omega) w1
    obtain ⟨p, hp, hb, hc⟩ := Words.chosen x k 64 hk
    have hS := sel_some x k p w hT hx hp hb hc
    have hR1 := popRank_in x p w hx (by omega)
    have hR2 := popRank_in x (p + 1) w hx (by omega)
    rw [hc] at hR1
    rw [Words.cnt_succ, hb, hc] at hR2
    have e1 : ((k + (true : Bool).toNat : Nat) : Int) = (k : Int) + 1 := rfl
    have e2 : ((p + 1 : Nat) : Int) = (p : Int) + 1 := rfl
    rw [e1, e2] at hR2
    have hbit := Words.bit_one x p hx
    rw [hb] at hbit
    generalize Words.cnt x 64 = n at *
    have hz : ((n : Int) == 0) = false := by simp; omega
    have hk64 : k ≤ 64 := by omega
    clear hx w0 w1 hT hb hc e1 e2 hn
    go_enter Tryd.func4, Tryd.ntmps4
    go_wp2_with (first | (go_at_call 7; ((with_reducible first | refine hO.mono ?_ | refine h5.mono ?_); rintro e w' ⟨rfl, rfl⟩)) | (go_at_call 5; ((with_reducible first | refine hN.mono ?_ | refine hS.mono ?_); rintro e w' ⟨rfl, rfl⟩)) | (go_at_call 8; refine hP.mono ?_; rintro e w' ⟨rfl, rfl⟩) | (go_at_call 9; ((with_reducible first | refine hR1.mono ?_ | refine hR2.mono ?_); rintro e w' ⟨rfl, rfl⟩)))
    go_ret
    exact ⟨rfl, Grown.refl _⟩

/-- The door's own heap meets the condition. -/
theorem door_met (os : Os) (args : Array Value) : laidMetH Tryd.prog Rows.selectRankRow.laid ((World.doorLaid Tryd.prog 14 os).forCall (fun _ _ => 0) ⟨#[], args, []⟩).memory :=
  laidMetH_of_parts3 (fuel := 8) (laidMet_of_run' 8 (by kernel_rfl) (by kernel_rfl)) (by kernel_rfl) (by kernel_rfl)

/-- What the condition gives the walk: the table's cells. -/
theorem tab_of {W : World} (h : laidMetH Tryd.prog Rows.selectRankRow.laid W) : Tab W := by
  rw [MakeChecks.laidMetH_plain _ _ _ (by kernel_rfl)] at h
  have h2 : laidMet Tryd.prog [("math/bits.deBruijn64tab", Lib.tabData .u8 (Lib.deBruijn64tab.map fun n : Nat => (n : Int)))] W := h
  have ht := Lib.tabIs_of_head gTab tTab Tryd.underlying31 Tryd.underlying5 (by kernel_rfl) (by kernel_rfl) h2
  intro j hj
  have hc := ht.cell gTab j (by simpa [Lib.deBruijn64tab] using hj)
  rw [hc]
  congr 2
  simp only [List.getD, List.getElem?_map]
  cases Lib.deBruijn64tab[j]? <;> rfl

set_option maxRecDepth 100000 in
theorem lifted (os : Os) (started : os.Started) (H : Type) (enc : TypeId × Value → H) :
    ReturnsInHanded {} Tryd.checked os 4 .any (fun w args => (Rows.selectRankSpec.pre enc Tryd.prog Tryd.f4 [] false w args ∧ laidMetH Tryd.prog Rows.selectRankRow.laid w) ∧ sizedMet enc Tryd.prog Tryd.f4 (OpenSpec.ofChange Rows.selectRankSpec) false w args)
      (Rows.selectRankSpec.post enc Tryd.prog Tryd.f4 false true false false) := by
  refine returnsInHanded_of_change_and (C := Tryd.checked) (X := fun w _ => laidMetH Tryd.prog Rows.selectRankRow.laid w) (fun _ _ _ hh h => h.of_heap hh) own started (by kernel_rfl) Tryd.func4
    (ChangeSpec.witness_shaped (enc := enc) (C := Tryd.checked) (os := os) (X := fun w _ => laidMetH Tryd.prog Rows.selectRankRow.laid w) false (World.doorLaid Tryd.prog 14 os) #[.int .u64 0, .int .i64 0] 8 rfl (World.shaped_of_RefB (by kernel_rfl) (by kernel_rfl)) (by kernel_rfl) (by kernel_rfl) (by kernel_rfl) (door_met os _)) ?_
  intro W base args ds gs before hval0 hW _ _ hL _
  have hval : ∀ (j : Nat) t v, Tryd.f4.params[j]? = some t → args[j]? = some v → Value.okWide Tryd.prog W .any base t v := hval0
  have hW' := hW
  obtain ⟨p, q, hA0, hV, rfl, hfz, hnd⟩ := hW
  have hA : DataW.TrodAll enc Tryd.prog W 0 (fun _ => true) true Tryd.f4.params.toList args.toList ds p := hA0
  rw [Tryd.params4] at hA hval
  obtain ⟨v0, vs0, d0, ds0, p0, q0, hargs, rfl, rfl, h0, r0⟩ := trodAll_cons hA
  obtain ⟨v1, vs1, d1, ds1, p1, q1, rfl, rfl, rfl, h1, r1⟩ := trodAll_cons r0
  obtain ⟨rfl, rfl, rfl⟩ := trodAll_nil r1
  obtain rfl : args = #[v0, v1] := by cases args; simp_all
  obtain ⟨rfl, rfl⟩ := trodVars_none hV
  obtain ⟨a0, rfl, rfl, rfl, w0⟩ := open_int Tryd.underlying22 (hval 0 22 v0 rfl rfl) h0
  obtain ⟨a1, rfl, rfl, rfl, w1⟩ := open_int Tryd.underlying3 (hval 1 3 v1 rfl rfl) h1
  clear hA0 hval0
  simp only [List.append_nil] at hW'
  refine (walk a0 a1 w0 w1 W (tab_of hL)).mono fun e W' ⟨he, hg⟩ => ?_
  subst he
  exact ⟨_, rfl, post_of_same (pa := []) (pv := []) hW' (fun _ _ _ => (trodAll_cons_mk (shut_bool Tryd.underlying4 _) trodAll_mk0)) (fun sp _ => (trodAll_cons_mk (shut_int Tryd.underlying22 w0) (trodAll_cons_mk (shut_int Tryd.underlying3 w1) trodAll_mk0))) (fun _ _ => rfl) rfl
    (hg.frame _) hg.2.1 (ok_one (by kernel_rfl) rfl (okWide_bool_mk Tryd.underlying4 _))⟩

theorem over : Rows.SelectRankSaid :=
  OpenClaim.holds_of_wide 4 Tryd.f4 rfl rfl rfl rfl rfl rfl rfl ⟨rfl, rfl, rfl, rfl, rfl⟩ rfl rfl rfl rfl rfl (by kernel_rfl) Tryd.func4 (by kernel_rfl)
    (of_decide_eq_true (by kernel_rfl)) (by unfold Func.isWrapper; first | (rw [if_pos (by decide +kernel)]; kernel_rfl) | (rw [if_neg (by decide +kernel)]; exact ⟨rfl, rfl⟩))
    (fun os started H enc _ => lifted os started H enc)

/-- THE STATEMENT: the tied card. -/
theorem proved : Rows.SelectRankCardSaid :=
  Claim7.holds_tied_plain_at .later [] [.data] true (true, "f9d14207af7ff59d8184cf603ea2bbaf2f6bb58f23107e3f5208280a436703ee") false
    over (fun _ h => by cases h) (by kernel_rfl) (fun _ h => by cases h) selectRank_row_tie rfl ⟨rfl, rfl⟩ (by kernel_rfl) rfl
    (fun f fn hf hfn => by
      obtain rfl : f = 4 := Option.some.inj ((show Tryd.prog.funcNamed "damask/damaskkeep.SelectRank" = some 4 by kernel_rfl).symm.trans hf) |>.symm
      obtain rfl : fn = Tryd.f4 := (Option.some.inj (Tryd.func4.symm.trans hfn)).symm
      exact ⟨by kernel_rfl, fun j t ht => by
        rw [Tryd.params4] at ht
        have hm : t ∈ [22, 3] := by simpa using Array.mem_of_getElem? ht
        have hall : ([22, 3].all fun u => !Tryd.prog.wantsStandIn u) = true := by kernel_rfl
        exact (show Tryd.prog.wantsStandIn t = false by simpa using List.all_eq_true.1 hall t hm)⟩)
    (by kernel_rfl)
#print axioms proved
end Go.Proofs.YtjdgejjpkjhdjaaDoor.selectRank
