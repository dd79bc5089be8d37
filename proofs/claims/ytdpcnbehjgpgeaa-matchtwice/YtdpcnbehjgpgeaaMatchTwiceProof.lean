/-
  For every list l and every number i: in a pair of parentheses around a balanced text of at most 60 pairs, Go's paren.Match leads from each place to another and back, one of them opens and the other closes, what is between them is balanced (paren.Check), so is what is left without them, and ')(' is not.
  No condition.
-/
import Derived.Test.YtdpcnbehjgpgeaaRows
import Derived.Test.YtdpcnbehjgpgeaaFrame
import Derived.Test.YtdpcnbehjgpgeaaParPr
import Derived.Test.YtdpcnbehjgpgeaaParMid
import Derived.Test.YtdpcnbehjgpgeaaKeep7
import Derived.WalkKit
import Derived.ProofKit
import Derived.OpenShut
import Derived.ChangeOld
import Derived.Below
import Derived.Carry
import Derived.SizedLaws
import Derived.Deep.RegionWith
import Derived.Deep.RegionHeld3
namespace Go.Proofs.Ytdpcnbehjgpgeaa.matchTwice
open Go.ChangeShapes Go.WideShapes Go.ChangeAt Go.RowKit Words
set_option linter.unusedVariables false

theorem own : ownKnob Try.prog.godebug = none := by kernel_rfl
theorem laidOut : laidOutB Try.prog = true := by kernel_rfl
theorem wrap_txt (b : List Bool) : ByteArray.mk #[40] ++ txtP b ++ ByteArray.mk #[41] = txtP (true :: (b ++ [false])) := by
  have h1 : ByteArray.mk #[40] = txtP [true] := rfl
  have h2 : ByteArray.mk #[41] = txtP [false] := rfl
  rw [h1, h2, txtP_append, txtP_append]
  rfl
theorem not_bal : ¬ Good7 (ByteArray.mk #[41, 40]) := by
  rintro ⟨l, hl, hb⟩
  have e : ByteArray.mk #[41, 40] = txtP [false, true] := rfl
  rw [e] at hl
  obtain rfl := txtP_inj hl
  have := hb.nn 1 (by decide)
  exact absurd this (by decide)


set_option maxRecDepth 100000 in
set_option maxHeartbeats 4000000 in
/-- The walk: the Go text returns true, and writes nothing that was there. -/
theorem walk (A0 : Option Addr) (l0 : List Int) (c0 : Nat) (a1 : Int) (w : World) (hle0 : l0.length ≤ c0) (hcap0 : c0 * 8 ≤ 140737488351232) (hnil0 : A0 = none → c0 = 0) (w0 : Lies w w.heap.size A0 (l0.map (.int .i64)) ∧ ∀ z ∈ l0, (Lit.int .i64 z).wf = true) (w1 : (Lit.int .i64 a1).wf = true) :
    Calls Try.prog 9 #[.slice A0 l0.length c0, .int .i64 a1] w fun e w' => e = .returned (.bool true) ∧ Below w.heap.size w w' := by
  have HBr := Lib.hid (brackets_any A0 l0 c0 60 w (by decide) (by omega) w0.2 w0.1)
  have HC3 := Lib.hid (fun W => pcheck_any (ByteArray.mk #[41, 40]) 4 W (by decide) (fun h => absurd h not_bal) (fun _ => rfl))
  clear w0 hnil0
  go_enter Try.func9, Try.ntmps9
  go_wp2_with fail
  refine HBr.out.mono ?_
  rintro e v1 ⟨⟨t, hbt, hot, rfl⟩, rfl⟩
  have hl2 := hbt.two
  have hbal := hbt.wrap
  have hwr := wrap_txt t
  have hts : (txtP t).size ≤ 120 := by rw [txtP_size]; omega
  have hL : (true :: (t ++ [false])).length = t.length + 2 := by simp
  have hL2 : (true :: (t ++ [false])).length ≤ 122 := by omega
  have hL3 : 0 < (true :: (t ++ [false])).length := by omega
  clear hbt hot hl2 hL
  generalize txtP t = T at *
  generalize true :: (t ++ [false]) = L at *
  have hsz := txtP_size L
  have hp1 := pick_lt (n := L.length) hL3 a1
  have HP := Lib.hid (pick_any a1 L.length · hL3 (by omega) w1)
  generalize pick L.length a1 = k at *
  obtain ⟨m, hm⟩ := hbal.mate hp1
  have hml := hm.lt
  obtain ⟨a, b, hc, hab⟩ : ∃ a b, IsClose L a b ∧ ((k = a ∧ m = b) ∨ (k = b ∧ m = a)) := by
    rcases hm with h | h
    · exact ⟨k, m, h, .inl ⟨rfl, rfl⟩⟩
    · exact ⟨m, k, h, .inr ⟨rfl, rfl⟩⟩
  have hlt := hc.lt
  have hbl := get_lt hc.shuts
  have hal := get_lt hc.opens
  have has : a < (txtP L).size := by omega
  have hbs : b < (txtP L).size := by omega
  have ha40 : ((txtP L)[a]'has).toNat = 40 := txtP_at hc.opens has
  have hb41 : ((txtP L)[b]'hbs).toNat = 41 := txtP_at hc.shuts hbs
  have HC1 := Lib.hid (fun W => pcheck_ok (l := cutL L (a + 1) b) (by rw [cutL_length L (by omega)]; omega) (mid_bal hc) W)
  have HC2 := Lib.hid (fun W => pcheck_ok (l := cutL L 0 a ++ cutL L (b + 1) L.length) (by rw [List.length_append, cutL_length L (by omega), cutL_length L (by omega)]; omega) (rest_bal hbal hc) W)
  rw [← txtP_cut] at HC1
  rw [← txtP_append, ← txtP_cut, ← txtP_cut] at HC2
  have hmate : Mate L a b := .inl hc
  clear hm
  rcases hab with ⟨rfl, rfl⟩ | ⟨rfl, rfl⟩
  · have HM1 := Lib.hid (fun W => pmatch_any L k m W (by omega) hbal (by omega) hmate)
    have HM2 := Lib.hid (fun W => pmatch_any L m k W (by omega) hbal (by omega) hmate.symm)
    clear hbal hc
    have hkk : ((k : Int) == (k : Int)) = true := by simp
    have hd1 : decide (L.length ≤ m) = false := by simp; omega
    have hd2 : decide ((m : Int) < 0) = false := by simp
    have haI : (k : Int) < (L.length : Int) := by omega
    have hbI : (m : Int) < (L.length : Int) := by omega
    have hbn : m + 1 ≤ L.length := by omega
    have han : k + 1 ≤ m := by omega
    have haL : k ≤ L.length := by omega
    have hbL : m ≤ L.length := by omega
    generalize txtP L = S at *
    generalize L.length = n at *
    go_wp2_with fail
    refine (HP.out _).mono ?_
    rintro e v2 ⟨rfl, rfl⟩
    go_wp2_with fail
    refine (HM1.out _).mono ?_
    rintro e v3 ⟨rfl, hb3⟩
    go_wp2_with fail
    refine (HM2.out _).mono ?_
    rintro e v4 ⟨rfl, hb4⟩
    go_wp2_with fail
    go_quiet ((go_at_call 11; first | with_reducible exact quiet1 HC1 | with_reducible exact quiet1 HC2 | with_reducible exact quiet1 HC3))
    go_wp2_with fail
    go_ret
    exact ⟨rfl, bdN (chain hb3 hb4) _⟩
  · have HM1 := Lib.hid (fun W => pmatch_any L k m W (by omega) hbal (by omega) hmate.symm)
    have HM2 := Lib.hid (fun W => pmatch_any L m k W (by omega) hbal (by omega) hmate)
    clear hbal hc
    have hkk : ((k : Int) == (k : Int)) = true := by simp
    have hd1 : decide (L.length ≤ m) = false := by simp; omega
    have hd2 : decide ((m : Int) < 0) = false := by simp
    have haI : (m : Int) < (L.length : Int) := by omega
    have hbI : (k : Int) < (L.length : Int) := by omega
    have hbn : k + 1 ≤ L.length := by omega
    have han : m + 1 ≤ k := by omega
    have haL : m ≤ L.length := by omega
    have hbL : k ≤ L.length := by omega
    generalize txtP L = S at *
    generalize L.length = n at *
    go_wp2_with fail
    refine (HP.out _).mono ?_
    rintro e v2 ⟨rfl, rfl⟩
    go_wp2_with fail
    refine (HM1.out _).mono ?_
    rintro e v3 ⟨rfl, hb3⟩
    go_wp2_with fail
    refine (HM2.out _).mono ?_
    rintro e v4 ⟨rfl, hb4⟩
    go_wp2_with fail
    go_quiet ((go_at_call 11; first | with_reducible exact quiet1 HC1 | with_reducible exact quiet1 HC2 | with_reducible exact quiet1 HC3))
    go_wp2_with fail
    go_ret
    exact ⟨rfl, bdN (chain hb3 hb4) _⟩

set_option maxRecDepth 100000 in
theorem lifted (os : Os) (started : os.Started) (H : Type) (enc : TypeId × Value → H) :
    ReturnsInHanded {} Try.checked os 9 .any (Rows.matchTwiceSpec.pre6 enc Try.prog Try.f9 Rows.matchTwiceRow.domain false) (Rows.matchTwiceSpec.post enc Try.prog Try.f9 false true false false) := by
  refine returnsInHanded_of_change_sized (C := Try.checked) own started (by kernel_rfl) Try.func9
    (ChangeSpec.witness6 (enc := enc) (C := Try.checked) false ⟨#[], #[.slice none 0 0, .int .i64 0], []⟩ 8 (by kernel_rfl) (by kernel_rfl) (by kernel_rfl) (by kernel_rfl)) ?_
  intro W base args ds gs before hval0 hW hcnd hsz0 _
  have hval : ∀ (j : Nat) t v, Try.f9.params[j]? = some t → args[j]? = some v → Value.okWide Try.prog W .any base t v := hval0
  have hW' := hW
  obtain ⟨p, q, hA0, hV, rfl, hfz, hnd⟩ := hW
  have hA : DataW.TrodAll enc Try.prog W 0 (fun _ => true) true Try.f9.params.toList args.toList ds p := hA0
  have hsz : (DataW.weightsEach Try.prog (Try.f9.params.toList ++ Rows.matchTwiceSpec.plain.varTypes Try.prog) (ds ++ gs)).all (· ≤ reachBytes) = true := hsz0
  rw [Try.params9] at hA hval hsz
  obtain ⟨v0, vs0, d0, ds0, p0, q0, hargs, rfl, rfl, h0, r0⟩ := trodAll_cons hA
  obtain ⟨v1, vs1, d1, ds1, p1, q1, rfl, rfl, rfl, h1, r1⟩ := trodAll_cons r0
  obtain ⟨rfl, rfl, rfl⟩ := trodAll_nil r1
  obtain rfl : args = #[v0, v1] := by cases args; simp_all
  obtain ⟨rfl, rfl⟩ := trodVars_none hV
  obtain ⟨A0, n0, c0, rfl⟩ := okWide_slice Try.underlying28 (hval 0 28 v0 rfl rfl)
  have k0 := h0
  have lt0 : ∀ x ∈ p0, x.block < W.heap.size := by obtain ⟨m, hm⟩ := k0; exact DataW.trod_lt m _ _ _ hm
  obtain ⟨fuel0, hf0⟩ := h0
  obtain ⟨A0_, l0, c0_, hcs0, hle0, hcap0, hnil0, w0⟩ := rd_ints Try.underlying28 Try.underlying3 (by kernel_rfl) (by kernel_rfl) hf0 (weight_arg hsz (j := 0) (t := 28) rfl rfl)
  have hcs0_ : [Value.slice A0 n0 c0] = [.slice A0_ l0.length c0_] := hcs0
  simp only [List.cons.injEq, Value.slice.injEq, and_true] at hcs0_
  obtain ⟨rfl, rfl, rfl⟩ := hcs0_
  clear hcs0
  obtain ⟨a1, rfl, rfl, rfl, w1⟩ := open_int Try.underlying3 (hval 1 3 v1 rfl rfl) h1
  clear hA0 hval0
  refine (walk A0 l0 c0 a1 W hle0 hcap0 hnil0 w0 w1).mono fun e W' ⟨he, bel⟩ => ?_
  subst he
  exact ⟨_, rfl, _, _, _, [], _, [], hW', trodAll_mk1 (shut_bool Try.underlying4 _), (trodAll_cons_mk (Below.trod laidOut (by kernel_rfl) (of_decide_eq_true (by kernel_rfl)) k0 bel lt0) (trodAll_cons_mk (shut_int Try.underlying3 w1) trodAll_mk0)), rfl, bel.frame _, fun h => by cases h⟩

theorem over : Rows.matchTwiceRow.holds Try.pinned (OpenSpec.ofChange Rows.matchTwiceSpec) :=
  OpenClaim.holds_of_wide 9 Try.f9 rfl rfl rfl rfl rfl rfl rfl ⟨rfl, rfl, rfl, rfl, rfl⟩ rfl rfl rfl rfl rfl (by kernel_rfl) Try.func9 (by kernel_rfl)
    (of_decide_eq_true (by kernel_rfl)) (by unfold Func.isWrapper; first | (rw [if_pos (by decide +kernel)]; kernel_rfl) | (rw [if_neg (by decide +kernel)]; exact ⟨rfl, rfl⟩))
    (fun os started H enc _ => lifted os started H enc)

/-- THE STATEMENT. -/
theorem proved : Rows.MatchTwiceSaid := over
#print axioms proved
end Go.Proofs.Ytdpcnbehjgpgeaa.matchTwice
