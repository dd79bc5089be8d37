/-
  For every list l and every two numbers a, b: in the list of at most 81 numbers that they stand for, no number of the range is greater than the one at the place that Go's rmq.Top returns for it, and equal ones stand behind it.
  No condition.
-/
import Derived.Test.YtfijlcaiklhpiaaRows
import Derived.Test.YtfijlcaiklhpiaaFrame
import Derived.Test.YtfijlcaiklhpiaaKeep6
import Derived.WalkKit
import Derived.ProofKit
import Derived.OpenShut
import Derived.ChangeOld
import Derived.Below
import Derived.Carry
import Derived.SizedLaws
import Derived.Deep.RegionWith
import Derived.Deep.RegionHeld3
namespace Go.Proofs.Ytfijlcaiklhpiaa.topGreatest
open Go.ChangeShapes Go.WideShapes Go.ChangeAt Go.RowKit Words
set_option linter.unusedVariables false

theorem own : ownKnob Try.prog.godebug = none := by kernel_rfl
theorem laidOut : laidOutB Try.prog = true := by kernel_rfl

set_option maxHeartbeats 1000000 in
/-- The walk: the Go text returns true, and writes nothing that was there. -/
theorem walk (A0 : Option Addr) (l0 : List Int) (c0 : Nat) (a1 : Int) (a2 : Int) (w : World) (hle0 : l0.length ≤ c0) (hcap0 : c0 * 8 ≤ 140737488351232) (hnil0 : A0 = none → c0 = 0) (w0 : Lies w w.heap.size A0 (l0.map (.int .i64)) ∧ ∀ z ∈ l0, (Lit.int .i64 z).wf = true) (w1 : (Lit.int .i64 a1).wf = true) (w2 : (Lit.int .i64 a2).wf = true) :
    Calls Try.prog 6 #[.slice A0 l0.length c0, .int .i64 a1, .int .i64 a2] w fun e w' => e = .returned (.bool true) ∧ Below w.heap.size w w' := by
-- walk
  have HNu := Lib.hid (numbers_own A0 l0 c0 80 9 w (by decide) (by decide) (by decide) w0.2 w0.1)
  unfold GivesOwnI at HNu
  have hns : (picks 80 9 l0).length ≤ 80 := picks_length _ _ _
  obtain ⟨L, hLL⟩ : ∃ L, L = picks 80 9 l0 ++ [4] := ⟨_, rfl⟩
  have hLl : (picks 80 9 l0).length + 1 = L.length := by rw [hLL]; simp
  have HLv := Lib.hid (show (picks 80 9 l0).map (Value.int .i64) ++ [Value.int .i64 4] = L.map (.int .i64) by rw [hLL]; simp)
  clear w0 hnil0 hle0 hcap0 hLL
  generalize (picks 80 9 l0).map (Value.int .i64) = xs at *
  generalize (picks 80 9 l0).length = pl at *
  have hp1 := pick_lt (n := L.length) (by omega) a1
  have HP1 := Lib.hid (pick_any a1 L.length · (by omega) (by omega) w1)
  generalize pick L.length a1 = i at *
  have hp2 := pick_lt (n := L.length - i) (by omega) a2
  have HP2 := Lib.hid (pick_any a2 (L.length - i) · (by omega) (by omega) w2)
  generalize pick (L.length - i) a2 = m at *
  have HTo := Lib.hid (fun A c W hnone hW => topped_any A L c i m W (by omega) hnone hW (by omega))
  have hT := topN_is (nth L) i m
  have ht1 := hT.lo
  have ht2 := hT.hi
  have HT := Lib.hid hT
  clear hT
  generalize topN (nth L) i m = t at *
  have hsub : (L.length : Int) - (i : Int) = ((L.length - i : Nat) : Int) := by omega
  have hsum : (i : Int) + (m : Int) = ((i + m : Nat) : Int) := by omega
  have hin : i + m < L.length := by omega
  have hL81 : L.length ≤ 81 := by omega
  generalize hzz : i + m = z at *
  have hiz : i ≤ z := by omega
  clear hzz
  have hq0 : L.length - i ≤ 81 := by omega
  generalize L.length - i = q at *
  generalize hnn : L.length = n at *
  have HN := Lib.hid hnn
  clear hnn
  have hd1 : decide (t < i) = false := by simp; omega
  have hd2 : decide (z < t) = false := by simp; omega
  go_enter Try.func6, Try.ntmps6
  go_wp2_with fail
  refine HNu.out.mono ?_
  rintro e v1 ⟨v, rfl, hown, hb1⟩
  have hsz := hb1.size
  go_wp2_with (at_builtin; go_loud (refine append_one _ rfl (.tmp 13) (.tmp 14) 22 rfl w.heap.size 3 (.int .i64 0) 8 Try.underlying22 int_info rfl v pl _ rfl (hown.alloc _) v1.heap.size 1 (.int .i64 4) rfl (by simp) rfl (by simp only [maxLen]; omega) (by omega) (by simp; omega) ?_))
  intro v2 v3 hown2 hg2
  rw [HLv.out] at hown2
  have hb3 : Below w.heap.size w v3 := (hb1.alloc hsz _).grown hg2 (by simp; omega) (fun q hq => (hown.lt q hq).1)
  obtain ⟨A3, c3, rfl, _, _, hl3, hn3, _⟩ := own_slice hown2
  have HL3 := Lib.hid hl3
  have HN3 := Lib.hid hn3
  clear hown2 hg2 hown hb1 hl3 hn3 hsz
  go_wp2_with fail
  refine (HP1.out _).mono ?_
  rintro e v4 ⟨rfl, rfl⟩
  go_wp2_with fail
  refine (HP2.out _).mono ?_
  rintro e v4 ⟨rfl, rfl⟩
  go_wp2_with fail
  refine (HTo.out A3 c3 _ HN3.out HL3.out).mono ?_
  rintro e v5 ⟨rfl, hb5⟩
  obtain ⟨b, o, rfl, hb, hc⟩ := (HL3.out.on hb5).nums (by rw [HN.out]; omega)
  rw [HN.out] at hc
  have HC := Lib.hid hc
  clear hc
  go_wp2_with fail
  go_loopw [11] (fun s w' => ∃ j d : Nat, i ≤ j ∧ j ≤ z + 1 ∧ s = .int .i64 j ∧ w' = v5.drewN d) (fun s _ => z + 1 - (intOf s).toNat)
  case atStart => exact ⟨i, 0, Nat.le_refl _, by omega, rfl, rfl⟩
  case round =>
    obtain ⟨j, d, hj1, hj2, rfl, rfl⟩ := hrel
    by_cases hlt : j ≤ z
    · have hle := HT.out.le j hj1 hlt
      have hlt2 := HT.out.lt j hj1
      have hcj := HC.out j (by omega)
      have hct := HC.out t (by omega)
      have hjn : (j : Int) < (n : Int) := by omega
      have htn : (t : Int) < (n : Int) := by omega
      by_cases hxy : nth L j = nth L t
      · have hjt : t ≤ j := by
          rcases Nat.lt_or_ge j t with h | h
          · have := hlt2 h; omega
          · exact h
        rw [hxy] at hcj
        clear hxy hlt2 hle
        generalize nth L t = x at *
        have he1 : decide (x < x) = false := by simp
        have he2 : (x == x) = true := by simp
        have he3 : decide (j < t) = false := by simp; omega
        go_wp2_with fail
        go_quiet (fail)
        go_wp2_with fail
        go_roundw
        case rel => exact ⟨j + 1, _, by omega, by omega, by go_num, by first | rfl | (simp only [World.drewN_drewN]; rfl)⟩
        case measure => simp [intOf]; omega
      · generalize nth L j = y at *
        generalize nth L t = x at *
        have he1 : decide (x < y) = false := by simp; omega
        have he2 : (y == x) = false := by simpa using hxy
        clear hxy hlt2 hle
        go_wp2_with fail
        go_quiet (fail)
        go_wp2_with fail
        go_roundw
        case rel => exact ⟨j + 1, _, by omega, by omega, by go_num, by first | rfl | (simp only [World.drewN_drewN]; rfl)⟩
        case measure => simp [intOf]; omega
    · go_wp2_with fail
      go_ret
      exact ⟨rfl, chain hb3 (bdN hb5 _)⟩

set_option maxRecDepth 100000 in
theorem lifted (os : Os) (started : os.Started) (H : Type) (enc : TypeId × Value → H) :
    ReturnsInHanded {} Try.checked os 6 .any (Rows.topGreatestSpec.pre6 enc Try.prog Try.f6 Rows.topGreatestRow.domain false) (Rows.topGreatestSpec.post enc Try.prog Try.f6 false true false false) := by
  refine returnsInHanded_of_change_sized (C := Try.checked) own started (by kernel_rfl) Try.func6
    (ChangeSpec.witness6 (enc := enc) (C := Try.checked) false ⟨#[], #[.slice none 0 0, .int .i64 0, .int .i64 0], []⟩ 8 (by kernel_rfl) (by kernel_rfl) (by kernel_rfl) (by kernel_rfl)) ?_
  intro W base args ds gs before hval0 hW hcnd hsz0 _
  have hval : ∀ (j : Nat) t v, Try.f6.params[j]? = some t → args[j]? = some v → Value.okWide Try.prog W .any base t v := hval0
  have hW' := hW
  obtain ⟨p, q, hA0, hV, rfl, hfz, hnd⟩ := hW
  have hA : DataW.TrodAll enc Try.prog W 0 (fun _ => true) true Try.f6.params.toList args.toList ds p := hA0
  have hsz : (DataW.weightsEach Try.prog (Try.f6.params.toList ++ Rows.topGreatestSpec.plain.varTypes Try.prog) (ds ++ gs)).all (· ≤ reachBytes) = true := hsz0
  rw [Try.params6] at hA hval hsz
  obtain ⟨v0, vs0, d0, ds0, p0, q0, hargs, rfl, rfl, h0, r0⟩ := trodAll_cons hA
  obtain ⟨v1, vs1, d1, ds1, p1, q1, rfl, rfl, rfl, h1, r1⟩ := trodAll_cons r0
  obtain ⟨v2, vs2, d2, ds2, p2, q2, rfl, rfl, rfl, h2, r2⟩ := trodAll_cons r1
  obtain ⟨rfl, rfl, rfl⟩ := trodAll_nil r2
  obtain rfl : args = #[v0, v1, v2] := by cases args; simp_all
  obtain ⟨rfl, rfl⟩ := trodVars_none hV
  obtain ⟨A0, n0, c0, rfl⟩ := okWide_slice Try.underlying22 (hval 0 22 v0 rfl rfl)
  have k0 := h0
  have lt0 : ∀ x ∈ p0, x.block < W.heap.size := by obtain ⟨m, hm⟩ := k0; exact DataW.trod_lt m _ _ _ hm
  obtain ⟨fuel0, hf0⟩ := h0
  obtain ⟨A0_, l0, c0_, hcs0, hle0, hcap0, hnil0, w0⟩ := rd_ints Try.underlying22 Try.underlying3 (by kernel_rfl) (by kernel_rfl) hf0 (weight_arg hsz (j := 0) (t := 22) rfl rfl)
  have hcs0_ : [Value.slice A0 n0 c0] = [.slice A0_ l0.length c0_] := hcs0
  simp only [List.cons.injEq, Value.slice.injEq, and_true] at hcs0_
  obtain ⟨rfl, rfl, rfl⟩ := hcs0_
  clear hcs0
  obtain ⟨a1, rfl, rfl, rfl, w1⟩ := open_int Try.underlying3 (hval 1 3 v1 rfl rfl) h1
  obtain ⟨a2, rfl, rfl, rfl, w2⟩ := open_int Try.underlying3 (hval 2 3 v2 rfl rfl) h2
  clear hA0 hval0
  refine (walk A0 l0 c0 a1 a2 W hle0 hcap0 hnil0 w0 w1 w2).mono fun e W' ⟨he, bel⟩ => ?_
  subst he
  exact ⟨_, rfl, _, _, _, [], _, [], hW', trodAll_mk1 (shut_bool Try.underlying4 _), (trodAll_cons_mk (Below.trod laidOut (by kernel_rfl) (of_decide_eq_true (by kernel_rfl)) k0 bel lt0) (trodAll_cons_mk (shut_int Try.underlying3 w1) (trodAll_cons_mk (shut_int Try.underlying3 w2) trodAll_mk0))), rfl, bel.frame _, fun h => by cases h⟩

theorem over : Rows.topGreatestRow.holds Try.pinned (OpenSpec.ofChange Rows.topGreatestSpec) :=
  OpenClaim.holds_of_wide 6 Try.f6 rfl rfl rfl rfl rfl rfl rfl ⟨rfl, rfl, rfl, rfl, rfl⟩ rfl rfl rfl rfl rfl (by kernel_rfl) Try.func6 (by kernel_rfl)
    (of_decide_eq_true (by kernel_rfl)) (by unfold Func.isWrapper; first | (rw [if_pos (by decide +kernel)]; kernel_rfl) | (rw [if_neg (by decide +kernel)]; exact ⟨rfl, rfl⟩))
    (fun os started H enc _ => lifted os started H enc)

/-- THE STATEMENT. -/
theorem proved : Rows.TopGreatestSaid := over
#print axioms proved
end Go.Proofs.Ytfijlcaiklhpiaa.topGreatest
