/-
  For every word w and every number i (taken modulo 65): Turn(Turn(w)) = w, Turn(1) = 1<<63, and Rank(Turn(w), i) = Ones(w) - Rank(w, 64-i). No condition.
  The frame of this proof is written by the seat's own program; the walk is typed.
-/
import Derived.Test.YtjdgejjpkjhdjaaRows
import Derived.WalkKit
import Derived.Test.YtjdgejjpkjhdjaaPopTurn
import Derived.ProofKit
import Derived.OpenShut
namespace Go.Proofs.Ytjdgejjpkjhdjaa.turnTwice
open Go.ChangeShapes Go.WideShapes Go.ChangeAt Go.RowKit
set_option linter.unusedVariables false      -- a walk need not use every 'w<i>' (that an integer argument fits its kind)

theorem own : ownKnob Try.prog.godebug = none := by kernel_rfl

/-! ### STEP 1: THE WALK: the Go text returns true. 'Grown w w'': the world has at most new blocks (Derived/RowKit3.lean). Part the cases AHEAD of 'go_enter' where a test parts the walk; take each callee by a contract of your own. -/
theorem walk (a0 : Int) (a1 : Int) (w0 : (Lit.int .u64 a0).wf = true) (w1 : (Lit.int .i64 a1).wf = true) (w : World) :
    Calls Try.prog 7 #[.int .u64 a0, .int .i64 a1] w fun e w' => e = .returned (.bool true) ∧ Grown w w' := by
  obtain ⟨x, rfl, hx⟩ := word_of w0
  obtain ⟨k, hk, hp⟩ := picked_any a1 65 w (by decide) (by decide) w1
  have hP : Calls Try.prog 13 #[.int .i64 a1, .int .i64 65] w fun e w' => e = .returned (.int .i64 (k : Int)) ∧ w = w' := hp
  have hT1 := turn_any x w hx
  have hT2 := turn_any (Words.turnTo x 64) w (Words.turn_lt x)
  rw [Words.turn_twice x hx] at hT2
  have hT3 : Calls Try.prog 11 #[.int .u64 1] w fun e w' => e = .returned (.int .u64 9223372036854775808) ∧ w = w' := by
    have h := turn_any 1 w (by decide)
    rw [Words.turn_one] at h
    exact h
  have hR1 := popRank_in (Words.turnTo x 64) k w (Words.turn_lt x) (by omega)
  have hO := ones_any x w hx
  have hR2 := popRank_in x (64 - k) w hx (by omega)
  have ek : ((64 - k : Nat) : Int) = 64 - (k : Int) := by omega
  rw [ek] at hR2
  have hsum := Words.cnt_turn x k (by omega)
  have b1 := Words.cnt_le x 64
  have b2 := Words.cnt_le x (64 - k)
  generalize Words.turnTo x 64 = t at *
  generalize Words.cnt t k = c1 at *
  generalize Words.cnt x 64 = c2 at *
  generalize Words.cnt x (64 - k) = c3 at *
  have hq : ((c1 : Int) == (c2 : Int) - (c3 : Int)) = true := by simp; omega
  have hk' : k ≤ 64 := by omega
  clear hp hsum ek hk w0 w1 hx
  go_enter Try.func7, Try.ntmps7
  go_wp2_with (first | (go_at_call 13; refine hP.mono ?_; rintro e w' ⟨rfl, rfl⟩) | (go_at_call 11; ((with_reducible first | refine hT1.mono ?_ | refine hT2.mono ?_ | refine hT3.mono ?_); rintro e w' ⟨rfl, rfl⟩)) | (go_at_call 9; refine hO.mono ?_; rintro e w' ⟨rfl, rfl⟩) | (go_at_call 14; ((with_reducible first | refine hR1.mono ?_ | refine hR2.mono ?_); rintro e w' ⟨rfl, rfl⟩)))
  go_ret
  exact ⟨rfl, Grown.refl _⟩

/-! ### THE ROW's STEP: WRITTEN OUT: LEAVE IT -/
set_option maxRecDepth 100000 in
theorem lifted (os : Os) (started : os.Started) (H : Type) (enc : TypeId × Value → H) :
    ReturnsInHanded {} Try.checked os 7 .any (Rows.turnTwiceSpec.pre6 enc Try.prog Try.f7 Rows.turnTwiceRow.domain false) (Rows.turnTwiceSpec.post enc Try.prog Try.f7 false true false false) := by
  refine returnsInHanded_of_change (C := Try.checked) own started (by kernel_rfl) Try.func7
    (ChangeSpec.witness6 (enc := enc) (C := Try.checked) false ⟨#[], #[.int .u64 0, .int .i64 0], []⟩ 8 (by kernel_rfl) (by kernel_rfl) (by kernel_rfl) (by kernel_rfl)) ?_
  intro W base args ds gs before hval0 hW hcnd _
  have hval : ∀ (j : Nat) t v, Try.f7.params[j]? = some t → args[j]? = some v → Value.okWide Try.prog W .any base t v := hval0
  have hW' := hW
  obtain ⟨p, q, hA0, hV, rfl, hfz, hnd⟩ := hW
  have hA : DataW.TrodAll enc Try.prog W 0 (fun _ => true) true Try.f7.params.toList args.toList ds p := hA0
  rw [Try.params7] at hA hval
  obtain ⟨v0, vs0, d0, ds0, p0, q0, hargs, rfl, rfl, h0, r0⟩ := trodAll_cons hA
  obtain ⟨v1, vs1, d1, ds1, p1, q1, rfl, rfl, rfl, h1, r1⟩ := trodAll_cons r0
  obtain ⟨rfl, rfl, rfl⟩ := trodAll_nil r1
  obtain rfl : args = #[v0, v1] := by cases args; simp_all
  obtain ⟨rfl, rfl⟩ := trodVars_none hV
  obtain ⟨a0, rfl, rfl, rfl, w0⟩ := open_int Try.underlying22 (hval 0 22 v0 rfl rfl) h0
  obtain ⟨a1, rfl, rfl, rfl, w1⟩ := open_int Try.underlying3 (hval 1 3 v1 rfl rfl) h1
  clear hA0 hval0
  simp only [List.append_nil] at hW'
  refine (walk a0 a1 w0 w1 W).mono fun e W' ⟨he, hg⟩ => ?_
  subst he
  exact ⟨_, rfl, post_of_same (pa := []) (pv := []) hW' (fun _ _ _ => (trodAll_cons_mk (shut_bool Try.underlying4 _) trodAll_mk0)) (fun sp _ => (trodAll_cons_mk (shut_int Try.underlying22 w0) (trodAll_cons_mk (shut_int Try.underlying3 w1) trodAll_mk0))) (fun _ _ => rfl) rfl
    (hg.frame _) hg.2.1 (ok_one (by kernel_rfl) rfl (okWide_bool_mk Try.underlying4 _))⟩

theorem over : Rows.turnTwiceRow.holds Try.pinned (OpenSpec.ofChange Rows.turnTwiceSpec) :=
  OpenClaim.holds_of_wide 7 Try.f7 rfl rfl rfl rfl rfl rfl rfl ⟨rfl, rfl, rfl, rfl, rfl⟩ rfl rfl rfl rfl rfl (by kernel_rfl) Try.func7 (by kernel_rfl)
    (of_decide_eq_true (by kernel_rfl)) (by unfold Func.isWrapper; first | (rw [if_pos (by decide +kernel)]; kernel_rfl) | (rw [if_neg (by decide +kernel)]; exact ⟨rfl, rfl⟩))
    (fun os started H enc _ => lifted os started H enc)

/-- ████ THE STATEMENT ████ -/
theorem proved : Rows.TurnTwiceSaid :=
  over
#print axioms proved
end Go.Proofs.Ytjdgejjpkjhdjaa.turnTwice
