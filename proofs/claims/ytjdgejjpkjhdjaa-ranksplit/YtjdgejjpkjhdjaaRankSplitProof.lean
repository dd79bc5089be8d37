/-
  For all words w, v and every number i (taken modulo 65): the ranks of w and of its complement at i add up to i, Rank(w, 64) is Ones(w), Ones(w) + Ones(v) = Ones(w|v) + Ones(w&v), and Ones(w^v) = Ones(w|v) - Ones(w&v). No condition.
  The frame of this proof is written by the seat's own program; the walk is typed.
-/
import Derived.Test.YtjdgejjpkjhdjaaRows
import Derived.WalkKit
import Derived.Test.YtjdgejjpkjhdjaaPopTurn
import Derived.ProofKit
import Derived.OpenShut
namespace Go.Proofs.Ytjdgejjpkjhdjaa.rankSplit
open Go.ChangeShapes Go.WideShapes Go.ChangeAt Go.RowKit
set_option linter.unusedVariables false      -- a walk need not use every 'w<i>' (that an integer argument fits its kind)

theorem own : ownKnob Try.prog.godebug = none := by kernel_rfl

/-! ### STEP 1: THE WALK: the Go text returns true. 'Grown w w'': the world has at most new blocks (Derived/RowKit3.lean). Part the cases AHEAD of 'go_enter' where a test parts the walk; take each callee by a contract of your own. -/
theorem walk (a0 : Int) (a1 : Int) (a2 : Int) (w0 : (Lit.int .u64 a0).wf = true) (w1 : (Lit.int .u64 a1).wf = true) (w2 : (Lit.int .i64 a2).wf = true) (w : World) :
    Calls Try.prog 6 #[.int .u64 a0, .int .u64 a1, .int .i64 a2] w fun e w' => e = .returned (.bool true) ∧ Grown w w' := by
  obtain ⟨x, rfl, hx⟩ := word_of w0
  obtain ⟨v, rfl, hv⟩ := word_of w1
  obtain ⟨k, hk, hp⟩ := picked_any a2 65 w (by decide) (by decide) w2
  have hP : Calls Try.prog 13 #[.int .i64 a2, .int .i64 65] w fun e w' => e = .returned (.int .i64 (k : Int)) ∧ w = w' := hp
  have h5 : Calls Try.prog 9 #[.int .u64 5] w fun e w' => e = .returned (.int .i64 2) ∧ w = w' := ones_any 5 w (by decide)
  have hR1 := popRank_in x k w hx (by omega)
  have hR2 := popRank_in (18446744073709551615 - x) k w (by omega) (by omega)
  rw [← Words.not_int x hx] at hR2
  have hR3 : Calls Try.prog 14 #[.int .u64 (x : Int), .int .i64 64] w fun e w' => e = .returned (.int .i64 (Words.cnt x 64)) ∧ w = w' := popRank_in x 64 w hx (Nat.le_refl _)
  have hO1 := ones_any x w hx
  have hO2 := ones_any v w hv
  have hO3 := ones_any (x ||| v) w (Nat.or_lt_two_pow (n := 64) hx hv)
  have hO4 := ones_any (x &&& v) w (Nat.lt_of_le_of_lt Nat.and_le_left hx)
  have hO5 := ones_any (x ^^^ v) w (Nat.xor_lt_two_pow (n := 64) hx hv)
  rw [← bits_or_u64_nat x v hx hv] at hO3
  rw [← bits_and_u64_nat x v hx hv] at hO4
  rw [← bits_xor_u64_nat x v hx hv] at hO5
  have q1 := Words.cnt_not x k hx (by omega)
  have q2 := Words.cnt_or_and x v 64
  have q3 := Words.cnt_xor x v 64
  have b1 := Words.cnt_le x 64
  have b2 := Words.cnt_le v 64
  have b3 := Words.cnt_le (x ||| v) 64
  have b4 := Words.cnt_le (x &&& v) 64
  generalize Words.cnt x k = c1 at *
  generalize Words.cnt (18446744073709551615 - x) k = c2 at *
  generalize Words.cnt x 64 = o1 at *
  generalize Words.cnt v 64 = o2 at *
  generalize Words.cnt (x ||| v) 64 = o3 at *
  generalize Words.cnt (x &&& v) 64 = o4 at *
  generalize Words.cnt (x ^^^ v) 64 = o5 at *
  have t1 : ((c1 : Int) + (c2 : Int) == (k : Int)) = true := by simp; omega
  have t2 : ((o1 : Int) + (o2 : Int) == (o3 : Int) + (o4 : Int)) = true := by simp; omega
  have t3 : ((o5 : Int) == (o3 : Int) - (o4 : Int)) = true := by simp; omega
  have c1' : c1 ≤ 64 := by omega
  have c2' : c2 ≤ 64 := by omega
  clear hp q1 q2 q3 hk w0 w1 w2 hx hv
  go_enter Try.func6, Try.ntmps6
  go_wp2_with (first | (go_at_call 13; refine hP.mono ?_; rintro e w' ⟨rfl, rfl⟩) | (go_at_call 9; ((with_reducible first | refine h5.mono ?_ | refine hO1.mono ?_ | refine hO2.mono ?_ | refine hO3.mono ?_ | refine hO4.mono ?_ | refine hO5.mono ?_); rintro e w' ⟨rfl, rfl⟩)) | (go_at_call 14; ((with_reducible first | refine hR1.mono ?_ | refine hR2.mono ?_ | refine hR3.mono ?_); rintro e w' ⟨rfl, rfl⟩)))
  go_ret
  exact ⟨rfl, Grown.refl _⟩

/-! ### THE ROW's STEP: WRITTEN OUT: LEAVE IT -/
set_option maxRecDepth 100000 in
theorem lifted (os : Os) (started : os.Started) (H : Type) (enc : TypeId × Value → H) :
    ReturnsInHanded {} Try.checked os 6 .any (Rows.rankSplitSpec.pre6 enc Try.prog Try.f6 Rows.rankSplitRow.domain false) (Rows.rankSplitSpec.post enc Try.prog Try.f6 false true false false) := by
  refine returnsInHanded_of_change (C := Try.checked) own started (by kernel_rfl) Try.func6
    (ChangeSpec.witness6 (enc := enc) (C := Try.checked) false ⟨#[], #[.int .u64 0, .int .u64 0, .int .i64 0], []⟩ 8 (by kernel_rfl) (by kernel_rfl) (by kernel_rfl) (by kernel_rfl)) ?_
  intro W base args ds gs before hval0 hW hcnd _
  have hval : ∀ (j : Nat) t v, Try.f6.params[j]? = some t → args[j]? = some v → Value.okWide Try.prog W .any base t v := hval0
  have hW' := hW
  obtain ⟨p, q, hA0, hV, rfl, hfz, hnd⟩ := hW
  have hA : DataW.TrodAll enc Try.prog W 0 (fun _ => true) true Try.f6.params.toList args.toList ds p := hA0
  rw [Try.params6] at hA hval
  obtain ⟨v0, vs0, d0, ds0, p0, q0, hargs, rfl, rfl, h0, r0⟩ := trodAll_cons hA
  obtain ⟨v1, vs1, d1, ds1, p1, q1, rfl, rfl, rfl, h1, r1⟩ := trodAll_cons r0
  obtain ⟨v2, vs2, d2, ds2, p2, q2, rfl, rfl, rfl, h2, r2⟩ := trodAll_cons r1
  obtain ⟨rfl, rfl, rfl⟩ := trodAll_nil r2
  obtain rfl : args = #[v0, v1, v2] := by cases args; simp_all
  obtain ⟨rfl, rfl⟩ := trodVars_none hV
  obtain ⟨a0, rfl, rfl, rfl, w0⟩ := open_int Try.underlying22 (hval 0 22 v0 rfl rfl) h0
  obtain ⟨a1, rfl, rfl, rfl, w1⟩ := open_int Try.underlying22 (hval 1 22 v1 rfl rfl) h1
  obtain ⟨a2, rfl, rfl, rfl, w2⟩ := open_int Try.underlying3 (hval 2 3 v2 rfl rfl) h2
  clear hA0 hval0
  simp only [List.append_nil] at hW'
  refine (walk a0 a1 a2 w0 w1 w2 W).mono fun e W' ⟨he, hg⟩ => ?_
  subst he
  exact ⟨_, rfl, post_of_same (pa := []) (pv := []) hW' (fun _ _ _ => (trodAll_cons_mk (shut_bool Try.underlying4 _) trodAll_mk0)) (fun sp _ => (trodAll_cons_mk (shut_int Try.underlying22 w0) (trodAll_cons_mk (shut_int Try.underlying22 w1) (trodAll_cons_mk (shut_int Try.underlying3 w2) trodAll_mk0)))) (fun _ _ => rfl) rfl
    (hg.frame _) hg.2.1 (ok_one (by kernel_rfl) rfl (okWide_bool_mk Try.underlying4 _))⟩

theorem over : Rows.rankSplitRow.holds Try.pinned (OpenSpec.ofChange Rows.rankSplitSpec) :=
  OpenClaim.holds_of_wide 6 Try.f6 rfl rfl rfl rfl rfl rfl rfl ⟨rfl, rfl, rfl, rfl, rfl⟩ rfl rfl rfl rfl rfl (by kernel_rfl) Try.func6 (by kernel_rfl)
    (of_decide_eq_true (by kernel_rfl)) (by unfold Func.isWrapper; first | (rw [if_pos (by decide +kernel)]; kernel_rfl) | (rw [if_neg (by decide +kernel)]; exact ⟨rfl, rfl⟩))
    (fun os started H enc _ => lifted os started H enc)

/-- ████ THE STATEMENT ████ -/
theorem proved : Rows.RankSplitSaid :=
  over
#print axioms proved
end Go.Proofs.Ytjdgejjpkjhdjaa.rankSplit
