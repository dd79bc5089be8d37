/-
  For every text s and every number i, Go's paren.Enclose(s, i) returns the index or the error that the document's answer returns (P7.2).
  No condition.
-/
import Derived.Test.YtdpcnbehjgpgeaaRows
import Derived.Test.YtdpcnbehjgpgeaaFrame
import Derived.Test.YtdpcnbehjgpgeaaParPr
import Derived.WalkKit
import Derived.ProofKit
import Derived.OpenShut
import Derived.ChangeOld
import Derived.Below
import Derived.Carry
import Derived.SizedLaws
import Derived.Deep.RegionWith
import Derived.Deep.RegionHeld3
import Derived.ChangeMaps5
namespace Go.Proofs.Ytdpcnbehjgpgeaa.parenEncloses
open Go.ChangeShapes Go.WideShapes Go.ChangeAt Go.RowKit Words
set_option linter.unusedVariables false

theorem own : ownKnob Try.prog.godebug = none := by kernel_rfl
theorem laidOut : laidOutB Try.prog = true := by kernel_rfl
/-- Both answer alike. -/
theorem same_case (bs : ByteArray) (i x k : Int) (w : World)
    (h1 : ∀ W, Calls Try.prog 15 #[.string bs, .int .i64 i] W (Tells W x k))
    (h2 : ∀ W, Calls Try.prog 16 #[.string bs, .int .i64 i] W (Draws2 W x k)) :
    Calls Try.prog 5 #[.string bs, .int .i64 i] w fun e w' => e = .returned (.bool true) ∧ Below w.heap.size w w' := by
  have H1 := Lib.hid h1
  have H2 := Lib.hid h2
  have hxx : (x == x) = true := by simp
  have hkk : (k == k) = true := by simp
  clear h1 h2
  go_enter Try.func5, Try.ntmps5
  go_wp2_with fail
  refine (H1.out _).mono ?_
  rintro e w1 ⟨rfl, hb1⟩
  go_wp2_with fail
  refine (H2.out _).mono ?_
  rintro e w2 ⟨rfl, d, rfl⟩
  go_wp2_with fail
  go_ret
  exact ⟨rfl, bdN hb1 d⟩

/-- Both tell the fault. -/
theorem same_fault (bs : ByteArray) (i r : Int) (w : World) (hr : r ≠ 0)
    (h1 : ∀ W, Calls Try.prog 11 #[.string bs] W fun e w' => e = .returned (.int .i64 r) ∧ W = w')
    (h2 : ∀ W, Calls Try.prog 12 #[.string bs] W fun e w' => e = .returned (.int .i64 r) ∧ W = w') :
    Calls Try.prog 5 #[.string bs, .int .i64 i] w fun e w' => e = .returned (.bool true) ∧ Below w.heap.size w w' :=
  same_case bs i 0 r w (fun W => penc_fault bs i r W hr fun W' => pidx_fault bs i r W' hr h1) (fun W => renc_fault bs i r W hr h2)


set_option maxRecDepth 100000 in
set_option maxHeartbeats 4000000 in
/-- The walk: the Go text returns true, and writes nothing that was there. -/
theorem walk (a0 : ByteArray) (a1 : Int) (w : World) (w0 : a0.size ≤ maxLen) (w1 : (Lit.int .i64 a1).wf = true) :
    Calls Try.prog 5 #[.string a0, .int .i64 a1] w fun e w' => e = .returned (.bool true) ∧ Below w.heap.size w w' := by
  clear w0 w1
  by_cases hn : 400 < a0.size
  · exact same_fault a0 a1 1 w (by decide) (fun W => pcheck_size a0 W hn) (fun W => rfault_size a0 W hn)
  · by_cases hg : Good7 a0
    · have hc : ∀ W, Calls Try.prog 11 #[.string a0] W fun e w' => e = .returned (.int .i64 0) ∧ W = w' := fun W => pcheck_any a0 0 W (by omega) (fun _ => rfl) (fun h => absurd hg h)
      have hr : ∀ W, Calls Try.prog 12 #[.string a0] W fun e w' => e = .returned (.int .i64 0) ∧ W = w' := fun W => rfault_any a0 0 W (by omega) (fun _ => rfl) (fun h => absurd hg h)
      by_cases hi : a1 < 0 ∨ (a0.size : Int) ≤ a1
      · exact same_case a0 a1 0 2 w (fun W => penc_fault a0 a1 2 W (by decide) fun W' => pidx_range a0 a1 W' hi hc) (fun W => renc_range a0 a1 W hi hr)
      · obtain ⟨l, rfl, hb⟩ := hg
        rw [txtP_size] at hn hi
        obtain ⟨i, rfl⟩ := Int.eq_ofNat_of_zero_le (a := a1) (by omega)
        obtain ⟨j, hj⟩ := hb.mate (i := i) (by omega)
        rcases hj with hj | hj
        · exact same_case (txtP l) i _ _ w (fun W => penc_any l i i j W (by omega) hb hj (.inl rfl)) (fun W => renc_any l i i j W (by omega) hb hj (.inl rfl))
        · exact same_case (txtP l) i _ _ w (fun W => penc_any l i j i W (by omega) hb hj (.inr rfl)) (fun W => renc_any l i j i W (by omega) hb hj (.inr rfl))
    · exact same_fault a0 a1 4 w (by decide) (fun W => pcheck_any a0 4 W (by omega) (fun h => absurd h hg) (fun _ => rfl)) (fun W => rfault_any a0 4 W (by omega) (fun h => absurd h hg) (fun _ => rfl))

set_option maxRecDepth 100000 in
theorem lifted (os : Os) (started : os.Started) (H : Type) (enc : TypeId × Value → H) :
    ReturnsInHanded {} Try.checked os 5 .any (Rows.parenEnclosesSpec.pre6 enc Try.prog Try.f5 Rows.parenEnclosesRow.domain false) (Rows.parenEnclosesSpec.post enc Try.prog Try.f5 false true false false) := by
  refine returnsInHanded_of_change_sized (C := Try.checked) own started (by kernel_rfl) Try.func5
    (ChangeSpec.witness6 (enc := enc) (C := Try.checked) false ⟨#[], #[.string ⟨#[]⟩, .int .i64 0], []⟩ 8 (by kernel_rfl) (by kernel_rfl) (by kernel_rfl) (by kernel_rfl)) ?_
  intro W base args ds gs before hval0 hW hcnd hsz0 _
  have hval : ∀ (j : Nat) t v, Try.f5.params[j]? = some t → args[j]? = some v → Value.okWide Try.prog W .any base t v := hval0
  have hW' := hW
  obtain ⟨p, q, hA0, hV, rfl, hfz, hnd⟩ := hW
  have hA : DataW.TrodAll enc Try.prog W 0 (fun _ => true) true Try.f5.params.toList args.toList ds p := hA0
  have hsz : (DataW.weightsEach Try.prog (Try.f5.params.toList ++ Rows.parenEnclosesSpec.plain.varTypes Try.prog) (ds ++ gs)).all (· ≤ reachBytes) = true := hsz0
  rw [Try.params5] at hA hval hsz
  obtain ⟨v0, vs0, d0, ds0, p0, q0, hargs, rfl, rfl, h0, r0⟩ := trodAll_cons hA
  obtain ⟨v1, vs1, d1, ds1, p1, q1, rfl, rfl, rfl, h1, r1⟩ := trodAll_cons r0
  obtain ⟨rfl, rfl, rfl⟩ := trodAll_nil r1
  obtain rfl : args = #[v0, v1] := by cases args; simp_all
  obtain ⟨rfl, rfl⟩ := trodVars_none hV
  obtain ⟨a0, rfl, rfl, rfl, w0⟩ := Go.ChangeMaps.open_string Try.underlying9 (hval 0 9 v0 rfl rfl) h0
  obtain ⟨a1, rfl, rfl, rfl, w1⟩ := open_int Try.underlying3 (hval 1 3 v1 rfl rfl) h1
  clear hA0 hval0
  refine (walk a0 a1 W w0 w1).mono fun e W' ⟨he, bel⟩ => ?_
  subst he
  exact ⟨_, rfl, _, _, _, [], _, [], hW', trodAll_mk1 (shut_bool Try.underlying4 _), (trodAll_cons_mk (Go.ChangeMaps.shut_string Try.underlying9 w0) (trodAll_cons_mk (shut_int Try.underlying3 w1) trodAll_mk0)), rfl, bel.frame _, fun h => by cases h⟩

theorem over : Rows.parenEnclosesRow.holds Try.pinned (OpenSpec.ofChange Rows.parenEnclosesSpec) :=
  OpenClaim.holds_of_wide 5 Try.f5 rfl rfl rfl rfl rfl rfl rfl ⟨rfl, rfl, rfl, rfl, rfl⟩ rfl rfl rfl rfl rfl (by kernel_rfl) Try.func5 (by kernel_rfl)
    (of_decide_eq_true (by kernel_rfl)) (by unfold Func.isWrapper; first | (rw [if_pos (by decide +kernel)]; kernel_rfl) | (rw [if_neg (by decide +kernel)]; exact ⟨rfl, rfl⟩))
    (fun os started H enc _ => lifted os started H enc)

/-- THE STATEMENT. -/
theorem proved : Rows.ParenEnclosesSaid := over
#print axioms proved
end Go.Proofs.Ytdpcnbehjgpgeaa.parenEncloses
