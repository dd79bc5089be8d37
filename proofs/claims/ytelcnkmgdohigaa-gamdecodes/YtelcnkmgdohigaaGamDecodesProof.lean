/-
  For every kind and every bit vector b (any length, any words), Go's gam.Decode(kind, b) returns the numbers or the error that the document's answer returns (P4.2).
  No condition.
-/
import Derived.Test.YtelcnkmgdohigaaRows
import Derived.Test.YtelcnkmgdohigaaFrame
import Derived.Test.YtelcnkmgdohigaaGamRDc
import Derived.Test.YtelcnkmgdohigaaSameI
import Derived.WalkKit
import Derived.ProofKit
import Derived.OpenShut
import Derived.ChangeOld
import Derived.Below
import Derived.Carry
import Derived.SizedLaws
import Derived.Deep.RegionWith
import Derived.Deep.RegionHeld3
namespace Go.Proofs.Ytelcnkmgdohigaa.gamDecodes
open Go.ChangeShapes Go.WideShapes Go.ChangeAt Go.RowKit Words
set_option linter.unusedVariables false

theorem own : ownKnob Try.prog.godebug = none := by kernel_rfl
theorem laidOut : laidOutB Try.prog = true := by kernel_rfl
theorem decoded_small (k : Nat) (l : List Bool) : (decoded k l).1.length ≤ 300 := by
  unfold decoded
  split
  · simp
  · split
    · simp
    · omega

/-- Both answer the same. -/
theorem dec_same (R : List Nat × Nat) (hR : R.1.length ≤ 17592186044416) (k n : Int) (A : Option Addr) (q c : Nat) (w : World) (h1 : ∀ W, Below w.heap.size w W → Calls Try.prog 12 #[.int .i64 k, .agg #[.int .i64 n, .slice A q c]] W (GivesInts W R)) (h2 : ∀ W, Below w.heap.size w W → Calls Try.prog 13 #[.int .i64 k, .agg #[.int .i64 n, .slice A q c]] W (GivesInts W R)) :
    Calls Try.prog 4 #[.int .i64 k, .agg #[.int .i64 n, .slice A q c]] w fun e w' => e = .returned (.bool true) ∧ Below w.heap.size w w' := by
  have H1 := Lib.hid h1
  have H2 := Lib.hid h2
  have hS0 : ∀ A A2 c c2 W, Lies W W.heap.size A (R.1.map fun n : Nat => .int .i64 (n : Int)) → Lies W W.heap.size A2 (R.1.map fun n : Nat => .int .i64 (n : Int)) → Calls Try.prog 14 #[.slice A R.1.length c, .slice A2 R.1.length c2] W fun e w' => e = .returned (.bool true) ∧ Below W.heap.size W w' := fun A A2 c c2 W h1 h2 => by
    rw [asInts_map] at h1 h2
    have := sameIntsL_eq A A2 (asInts R.1) c c2 W (by rw [asInts_length]; exact hR) h1 h2
    rw [asInts_length] at this
    exact this
  have HS := Lib.hid hS0
  have hkk : ((R.2 : Int) == (R.2 : Int)) = true := by simp
  clear hS0 h1 h2
  go_enter Try.func4, Try.ntmps4
  go_wp2_with fail
  refine (H1.out _ (by exact bnew _ _)).mono ?_
  rintro e w1 ⟨A1, c1, rfl, _, _, hl1, hb1⟩
  have hc1 := bcell hb1
  have HL1 := Lib.hid hl1
  have hz1 : w.heap.size < w1.heap.size := by have := hb1.size; simp at this; omega
  clear hl1
  go_wp2_with fail
  refine (H2.out _ (by exact chain (bnew _ _) hb1)).mono ?_
  rintro e w2 ⟨A2, c2, rfl, _, _, hl2, hb2⟩
  have HL2 := Lib.hid hl2
  clear hl2
  go_wp2_with fail
  refine (HS.out A1 A2 c1 c2 _ (by exact HL1.out.on hb2) (by exact HL2.out)).mono ?_
  rintro e w3 ⟨rfl, hb3⟩
  go_wp2
  go_ret
  exact ⟨rfl, chain (chain (chain (bnew _ _) hb1) hb2) hb3⟩


set_option maxHeartbeats 1000000 in
/-- The walk: the Go text returns true, and writes nothing that was there. -/
theorem walk (a0 : Int) (n1 : Int) (A1 : Option Addr) (l1 : List Nat) (c1 : Nat) (w : World) (w0 : (Lit.int .i64 a0).wf = true) (wn1 : (Lit.int .i64 n1).wf = true) (hle1 : l1.length ≤ c1) (hcap1 : c1 * 8 ≤ 140737488351232) (hnil1 : A1 = none → c1 = 0) (w1 : Words64 w w.heap.size A1 l1) :
    Calls Try.prog 4 #[.int .i64 a0, .agg #[.int .i64 n1, .slice A1 l1.length c1]] w fun e w' => e = .returned (.bool true) ∧ Below w.heap.size w w' := by
  by_cases hk : a0 = 1 ∨ a0 = 2
  · by_cases h : ∃ m : Nat, n1 = m ∧ Valid m l1
    · obtain ⟨m, rfl, hV⟩ := h
      obtain ⟨k, rfl⟩ := Int.eq_ofNat_of_zero_le (a := a0) (by omega)
      have hk' : k = 1 ∨ k = 2 := by omega
      have hsm := decoded_small k (rowBits m l1)
      exact dec_same (decoded k (rowBits m l1)) (by omega) k m A1 l1.length c1 w (fun W h => dec_any k m A1 l1 c1 W hk' hV (w1.on h)) (fun W h => rdec_any k m A1 l1 c1 W hk' hV (w1.on h))
    · have hV : ∀ m : Nat, n1 = m → ¬ Valid m l1 := fun m e hv => h ⟨m, e, hv⟩
      exact dec_same ([], 4) (by simp) a0 n1 A1 l1.length c1 w (fun W h => dec_form a0 n1 A1 l1 c1 W hk hV (w1.on h)) (fun W h => rdec_form a0 n1 A1 l1 c1 W hk hV (by omega) (w1.on h))
  · exact dec_same ([], 3) (by simp) a0 n1 A1 l1.length c1 w (fun W _ => dec_kind a0 n1 A1 l1.length c1 W hk) (fun W _ => rdec_kind a0 n1 A1 l1.length c1 W hk)

set_option maxRecDepth 100000 in
theorem lifted (os : Os) (started : os.Started) (H : Type) (enc : TypeId × Value → H) :
    ReturnsInHanded {} Try.checked os 4 .any (Rows.gamDecodesSpec.pre6 enc Try.prog Try.f4 Rows.gamDecodesRow.domain false) (Rows.gamDecodesSpec.post enc Try.prog Try.f4 false true false false) := by
  refine returnsInHanded_of_change_sized (C := Try.checked) own started (by kernel_rfl) Try.func4
    (ChangeSpec.witness6 (enc := enc) (C := Try.checked) false ⟨#[], #[.int .i64 0, .agg #[.int .i64 0, .slice none 0 0]], []⟩ 8 (by kernel_rfl) (by kernel_rfl) (by kernel_rfl) (by kernel_rfl)) ?_
  intro W base args ds gs before hval0 hW hcnd hsz0 _
  have hval : ∀ (j : Nat) t v, Try.f4.params[j]? = some t → args[j]? = some v → Value.okWide Try.prog W .any base t v := hval0
  have hW' := hW
  obtain ⟨p, q, hA0, hV, rfl, hfz, hnd⟩ := hW
  have hA : DataW.TrodAll enc Try.prog W 0 (fun _ => true) true Try.f4.params.toList args.toList ds p := hA0
  have hsz : (DataW.weightsEach Try.prog (Try.f4.params.toList ++ Rows.gamDecodesSpec.plain.varTypes Try.prog) (ds ++ gs)).all (· ≤ reachBytes) = true := hsz0
  rw [Try.params4] at hA hval hsz
  obtain ⟨v0, vs0, d0, ds0, p0, q0, hargs, rfl, rfl, h0, r0⟩ := trodAll_cons hA
  obtain ⟨v1, vs1, d1, ds1, p1, q1, rfl, rfl, rfl, h1, r1⟩ := trodAll_cons r0
  obtain ⟨rfl, rfl, rfl⟩ := trodAll_nil r1
  obtain rfl : args = #[v0, v1] := by cases args; simp_all
  obtain ⟨rfl, rfl⟩ := trodVars_none hV
  obtain ⟨a0, rfl, rfl, rfl, w0⟩ := open_int Try.underlying3 (hval 0 3 v0 rfl rfl) h0
  obtain ⟨cs1, rfl, hsize1⟩ := okWide_struct Try.underlying25 (hval 1 25 v1 rfl rfl)
  have k1 := h1
  have lt1 : ∀ x ∈ p1, x.block < W.heap.size := by obtain ⟨m, hm⟩ := k1; exact DataW.trod_lt m _ _ _ hm
  obtain ⟨fuel1, hf1⟩ := h1
  obtain ⟨n1, A1, l1, c1, hcs1, wn1, hle1, hcap1, hnil1, w1⟩ := rd_bits Try.underlying25 (by kernel_rfl) rfl rfl rfl rfl Try.underlying3 (by kernel_rfl) Try.underlying23 (by kernel_rfl) Try.underlying58 (by kernel_rfl) (by kernel_rfl) hf1 (weight_arg hsz (j := 1) (t := 25) rfl rfl)
  have hcs1_ : cs1 = #[.int .i64 n1, .slice A1 l1.length c1] := Array.toList_inj.1 hcs1
  subst hcs1_
  clear hcs1
  clear hA0 hval0
  refine (walk a0 n1 A1 l1 c1 W w0 wn1 hle1 hcap1 hnil1 w1).mono fun e W' ⟨he, bel⟩ => ?_
  subst he
  exact ⟨_, rfl, _, _, _, [], _, [], hW', trodAll_mk1 (shut_bool Try.underlying4 _), (trodAll_cons_mk (shut_int Try.underlying3 w0) (trodAll_cons_mk (Below.trod laidOut (by kernel_rfl) (of_decide_eq_true (by kernel_rfl)) k1 bel lt1) trodAll_mk0)), rfl, bel.frame _, fun h => by cases h⟩

theorem over : Rows.gamDecodesRow.holds Try.pinned (OpenSpec.ofChange Rows.gamDecodesSpec) :=
  OpenClaim.holds_of_wide 4 Try.f4 rfl rfl rfl rfl rfl rfl rfl ⟨rfl, rfl, rfl, rfl, rfl⟩ rfl rfl rfl rfl rfl (by kernel_rfl) Try.func4 (by kernel_rfl)
    (of_decide_eq_true (by kernel_rfl)) (by unfold Func.isWrapper; first | (rw [if_pos (by decide +kernel)]; kernel_rfl) | (rw [if_neg (by decide +kernel)]; exact ⟨rfl, rfl⟩))
    (fun os started H enc _ => lifted os started H enc)

/-- THE STATEMENT. -/
theorem proved : Rows.GamDecodesSaid := over
#print axioms proved
end Go.Proofs.Ytelcnkmgdohigaa.gamDecodes
