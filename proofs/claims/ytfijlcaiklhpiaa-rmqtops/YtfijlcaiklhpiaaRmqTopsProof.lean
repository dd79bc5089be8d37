/-
  For every list l, every table t and every two numbers a, b, Go's rmq.Top(l, t, a, b) returns the place or the error that the document's answer returns (P6.1).
  No condition.
-/
import Derived.Test.YtfijlcaiklhpiaaRows
import Derived.Test.YtfijlcaiklhpiaaFrame
import Derived.Test.YtfijlcaiklhpiaaRmqAsk
import Derived.WalkKit
import Derived.ProofKit
import Derived.OpenShut
import Derived.ChangeOld
import Derived.Below
import Derived.Carry
import Derived.SizedLaws
import Derived.Deep.RegionWith
import Derived.Deep.RegionHeld3
namespace Go.Proofs.Ytfijlcaiklhpiaa.rmqTops
open Go.ChangeShapes Go.WideShapes Go.ChangeAt Go.RowKit Words
set_option linter.unusedVariables false

theorem own : ownKnob Try.prog.godebug = none := by kernel_rfl
theorem laidOut : laidOutB Try.prog = true := by kernel_rfl
/-- Both answer alike. -/
theorem same_case (x k : Int) (A : Option Addr) (n c : Nat) (A2 : Option Addr) (m c2 : Nat) (a b : Int) (w : World)
    (h1 : ∀ W, Below w.heap.size w W → Calls Try.prog 12 #[.slice A n c, .slice A2 m c2, .int .i64 a, .int .i64 b] W (Answers W x k))
    (h2 : ∀ W, Below w.heap.size w W → Calls Try.prog 13 #[.slice A n c, .slice A2 m c2, .int .i64 a, .int .i64 b] W (Answers W x k)) :
    Calls Try.prog 4 #[.slice A n c, .slice A2 m c2, .int .i64 a, .int .i64 b] w fun e w' => e = .returned (.bool true) ∧ Below w.heap.size w w' := by
  have H1 := Lib.hid h1
  have H2 := Lib.hid h2
  have hxx : (x == x) = true := by simp
  have hkk : (k == k) = true := by simp
  clear h1 h2
  go_enter Try.func4, Try.ntmps4
  go_wp2_with fail
  refine (H1.out _ (Below.refl _ _)).mono ?_
  rintro e w1 ⟨rfl, hb1⟩
  go_wp2_with fail
  refine (H2.out _ hb1).mono ?_
  rintro e w2 ⟨rfl, hb2⟩
  go_wp2_with fail
  go_ret
  exact ⟨rfl, chain hb1 hb2⟩


set_option maxHeartbeats 1000000 in
/-- The walk: the Go text returns true, and writes nothing that was there. -/
theorem walk (A0 : Option Addr) (l0 : List Int) (c0 : Nat) (A1 : Option Addr) (l1 : List Row) (c1 : Nat) (a2 : Int) (a3 : Int) (w : World) (hle0 : l0.length ≤ c0) (hcap0 : c0 * 8 ≤ 140737488351232) (hnil0 : A0 = none → c0 = 0) (w0 : Lies w w.heap.size A0 (l0.map (.int .i64)) ∧ ∀ z ∈ l0, (Lit.int .i64 z).wf = true) (hle1 : l1.length ≤ c1) (hcap1 : c1 * 24 ≤ 140737488351232) (hnil1 : A1 = none → c1 = 0) (w1 : Grid w w.heap.size A1 l1) (f1 : ∀ r ∈ l1, r.Fits) (w2 : (Lit.int .i64 a2).wf = true) (w3 : (Lit.int .i64 a3).wf = true) :
    Calls Try.prog 4 #[.slice A0 l0.length c0, .slice A1 l1.length c1, .int .i64 a2, .int .i64 a3] w fun e w' => e = .returned (.bool true) ∧ Below w.heap.size w w' := by
  by_cases hn : 300 < l0.length
  · exact same_case 0 4 A0 l0.length c0 A1 l1.length c1 a2 a3 w (fun W _ => top_form A0 l0.length c0 A1 l1.length c1 a2 a3 W (isTable_size A0 l0.length c0 A1 l1.length c1 W hn (by omega))) (fun W _ => rtop_size A0 l0.length c0 A1 l1.length c1 a2 a3 W hn (by omega))
  have hn' : l0.length ≤ 300 := by omega
  have hm : l1.length ≤ 17592186044416 := by omega
  have hf : ∀ r ∈ l1, r.nums.length ≤ 17592186044416 := fun r hr => by
    have h1 := (f1 r hr).le
    have h2 := (f1 r hr).room
    omega
  have hL : ∀ W, Below w.heap.size w W → Lies W W.heap.size A0 (l0.map (.int .i64)) := fun W h => w0.1.on h
  have hG : ∀ W, Below w.heap.size w W → Grid W W.heap.size A1 l1 := fun W h => w1.on h
  by_cases hT : tabOf l1 = sparse l0
  · by_cases hr : a2 < 0 ∨ a3 < a2 ∨ (l0.length : Int) ≤ a3
    · exact same_case 0 2 A0 l0.length c0 A1 l1.length c1 a2 a3 w (fun W h => top_range A0 l0.length c0 A1 l1.length c1 a2 a3 W (isTable_any A0 l0 c0 A1 l1 c1 W true hn' (hL W h) hm hf (hG W h) (by simp [hT])) hr) (fun W h => rtop_range A0 l0 c0 A1 l1 c1 a2 a3 W hn' (hL W h) (hG W h) hT hr)
    · obtain ⟨a, rfl⟩ := Int.eq_ofNat_of_zero_le (a := a2) (by omega)
      obtain ⟨m, hmm⟩ : ∃ m : Nat, a3 = ((a + m : Nat) : Int) := ⟨(a3 - a).toNat, by omega⟩
      subst hmm
      exact same_case _ 0 A0 l0.length c0 A1 l1.length c1 a _ w (fun W h => top_any A0 l0 c0 A1 l1 c1 a m W hn' (hL W h) hf (hG W h) hT (by omega)) (fun W h => rtop_any A0 l0 c0 A1 l1 c1 a m W hn' (hL W h) (hG W h) hT (by omega))
  · exact same_case 0 4 A0 l0.length c0 A1 l1.length c1 a2 a3 w (fun W h => top_form A0 l0.length c0 A1 l1.length c1 a2 a3 W (isTable_any A0 l0 c0 A1 l1 c1 W false hn' (hL W h) hm hf (hG W h) (by simp [hT]))) (fun W h => rtop_form A0 l0 c0 A1 l1 c1 a2 a3 W hn' (hL W h) hm hf (hG W h) hT)

set_option maxRecDepth 100000 in
theorem lifted (os : Os) (started : os.Started) (H : Type) (enc : TypeId × Value → H) :
    ReturnsInHanded {} Try.checked os 4 .any (Rows.rmqTopsSpec.pre6 enc Try.prog Try.f4 Rows.rmqTopsRow.domain false) (Rows.rmqTopsSpec.post enc Try.prog Try.f4 false true false false) := by
  refine returnsInHanded_of_change_sized (C := Try.checked) own started (by kernel_rfl) Try.func4
    (ChangeSpec.witness6 (enc := enc) (C := Try.checked) false ⟨#[], #[.slice none 0 0, .slice none 0 0, .int .i64 0, .int .i64 0], []⟩ 8 (by kernel_rfl) (by kernel_rfl) (by kernel_rfl) (by kernel_rfl)) ?_
  intro W base args ds gs before hval0 hW hcnd hsz0 _
  have hval : ∀ (j : Nat) t v, Try.f4.params[j]? = some t → args[j]? = some v → Value.okWide Try.prog W .any base t v := hval0
  have hW' := hW
  obtain ⟨p, q, hA0, hV, rfl, hfz, hnd⟩ := hW
  have hA : DataW.TrodAll enc Try.prog W 0 (fun _ => true) true Try.f4.params.toList args.toList ds p := hA0
  have hsz : (DataW.weightsEach Try.prog (Try.f4.params.toList ++ Rows.rmqTopsSpec.plain.varTypes Try.prog) (ds ++ gs)).all (· ≤ reachBytes) = true := hsz0
  rw [Try.params4] at hA hval hsz
  obtain ⟨v0, vs0, d0, ds0, p0, q0, hargs, rfl, rfl, h0, r0⟩ := trodAll_cons hA
  obtain ⟨v1, vs1, d1, ds1, p1, q1, rfl, rfl, rfl, h1, r1⟩ := trodAll_cons r0
  obtain ⟨v2, vs2, d2, ds2, p2, q2, rfl, rfl, rfl, h2, r2⟩ := trodAll_cons r1
  obtain ⟨v3, vs3, d3, ds3, p3, q3, rfl, rfl, rfl, h3, r3⟩ := trodAll_cons r2
  obtain ⟨rfl, rfl, rfl⟩ := trodAll_nil r3
  obtain rfl : args = #[v0, v1, v2, v3] := by cases args; simp_all
  obtain ⟨rfl, rfl⟩ := trodVars_none hV
  obtain ⟨A0, n0, c0, rfl⟩ := okWide_slice Try.underlying22 (hval 0 22 v0 rfl rfl)
  have k0 := h0
  have lt0 : ∀ x ∈ p0, x.block < W.heap.size := by obtain ⟨m, hm⟩ := k0; exact DataW.trod_lt m _ _ _ hm
  obtain ⟨fuel0, hf0⟩ := h0
  obtain ⟨A0_, l0, c0_, hcs0, hle0, hcap0, hnil0, w0⟩ := rd_ints Try.underlying22 Try.underlying3 (by kernel_rfl) (by kernel_rfl) hf0 (weight_arg hsz (j := 0) (t := 22) rfl rfl)
  have hcs0_ : [Value.slice A0 n0 c0] = [.slice A0_ l0.length c0_] := hcs0
  simp only [List.cons.injEq, Value.slice.injEq, and_true] at hcs0_
  obtain ⟨rfl, rfl, rfl⟩ := hcs0_
  clear hcs0
  obtain ⟨A1, n1, c1, rfl⟩ := okWide_slice Try.underlying23 (hval 1 23 v1 rfl rfl)
  have k1 := h1
  have lt1 : ∀ x ∈ p1, x.block < W.heap.size := by obtain ⟨m, hm⟩ := k1; exact DataW.trod_lt m _ _ _ hm
  obtain ⟨fuel1, hf1⟩ := h1
  obtain ⟨A1_, l1, c1_, hcs1, hle1, hcap1, hnil1, w1, f1⟩ := rd_rows Try.underlying23 (by kernel_rfl) (by kernel_rfl) Try.underlying22 Try.underlying3 (by kernel_rfl) (by kernel_rfl) hf1 (weight_arg hsz (j := 1) (t := 23) rfl rfl)
  have hcs1_ : [Value.slice A1 n1 c1] = [.slice A1_ l1.length c1_] := hcs1
  simp only [List.cons.injEq, Value.slice.injEq, and_true] at hcs1_
  obtain ⟨rfl, rfl, rfl⟩ := hcs1_
  clear hcs1
  obtain ⟨a2, rfl, rfl, rfl, w2⟩ := open_int Try.underlying3 (hval 2 3 v2 rfl rfl) h2
  obtain ⟨a3, rfl, rfl, rfl, w3⟩ := open_int Try.underlying3 (hval 3 3 v3 rfl rfl) h3
  clear hA0 hval0
  refine (walk A0 l0 c0 A1 l1 c1 a2 a3 W hle0 hcap0 hnil0 w0 hle1 hcap1 hnil1 w1 f1 w2 w3).mono fun e W' ⟨he, bel⟩ => ?_
  subst he
  exact ⟨_, rfl, _, _, _, [], _, [], hW', trodAll_mk1 (shut_bool Try.underlying4 _), (trodAll_cons_mk (Below.trod laidOut (by kernel_rfl) (of_decide_eq_true (by kernel_rfl)) k0 bel lt0) (trodAll_cons_mk (Below.trod laidOut (by kernel_rfl) (of_decide_eq_true (by kernel_rfl)) k1 bel lt1) (trodAll_cons_mk (shut_int Try.underlying3 w2) (trodAll_cons_mk (shut_int Try.underlying3 w3) trodAll_mk0)))), rfl, bel.frame _, fun h => by cases h⟩

theorem over : Rows.rmqTopsRow.holds Try.pinned (OpenSpec.ofChange Rows.rmqTopsSpec) :=
  OpenClaim.holds_of_wide 4 Try.f4 rfl rfl rfl rfl rfl rfl rfl ⟨rfl, rfl, rfl, rfl, rfl⟩ rfl rfl rfl rfl rfl (by kernel_rfl) Try.func4 (by kernel_rfl)
    (of_decide_eq_true (by kernel_rfl)) (by unfold Func.isWrapper; first | (rw [if_pos (by decide +kernel)]; kernel_rfl) | (rw [if_neg (by decide +kernel)]; exact ⟨rfl, rfl⟩))
    (fun os started H enc _ => lifted os started H enc)

/-- THE STATEMENT. -/
theorem proved : Rows.RmqTopsSaid := over
#print axioms proved
end Go.Proofs.Ytfijlcaiklhpiaa.rmqTops
