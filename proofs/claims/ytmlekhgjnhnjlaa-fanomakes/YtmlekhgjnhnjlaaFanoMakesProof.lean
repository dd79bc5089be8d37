/-
  For every number bound and every list l of numbers, Go's fano.Make(bound, l) returns the encoding or the error that the document's answer returns (P5.1).
  No condition.
-/
import Derived.Test.YtmlekhgjnhnjlaaRows
import Derived.Test.YtmlekhgjnhnjlaaFrame
import Derived.Test.YtmlekhgjnhnjlaaFanoRMk
import Derived.Test.YtmlekhgjnhnjlaaSame
import Derived.WalkKit
import Derived.ProofKit
import Derived.OpenShut
import Derived.ChangeOld
import Derived.Below
import Derived.Carry
import Derived.SizedLaws
import Derived.Deep.RegionWith
import Derived.Deep.RegionHeld3
namespace Go.Proofs.Ytmlekhgjnhnjlaa.fanoMakes
open Go.ChangeShapes Go.WideShapes Go.ChangeAt Go.RowKit Words
set_option linter.unusedVariables false

theorem own : ownKnob Try.prog.godebug = none := by kernel_rfl
theorem laidOut : laidOutB Try.prog = true := by kernel_rfl
/-- Both answer with an error, the same. -/
theorem none_case (k : Int) (z : Int) (A : Option Addr) (n c : Nat) (w : World) (h1 : ∀ W, Below w.heap.size w W → Calls Try.prog 4 #[.int .i64 z, .slice A n c] W (NoFano W k)) (h2 : ∀ W, Below w.heap.size w W → Calls Try.prog 5 #[.int .i64 z, .slice A n c] W (NoFano W k)) :
    Calls Try.prog 3 #[.int .i64 z, .slice A n c] w fun e w' => e = .returned (.bool true) ∧ Below w.heap.size w w' := by
  have H1 := Lib.hid h1
  have H2 := Lib.hid h2
  have hS0 : ∀ W, Calls Try.prog 6 #[.agg #[.int .i64 0, .int .i64 0, .slice none 0 0], .agg #[.int .i64 0, .int .i64 0, .slice none 0 0]] W fun e w' => e = .returned (.bool true) ∧ Below W.heap.size W w' := fun W => samePacked_eq 0 0 none none [] 0 0 W (by simp) ⟨Lies.nil, by simp⟩ ⟨Lies.nil, by simp⟩
  have hR0 : ∀ W, Calls Try.prog 7 #[.agg #[.int .i64 0, .slice none 0 0], .agg #[.int .i64 0, .slice none 0 0]] W fun e w' => e = .returned (.bool true) ∧ Below W.heap.size W w' := fun W => sameRow_eq 0 none none [] 0 0 W (by simp) ⟨Lies.nil, by simp⟩ ⟨Lies.nil, by simp⟩
  have HS := Lib.hid hS0
  have HR := Lib.hid hR0
  have hkk : (k == k) = true := by simp
  clear hS0 hR0 h1 h2
  go_enter Try.func3, Try.ntmps3
  go_wp2_with fail
  refine (H1.out _ (Below.refl _ _)).mono ?_
  rintro e w1 ⟨rfl, hb1⟩
  go_wp2_with fail
  refine (H2.out _ (by exact chain hb1 (bnew _ _))).mono ?_
  rintro e w2 ⟨rfl, hb2⟩
  have hc2 := bcell hb2
  have hz2 : w1.heap.size < w2.heap.size := by have := hb2.size; simp at this; omega
  go_wp2_with fail
  refine (HS.out _).mono ?_
  rintro e w3 ⟨rfl, hb3⟩
  have hc3 := bcell hb3
  have hz3 : w2.heap.size < w3.heap.size := by have := hb3.size; simp at this; omega
  go_wp2_with fail
  refine (HR.out _).mono ?_
  rintro e w4 ⟨rfl, hb4⟩
  go_wp2
  go_ret
  exact ⟨rfl, chain (chain (chain (chain (chain hb1 (bnew _ _)) hb2) (bnew _ _)) hb3) hb4⟩


set_option maxHeartbeats 1000000 in
/-- The walk: the Go text returns true, and writes nothing that was there. -/
theorem walk (a0 : Int) (A1 : Option Addr) (l1 : List Int) (c1 : Nat) (w : World) (w0 : (Lit.int .i64 a0).wf = true) (hle1 : l1.length ≤ c1) (hcap1 : c1 * 8 ≤ 140737488351232) (hnil1 : A1 = none → c1 = 0) (w1 : Lies w w.heap.size A1 (l1.map (.int .i64)) ∧ ∀ z ∈ l1, (Lit.int .i64 z).wf = true) :
    Calls Try.prog 3 #[.int .i64 a0, .slice A1 l1.length c1] w fun e w' => e = .returned (.bool true) ∧ Below w.heap.size w w' := by
  by_cases hn : 300 < l1.length
  · exact none_case 1 a0 A1 l1.length c1 w (fun W _ => fmake_size a0 A1 l1.length c1 W hn (by omega)) (fun W _ => rfmake_size a0 A1 l1.length c1 W hn (by omega))
  by_cases hd : a0 < 0 ∨ 1048576 < a0
  · exact none_case 2 a0 A1 l1.length c1 w (fun W _ => fmake_bound a0 A1 l1.length c1 W (by omega) hd) (fun W _ => rfmake_bound a0 A1 l1.length c1 W (by omega) hd)
  obtain ⟨B, rfl⟩ := Int.eq_ofNat_of_zero_le (a := a0) (by omega)
  have hB : B ≤ 1048576 := by omega
  by_cases hg : AllGood B l1
  · obtain ⟨ns, rfl, hR⟩ := allGood_nats hg
    rw [asInts_length] at hn ⊢
    have H1 := Lib.hid (fun W (h : Lies W W.heap.size A1 ((asInts ns).map (.int .i64))) => fmake_any B A1 ns c1 W (by omega) hB h hR)
    have H2 := Lib.hid (fun W (h : Lies W W.heap.size A1 ((asInts ns).map (.int .i64))) => rfmake_any B A1 ns c1 W (by omega) hB h hR)
    unfold MadeFano at H1 H2
    have hlo : (packWords (fw ns.length B) (flow (fw ns.length B) ns)).length ≤ 17592186044416 := by
      have := mul_bound (n := ns.length) (d := fw ns.length B) (by omega) (by have := fw_le ns.length B; omega)
      rw [packWords_length, flow_length]
      omega
    have hhi : (rowOf (fhigh B ns)).length ≤ 17592186044416 := by
      have := fhigh_short (ns := ns) hB
      rw [rowOf_length]
      omega
    have HL := Lib.hid w1.1
    clear w1 hnil1 hg hd hn w0 hR hle1 hcap1
    generalize packWords (fw ns.length B) (flow (fw ns.length B) ns) = lw at *
    generalize rowOf (fhigh B ns) = hw at *
    generalize fw ns.length B = d at *
    generalize (fhigh B ns).length = m at *
    generalize ns.length = n at *
    have HS := Lib.hid (fun A A2 c c2 W h1 h2 => samePacked_eq n d A A2 lw c c2 W hlo h1 h2)
    have HR := Lib.hid (fun A A2 c c2 W h1 h2 => sameRow_eq m A A2 hw c c2 W hhi h1 h2)
    have hBB : ((B : Int) == (B : Int)) = true := by simp
    go_enter Try.func3, Try.ntmps3
    go_wp2_with fail
    refine (H1.out _ HL.out).mono ?_
    rintro e w1 ⟨B1, k1, D1, j1, rfl, hW1, hV1, _, _, hb1⟩
    have HW1 := Lib.hid hW1
    have HV1 := Lib.hid hV1
    clear hW1 hV1
    go_wp2_with fail
    refine (H2.out _ (by exact (HL.out.on hb1).alloc _)).mono ?_
    rintro e w2 ⟨B2, k2, D2, j2, rfl, hW2, hV2, _, _, hb2⟩
    have HW2 := Lib.hid hW2
    have HV2 := Lib.hid hV2
    have hc2 := bcell hb2
    have hz2 : w1.heap.size < w2.heap.size := by have := hb2.size; simp at this; omega
    clear hW2 hV2
    go_wp2_with fail
    refine (HS.out B1 B2 k1 k2 _ ?_ ?_).mono ?_
    · exact ((HW1.out.alloc _).on hb2).alloc _
    · exact HW2.out.alloc _
    rintro e w3 ⟨rfl, hb3⟩
    have hc3 := bcell hb3
    have hz3 : w2.heap.size < w3.heap.size := by have := hb3.size; simp at this; omega
    go_wp2_with fail
    refine (HR.out D1 D2 j1 j2 _ ?_ ?_).mono ?_
    · exact (((HV1.out.alloc _).on hb2).alloc _).on hb3
    · exact (HV2.out.alloc _).on hb3
    rintro e w4 ⟨rfl, hb4⟩
    go_wp2
    go_ret
    exact ⟨rfl, chain (chain (chain (chain (chain hb1 (bnew _ _)) hb2) (bnew _ _)) hb3) hb4⟩
  · exact none_case 4 B A1 l1.length c1 w (fun W h => fmake_form B A1 l1 c1 W (by omega) hB (w1.1.on h) hg) (fun W h => rfmake_form B A1 l1 c1 W (by omega) hB (w1.1.on h) hg)

set_option maxRecDepth 100000 in
theorem lifted (os : Os) (started : os.Started) (H : Type) (enc : TypeId × Value → H) :
    ReturnsInHanded {} Try.checked os 3 .any (Rows.fanoMakesSpec.pre6 enc Try.prog Try.f3 Rows.fanoMakesRow.domain false) (Rows.fanoMakesSpec.post enc Try.prog Try.f3 false true false false) := by
  refine returnsInHanded_of_change_sized (C := Try.checked) own started (by kernel_rfl) Try.func3
    (ChangeSpec.witness6 (enc := enc) (C := Try.checked) false ⟨#[], #[.int .i64 0, .slice none 0 0], []⟩ 8 (by kernel_rfl) (by kernel_rfl) (by kernel_rfl) (by kernel_rfl)) ?_
  intro W base args ds gs before hval0 hW hcnd hsz0 _
  have hval : ∀ (j : Nat) t v, Try.f3.params[j]? = some t → args[j]? = some v → Value.okWide Try.prog W .any base t v := hval0
  have hW' := hW
  obtain ⟨p, q, hA0, hV, rfl, hfz, hnd⟩ := hW
  have hA : DataW.TrodAll enc Try.prog W 0 (fun _ => true) true Try.f3.params.toList args.toList ds p := hA0
  have hsz : (DataW.weightsEach Try.prog (Try.f3.params.toList ++ Rows.fanoMakesSpec.plain.varTypes Try.prog) (ds ++ gs)).all (· ≤ reachBytes) = true := hsz0
  rw [Try.params3] at hA hval hsz
  obtain ⟨v0, vs0, d0, ds0, p0, q0, hargs, rfl, rfl, h0, r0⟩ := trodAll_cons hA
  obtain ⟨v1, vs1, d1, ds1, p1, q1, rfl, rfl, rfl, h1, r1⟩ := trodAll_cons r0
  obtain ⟨rfl, rfl, rfl⟩ := trodAll_nil r1
  obtain rfl : args = #[v0, v1] := by cases args; simp_all
  obtain ⟨rfl, rfl⟩ := trodVars_none hV
  obtain ⟨a0, rfl, rfl, rfl, w0⟩ := open_int Try.underlying3 (hval 0 3 v0 rfl rfl) h0
  obtain ⟨A1, n1, c1, rfl⟩ := okWide_slice Try.underlying22 (hval 1 22 v1 rfl rfl)
  have k1 := h1
  have lt1 : ∀ x ∈ p1, x.block < W.heap.size := by obtain ⟨m, hm⟩ := k1; exact DataW.trod_lt m _ _ _ hm
  obtain ⟨fuel1, hf1⟩ := h1
  obtain ⟨A1_, l1, c1_, hcs1, hle1, hcap1, hnil1, w1⟩ := rd_ints Try.underlying22 Try.underlying3 (by kernel_rfl) (by kernel_rfl) hf1 (weight_arg hsz (j := 1) (t := 22) rfl rfl)
  have hcs1_ : [Value.slice A1 n1 c1] = [.slice A1_ l1.length c1_] := hcs1
  simp only [List.cons.injEq, Value.slice.injEq, and_true] at hcs1_
  obtain ⟨rfl, rfl, rfl⟩ := hcs1_
  clear hcs1
  clear hA0 hval0
  refine (walk a0 A1 l1 c1 W w0 hle1 hcap1 hnil1 w1).mono fun e W' ⟨he, bel⟩ => ?_
  subst he
  exact ⟨_, rfl, _, _, _, [], _, [], hW', trodAll_mk1 (shut_bool Try.underlying4 _), (trodAll_cons_mk (shut_int Try.underlying3 w0) (trodAll_cons_mk (Below.trod laidOut (by kernel_rfl) (of_decide_eq_true (by kernel_rfl)) k1 bel lt1) trodAll_mk0)), rfl, bel.frame _, fun h => by cases h⟩

theorem over : Rows.fanoMakesRow.holds Try.pinned (OpenSpec.ofChange Rows.fanoMakesSpec) :=
  OpenClaim.holds_of_wide 3 Try.f3 rfl rfl rfl rfl rfl rfl rfl ⟨rfl, rfl, rfl, rfl, rfl⟩ rfl rfl rfl rfl rfl (by kernel_rfl) Try.func3 (by kernel_rfl)
    (of_decide_eq_true (by kernel_rfl)) (by unfold Func.isWrapper; first | (rw [if_pos (by decide +kernel)]; kernel_rfl) | (rw [if_neg (by decide +kernel)]; exact ⟨rfl, rfl⟩))
    (fun os started H enc _ => lifted os started H enc)

/-- THE STATEMENT. -/
theorem proved : Rows.FanoMakesSaid := over
#print axioms proved
end Go.Proofs.Ytmlekhgjnhnjlaa.fanoMakes
