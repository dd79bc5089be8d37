/-
  For every number width and every list l of numbers, Go's pack.Make(width, l) returns the array or the error that the document's answer returns (P3.1).
  No condition.
-/
import Derived.Test.YtpehbagcbkpnnaaRows
import Derived.Test.YtpehbagcbkpnnaaFrame
import Derived.Test.YtpehbagcbkpnnaaPackRMk
import Derived.Test.YtpehbagcbkpnnaaSame
import Derived.WalkKit
import Derived.ProofKit
import Derived.OpenShut
import Derived.ChangeOld
import Derived.Below
import Derived.Carry
import Derived.SizedLaws
import Derived.Deep.RegionWith
import Derived.Deep.RegionHeld3
namespace Go.Proofs.Ytpehbagcbkpnnaa.packMakes
open Go.ChangeShapes Go.WideShapes Go.ChangeAt Go.RowKit Words
set_option linter.unusedVariables false

theorem own : ownKnob Try.prog.godebug = none := by kernel_rfl
theorem laidOut : laidOutB Try.prog = true := by kernel_rfl
/-- Both answer with an error, the same. -/
theorem none_case (k : Int) (d : Int) (A : Option Addr) (n c : Nat) (w : World) (h1 : ∀ W, Below w.heap.size w W → Calls Try.prog 9 #[.int .i64 d, .slice A n c] W (NoPacked W k)) (h2 : ∀ W, Below w.heap.size w W → Calls Try.prog 10 #[.int .i64 d, .slice A n c] W (NoPacked W k)) :
    Calls Try.prog 3 #[.int .i64 d, .slice A n c] w fun e w' => e = .returned (.bool true) ∧ Below w.heap.size w w' := by
  have H1 := Lib.hid h1
  have H2 := Lib.hid h2
  have hS0 : ∀ W, Calls Try.prog 11 #[.agg #[.int .i64 0, .int .i64 0, .slice none 0 0], .agg #[.int .i64 0, .int .i64 0, .slice none 0 0]] W fun e w' => e = .returned (.bool true) ∧ Below W.heap.size W w' := fun W => samePacked_eq 0 0 none none [] 0 0 W (by simp) ⟨Lies.nil, by simp⟩ ⟨Lies.nil, by simp⟩
  have HS := Lib.hid hS0
  have hkk : (k == k) = true := by simp
  clear hS0 h1 h2
  go_enter Try.func3, Try.ntmps3
  go_wp2_with fail
  refine (H1.out _ (Below.refl _ _)).mono ?_
  rintro e w1 ⟨rfl, hb1⟩
  go_wp2_with fail
  refine (H2.out _ (by exact chain hb1 (bnew _ _))).mono ?_
  rintro e w2 ⟨rfl, hb2⟩
  have hc2 := bcell hb2
  have hz2 : w1.heap.size < w2.heap.size := by have := hb2.size; simp at this; omega
  go_wp2_with fail
  refine (HS.out _).mono ?_
  rintro e w3 ⟨rfl, hb3⟩
  go_wp2
  go_ret
  exact ⟨rfl, chain (chain (chain (chain hb1 (bnew _ _)) hb2) (bnew _ _)) hb3⟩


set_option maxHeartbeats 1000000 in
/-- The walk: the Go text returns true, and writes nothing that was there. -/
theorem walk (a0 : Int) (A1 : Option Addr) (l1 : List Int) (c1 : Nat) (w : World) (w0 : (Lit.int .i64 a0).wf = true) (hle1 : l1.length ≤ c1) (hcap1 : c1 * 8 ≤ 140737488351232) (hnil1 : A1 = none → c1 = 0) (w1 : Lies w w.heap.size A1 (l1.map (.int .i64)) ∧ ∀ z ∈ l1, (Lit.int .i64 z).wf = true) :
    Calls Try.prog 3 #[.int .i64 a0, .slice A1 l1.length c1] w fun e w' => e = .returned (.bool true) ∧ Below w.heap.size w w' := by
  by_cases hn : 300 < l1.length
  · exact none_case 1 a0 A1 l1.length c1 w (fun W _ => pmake_size a0 A1 l1.length c1 W hn (by omega)) (fun W _ => rpmake_size a0 A1 l1.length c1 W hn (by omega))
  by_cases hd : a0 < 0 ∨ 62 < a0
  · exact none_case 2 a0 A1 l1.length c1 w (fun W _ => pmake_width a0 A1 l1.length c1 W (by omega) hd) (fun W _ => rpmake_width a0 A1 l1.length c1 W (by omega) hd)
  obtain ⟨d, rfl⟩ := Int.eq_ofNat_of_zero_le (a := a0) (by omega)
  by_cases hf : ∀ z ∈ l1, Fit d z
  · have H1 := Lib.hid (fun W (h : Lies W W.heap.size A1 (l1.map (.int .i64))) => pmake_any d A1 l1 c1 W (by omega) (by omega) w1.2 h hf)
    have H2 := Lib.hid (fun W (h : Lies W W.heap.size A1 (l1.map (.int .i64))) => rpmake_any d A1 l1 c1 W (by omega) (by omega) h hf)
    have HS := Lib.hid (fun A A2 c c2 W h1 h2 => samePacked_eq l1.length d A A2 (packWords d (natsOf l1)) c c2 W (by
      have := mul_bound (n := l1.length) (d := d) (by omega) (by omega)
      rw [packWords_length, natsOf_length]
      omega) h1 h2)
    have HL := Lib.hid w1.1
    clear w1 hnil1 hf hd hn w0
    generalize packWords d (natsOf l1) = ws at *
    go_enter Try.func3, Try.ntmps3
    go_wp2_with fail
    refine (H1.out _ HL.out).mono ?_
    rintro e w1 ⟨B1, k1, rfl, hW1, _, hb1⟩
    have HW1 := Lib.hid hW1
    clear hW1
    go_wp2_with fail
    refine (H2.out _ (by exact (HL.out.on hb1).alloc _)).mono ?_
    rintro e w2 ⟨B2, k2, rfl, hW2, _, hb2⟩
    have HW2 := Lib.hid hW2
    have hc2 := bcell hb2
    have hz2 : w1.heap.size < w2.heap.size := by have := hb2.size; simp at this; omega
    clear hW2
    go_wp2_with fail
    refine (HS.out B1 B2 k1 k2 _ ?_ ?_).mono ?_
    · exact ((HW1.out.alloc _).on hb2).alloc _
    · exact HW2.out.alloc _
    rintro e w3 ⟨rfl, hb3⟩
    go_wp2
    go_ret
    exact ⟨rfl, chain (chain (chain (chain hb1 (bnew _ _)) hb2) (bnew _ _)) hb3⟩
  · exact none_case 2 d A1 l1.length c1 w (fun W h => pmake_bad d A1 l1 c1 W (by omega) (by omega) w1.2 (w1.1.on h) hf) (fun W h => rpmake_bad d A1 l1 c1 W (by omega) (by omega) (w1.1.on h) hf)

set_option maxRecDepth 100000 in
theorem lifted (os : Os) (started : os.Started) (H : Type) (enc : TypeId × Value → H) :
    ReturnsInHanded {} Try.checked os 3 .any (Rows.packMakesSpec.pre6 enc Try.prog Try.f3 Rows.packMakesRow.domain false) (Rows.packMakesSpec.post enc Try.prog Try.f3 false true false false) := by
  refine returnsInHanded_of_change_sized (C := Try.checked) own started (by kernel_rfl) Try.func3
    (ChangeSpec.witness6 (enc := enc) (C := Try.checked) false ⟨#[], #[.int .i64 0, .slice none 0 0], []⟩ 8 (by kernel_rfl) (by kernel_rfl) (by kernel_rfl) (by kernel_rfl)) ?_
  intro W base args ds gs before hval0 hW hcnd hsz0 _
  have hval : ∀ (j : Nat) t v, Try.f3.params[j]? = some t → args[j]? = some v → Value.okWide Try.prog W .any base t v := hval0
  have hW' := hW
  obtain ⟨p, q, hA0, hV, rfl, hfz, hnd⟩ := hW
  have hA : DataW.TrodAll enc Try.prog W 0 (fun _ => true) true Try.f3.params.toList args.toList ds p := hA0
  have hsz : (DataW.weightsEach Try.prog (Try.f3.params.toList ++ Rows.packMakesSpec.plain.varTypes Try.prog) (ds ++ gs)).all (· ≤ reachBytes) = true := hsz0
  rw [Try.params3] at hA hval hsz
  obtain ⟨v0, vs0, d0, ds0, p0, q0, hargs, rfl, rfl, h0, r0⟩ := trodAll_cons hA
  obtain ⟨v1, vs1, d1, ds1, p1, q1, rfl, rfl, rfl, h1, r1⟩ := trodAll_cons r0
  obtain ⟨rfl, rfl, rfl⟩ := trodAll_nil r1
  obtain rfl : args = #[v0, v1] := by cases args; simp_all
  obtain ⟨rfl, rfl⟩ := trodVars_none hV
  obtain ⟨a0, rfl, rfl, rfl, w0⟩ := open_int Try.underlying3 (hval 0 3 v0 rfl rfl) h0
  obtain ⟨A1, n1, c1, rfl⟩ := okWide_slice Try.underlying22 (hval 1 22 v1 rfl rfl)
  have k1 := h1
  have lt1 : ∀ x ∈ p1, x.block < W.heap.size := by obtain ⟨m, hm⟩ := k1; exact DataW.trod_lt m _ _ _ hm
  obtain ⟨fuel1, hf1⟩ := h1
  obtain ⟨A1_, l1, c1_, hcs1, hle1, hcap1, hnil1, w1⟩ := rd_ints Try.underlying22 Try.underlying3 (by kernel_rfl) (by kernel_rfl) hf1 (weight_arg hsz (j := 1) (t := 22) rfl rfl)
  have hcs1_ : [Value.slice A1 n1 c1] = [.slice A1_ l1.length c1_] := hcs1
  simp only [List.cons.injEq, Value.slice.injEq, and_true] at hcs1_
  obtain ⟨rfl, rfl, rfl⟩ := hcs1_
  clear hcs1
  clear hA0 hval0
  refine (walk a0 A1 l1 c1 W w0 hle1 hcap1 hnil1 w1).mono fun e W' ⟨he, bel⟩ => ?_
  subst he
  exact ⟨_, rfl, _, _, _, [], _, [], hW', trodAll_mk1 (shut_bool Try.underlying4 _), (trodAll_cons_mk (shut_int Try.underlying3 w0) (trodAll_cons_mk (Below.trod laidOut (by kernel_rfl) (of_decide_eq_true (by kernel_rfl)) k1 bel lt1) trodAll_mk0)), rfl, bel.frame _, fun h => by cases h⟩

theorem over : Rows.packMakesRow.holds Try.pinned (OpenSpec.ofChange Rows.packMakesSpec) :=
  OpenClaim.holds_of_wide 3 Try.f3 rfl rfl rfl rfl rfl rfl rfl ⟨rfl, rfl, rfl, rfl, rfl⟩ rfl rfl rfl rfl rfl (by kernel_rfl) Try.func3 (by kernel_rfl)
    (of_decide_eq_true (by kernel_rfl)) (by unfold Func.isWrapper; first | (rw [if_pos (by decide +kernel)]; kernel_rfl) | (rw [if_neg (by decide +kernel)]; exact ⟨rfl, rfl⟩))
    (fun os started H enc _ => lifted os started H enc)

/-- THE STATEMENT. -/
theorem proved : Rows.PackMakesSaid := over
#print axioms proved
end Go.Proofs.Ytpehbagcbkpnnaa.packMakes
