/-
  For every list l of bools, Go's bits.Make(l) returns the vector or the error that the document's answer returns (P2.1).
  No condition.
-/
import Derived.Test.YtjaleldoipkbiaaRows
import Derived.Test.YtjaleldoipkbiaaFrame
import Derived.Test.YtjaleldoipkbiaaRefMk
import Derived.Test.YtjaleldoipkbiaaSame
import Derived.WalkKit
import Derived.ProofKit
import Derived.OpenShut
import Derived.ChangeOld
import Derived.Below
import Derived.Carry
import Derived.SizedLaws
import Derived.Deep.RegionWith
import Derived.Deep.RegionHeld3
namespace Go.Proofs.Ytjaleldoipkbiaa.bitsMakes
open Go.ChangeShapes Go.WideShapes Go.ChangeAt Go.RowKit Words
set_option linter.unusedVariables false

theorem own : ownKnob Try.prog.godebug = none := by kernel_rfl
theorem laidOut : laidOutB Try.prog = true := by kernel_rfl

set_option maxHeartbeats 1000000 in
/-- The walk: the Go text returns true, and writes nothing that was there. -/
theorem walk (A0 : Option Addr) (l0 : List Bool) (c0 : Nat) (w : World) (hle0 : l0.length ≤ c0) (hcap0 : c0 ≤ 140737488351232) (hnil0 : A0 = none → c0 = 0) (w0 : Lies w w.heap.size A0 (l0.map .bool)) :
    Calls Try.prog 3 #[.slice A0 l0.length c0] w fun e w' => e = .returned (.bool true) ∧ Below w.heap.size w w' := by
  by_cases h : 4096 < l0.length
  · have H1 := Lib.hid (fun W => make_size A0 l0.length c0 W h (by omega))
    have H2 := Lib.hid (fun W => rmake_size A0 l0.length c0 W h (by omega))
    have hS0 : ∀ W, Calls Try.prog 11 #[.agg #[.int .i64 0, .slice none 0 0], .agg #[.int .i64 0, .slice none 0 0]] W fun e w' => e = .returned (.bool true) ∧ Below W.heap.size W w' := fun W => sameRow_eq 0 none none [] 0 0 W (by simp) ⟨Lies.nil, by simp⟩ ⟨Lies.nil, by simp⟩
    have HS := Lib.hid hS0
    clear hS0
    clear w0 hnil0
    go_enter Try.func3, Try.ntmps3
    go_wp2_with fail
    refine (H1.out _).mono ?_
    rintro e w1 ⟨rfl, hb1⟩
    go_wp2_with fail
    refine (H2.out _).mono ?_
    rintro e w2 ⟨rfl, hb2⟩
    have hc2 := bcell hb2
    have hz2 : w1.heap.size < w2.heap.size := by have := hb2.size; simp at this; omega
    go_wp2_with fail
    refine (HS.out _).mono ?_
    rintro e w3 ⟨rfl, hb3⟩
    go_wp2
    go_ret
    exact ⟨rfl, chain (chain (chain (chain hb1 (bnew _ _)) hb2) (bnew _ _)) hb3⟩
  · have hle : l0.length ≤ 4096 := by omega
    have H1 := Lib.hid (fun W (h : Lies W W.heap.size A0 (l0.map .bool)) => make_any A0 l0 c0 W hle h)
    have H2 := Lib.hid (fun W (h : Lies W W.heap.size A0 (l0.map .bool)) => rmake_any A0 l0 c0 W hle h)
    have HS := Lib.hid (fun A A2 c c2 W h1 h2 => sameRow_eq l0.length A A2 (rowOf l0) c c2 W (by rw [rowOf_length]; omega) h1 h2)
    have HL := Lib.hid w0
    clear w0 hnil0 h
    go_enter Try.func3, Try.ntmps3
    go_wp2_with fail
    refine (H1.out _ HL.out).mono ?_
    rintro e w1 ⟨B1, k1, rfl, hW1, _, hb1⟩
    have HW1 := Lib.hid hW1
    clear hW1
    go_wp2_with fail
    refine (H2.out _ (by exact (HL.out.on hb1).alloc _)).mono ?_
    rintro e w2 ⟨B2, k2, rfl, hW2, _, hb2⟩
    have HW2 := Lib.hid hW2
    have hc2 := bcell hb2
    have hz2 : w1.heap.size < w2.heap.size := by have := hb2.size; simp at this; omega
    clear hW2
    go_wp2_with fail
    refine (HS.out B1 B2 k1 k2 _ ?_ ?_).mono ?_
    · exact ((HW1.out.alloc _).on hb2).alloc _
    · exact HW2.out.alloc _
    rintro e w3 ⟨rfl, hb3⟩
    go_wp2
    go_ret
    exact ⟨rfl, chain (chain (chain (chain hb1 (bnew _ _)) hb2) (bnew _ _)) hb3⟩

set_option maxRecDepth 100000 in
theorem lifted (os : Os) (started : os.Started) (H : Type) (enc : TypeId × Value → H) :
    ReturnsInHanded {} Try.checked os 3 .any (Rows.bitsMakesSpec.pre6 enc Try.prog Try.f3 Rows.bitsMakesRow.domain false) (Rows.bitsMakesSpec.post enc Try.prog Try.f3 false true false false) := by
  refine returnsInHanded_of_change_sized (C := Try.checked) own started (by kernel_rfl) Try.func3
    (ChangeSpec.witness6 (enc := enc) (C := Try.checked) false ⟨#[], #[.slice none 0 0], []⟩ 8 (by kernel_rfl) (by kernel_rfl) (by kernel_rfl) (by kernel_rfl)) ?_
  intro W base args ds gs before hval0 hW hcnd hsz0 _
  have hval : ∀ (j : Nat) t v, Try.f3.params[j]? = some t → args[j]? = some v → Value.okWide Try.prog W .any base t v := hval0
  have hW' := hW
  obtain ⟨p, q, hA0, hV, rfl, hfz, hnd⟩ := hW
  have hA : DataW.TrodAll enc Try.prog W 0 (fun _ => true) true Try.f3.params.toList args.toList ds p := hA0
  have hsz : (DataW.weightsEach Try.prog (Try.f3.params.toList ++ Rows.bitsMakesSpec.plain.varTypes Try.prog) (ds ++ gs)).all (· ≤ reachBytes) = true := hsz0
  rw [Try.params3] at hA hval hsz
  obtain ⟨v0, vs0, d0, ds0, p0, q0, hargs, rfl, rfl, h0, r0⟩ := trodAll_cons hA
  obtain ⟨rfl, rfl, rfl⟩ := trodAll_nil r0
  obtain rfl : args = #[v0] := by cases args; simp_all
  obtain ⟨rfl, rfl⟩ := trodVars_none hV
  obtain ⟨A0, n0, c0, rfl⟩ := okWide_slice Try.underlying22 (hval 0 22 v0 rfl rfl)
  have k0 := h0
  have lt0 : ∀ x ∈ p0, x.block < W.heap.size := by obtain ⟨m, hm⟩ := k0; exact DataW.trod_lt m _ _ _ hm
  obtain ⟨fuel0, hf0⟩ := h0
  obtain ⟨A0_, l0, c0_, hcs0, hle0, hcap0, hnil0, w0⟩ := rd_bools Try.underlying22 Try.underlying4 (by kernel_rfl) (by kernel_rfl) hf0 (weight_arg hsz (j := 0) (t := 22) rfl rfl)
  have hcs0_ : [Value.slice A0 n0 c0] = [.slice A0_ l0.length c0_] := hcs0
  simp only [List.cons.injEq, Value.slice.injEq, and_true] at hcs0_
  obtain ⟨rfl, rfl, rfl⟩ := hcs0_
  clear hcs0
  clear hA0 hval0
  refine (walk A0 l0 c0 W hle0 hcap0 hnil0 w0).mono fun e W' ⟨he, bel⟩ => ?_
  subst he
  exact ⟨_, rfl, _, _, _, [], _, [], hW', trodAll_mk1 (shut_bool Try.underlying4 _), (trodAll_cons_mk (Below.trod laidOut (by kernel_rfl) (of_decide_eq_true (by kernel_rfl)) k0 bel lt0) trodAll_mk0), rfl, bel.frame _, fun h => by cases h⟩

theorem over : Rows.bitsMakesRow.holds Try.pinned (OpenSpec.ofChange Rows.bitsMakesSpec) :=
  OpenClaim.holds_of_wide 3 Try.f3 rfl rfl rfl rfl rfl rfl rfl ⟨rfl, rfl, rfl, rfl, rfl⟩ rfl rfl rfl rfl rfl (by kernel_rfl) Try.func3 (by kernel_rfl)
    (of_decide_eq_true (by kernel_rfl)) (by unfold Func.isWrapper; first | (rw [if_pos (by decide +kernel)]; kernel_rfl) | (rw [if_neg (by decide +kernel)]; exact ⟨rfl, rfl⟩))
    (fun os started H enc _ => lifted os started H enc)

/-- THE STATEMENT. -/
theorem proved : Rows.BitsMakesSaid := over
#print axioms proved
end Go.Proofs.Ytjaleldoipkbiaa.bitsMakes
