/-
  For every list l of numbers, Go's rmq.Make(l) returns the sparse table or the error that the document's answer returns (P6.1).
  No condition.
-/
import Derived.Test.YtfijlcaiklhpiaaRows
import Derived.Test.YtfijlcaiklhpiaaFrame
import Derived.Test.YtfijlcaiklhpiaaRmqTab
import Derived.WalkKit
import Derived.ProofKit
import Derived.OpenShut
import Derived.ChangeOld
import Derived.Below
import Derived.Carry
import Derived.SizedLaws
import Derived.Deep.RegionWith
import Derived.Deep.RegionHeld3
namespace Go.Proofs.Ytfijlcaiklhpiaa.rmqMakes
open Go.ChangeShapes Go.WideShapes Go.ChangeAt Go.RowKit Words
set_option linter.unusedVariables false

theorem own : ownKnob Try.prog.godebug = none := by kernel_rfl
theorem laidOut : laidOutB Try.prog = true := by kernel_rfl

set_option maxHeartbeats 1000000 in
/-- The walk: the Go text returns true, and writes nothing that was there. -/
theorem walk (A0 : Option Addr) (l0 : List Int) (c0 : Nat) (w : World) (hle0 : l0.length ≤ c0) (hcap0 : c0 * 8 ≤ 140737488351232) (hnil0 : A0 = none → c0 = 0) (w0 : Lies w w.heap.size A0 (l0.map (.int .i64)) ∧ ∀ z ∈ l0, (Lit.int .i64 z).wf = true) :
    Calls Try.prog 3 #[.slice A0 l0.length c0] w fun e w' => e = .returned (.bool true) ∧ Below w.heap.size w w' := by
-- walk
  by_cases hn : 300 < l0.length
  · have H1 := Lib.hid (fun W => rmake_size A0 l0.length c0 W hn (by omega))
    have H2 := Lib.hid (fun W => rrmake_size A0 l0.length c0 W hn (by omega))
    clear w0 hnil0 hle0 hcap0
    generalize l0.length = n at *
    go_enter Try.func3, Try.ntmps3
    go_wp2_with fail
    refine (H1.out _).mono ?_
    rintro e w1 ⟨rfl, hb1⟩
    go_wp2_with fail
    refine (H2.out _).mono ?_
    rintro e w2 ⟨rfl, hb2⟩
    go_wp2_with fail
    go_loopw [7] (fun v w' => v = .int .i64 0 ∧ w' = w2) (fun v _ => 0)
    case atStart => exact ⟨rfl, rfl⟩
    case round =>
      obtain ⟨rfl, rfl⟩ := hrel
      go_wp2_with fail
      go_ret
      exact ⟨rfl, chain hb1 hb2⟩
  have H1 := Lib.hid (fun W hL => rmake_any A0 l0 c0 W (by omega) hL)
  have H2 := Lib.hid (fun W hL => rrmake_any A0 l0 c0 W (by omega) hL)
  have HL := Lib.hid w0.1
  have HTL := Lib.hid (show ∀ rs, tabOf rs = sparse l0 → rs.length = (sparse l0).length from fun rs h => by rw [← h, tabOf_length])
  have hms : (sparse l0).length ≤ 9 := by
    unfold sparse
    rw [List.length_map, List.length_range]
    exact lev_small l0.length _ (by omega) (Nat.le_refl _)
  have HRL := Lib.hid (show ∀ r ∈ sparse l0, r.length ≤ 300 from fun r hr => by
    obtain ⟨k, _, rfl⟩ := List.mem_map.1 hr
    rw [asInts_length, spR_length]
    have := Nat.two_pow_pos k
    omega)
  clear w0 hnil0 hle0 hcap0 hn
  generalize sparse l0 = T at *
  generalize l0.length = n at *
  go_enter Try.func3, Try.ntmps3
  go_wp2_with fail
  refine (H1.out _ HL.out).mono ?_
  rintro e w1 ⟨B1, rs1, k1, rfl, hG1, hT1, _, hb1⟩
  have HG1 := Lib.hid hG1
  have hm1 := HTL.out rs1 hT1
  have HT1 := Lib.hid hT1
  clear hG1 hT1
  rw [hm1]
  go_wp2_with fail
  refine (H2.out _ (HL.out.on hb1)).mono ?_
  rintro e w2 ⟨B2, rs2, k2, rfl, hG2, hT2, _, hb2⟩
  have HG2 := Lib.hid hG2
  have hm2 := HTL.out rs2 hT2
  have HT2 := Lib.hid hT2
  have HG1b := Lib.hid (HG1.out.on hb2)
  clear hG2 hT2
  rw [hm2]
  have HM1 := Lib.hid hm1
  have HM2 := Lib.hid hm2
  clear hm1 hm2
  generalize T.length = m at *
  have hne : ((m : Int) != (m : Int)) = false := by simp
  go_wp2_with fail
  go_loopw [7] (fun v w' => ∃ i d : Nat, i ≤ m ∧ v = .int .i64 i ∧ w' = w2.drewN d) (fun v _ => m - (intOf v).toNat)
  case atStart => exact ⟨0, 0, Nat.zero_le _, rfl, rfl⟩
  case round =>
    obtain ⟨i, d, hi, rfl, rfl⟩ := hrel
    by_cases hlt : i < m
    · obtain ⟨b, o, x, rfl, hb, hx, hc, hL⟩ := HG1b.out.at_ (k := i) (by rw [HM1.out]; exact hlt)
      obtain ⟨b2, o2, x2, rfl, hb2', hx2, hc2, hL2⟩ := HG2.out.at_ (k := i) (by rw [HM2.out]; exact hlt)
      have g1 := tabOf_get rs1 i x hx
      have g2 := tabOf_get rs2 i x2 hx2
      rw [HT1.out] at g1
      rw [HT2.out] at g2
      have hxx : x.nums = x2.nums := Option.some.inj (g1.symm.trans g2)
      have hxl := HRL.out _ (List.mem_of_getElem? g1)
      rw [← hxx] at hL2 hc2
      have HS := Lib.hid (fun q => sameIntsL_drew x.adr x2.adr x.nums x.cap x2.cap (w2.drewN q) (by omega) (hL.drewN q) (hL2.drewN q))
      clear g1 g2 hxx hx hx2 hL hL2
      generalize x.nums.length = q at *
      have him : (i : Int) < (m : Int) := by omega
      go_wp2_with fail
      go_quiet ((go_at_call 11; exact quietD2 HS))
      go_wp2_with fail
      go_roundw
      case rel => exact ⟨i + 1, _, by omega, by go_num, by first | rfl | (simp only [World.drewN_drewN]; rfl)⟩
      case measure => simp [intOf]; omega
    · go_wp2_with fail
      go_ret
      exact ⟨rfl, chain hb1 (bdN hb2 _)⟩

set_option maxRecDepth 100000 in
theorem lifted (os : Os) (started : os.Started) (H : Type) (enc : TypeId × Value → H) :
    ReturnsInHanded {} Try.checked os 3 .any (Rows.rmqMakesSpec.pre6 enc Try.prog Try.f3 Rows.rmqMakesRow.domain false) (Rows.rmqMakesSpec.post enc Try.prog Try.f3 false true false false) := by
  refine returnsInHanded_of_change_sized (C := Try.checked) own started (by kernel_rfl) Try.func3
    (ChangeSpec.witness6 (enc := enc) (C := Try.checked) false ⟨#[], #[.slice none 0 0], []⟩ 8 (by kernel_rfl) (by kernel_rfl) (by kernel_rfl) (by kernel_rfl)) ?_
  intro W base args ds gs before hval0 hW hcnd hsz0 _
  have hval : ∀ (j : Nat) t v, Try.f3.params[j]? = some t → args[j]? = some v → Value.okWide Try.prog W .any base t v := hval0
  have hW' := hW
  obtain ⟨p, q, hA0, hV, rfl, hfz, hnd⟩ := hW
  have hA : DataW.TrodAll enc Try.prog W 0 (fun _ => true) true Try.f3.params.toList args.toList ds p := hA0
  have hsz : (DataW.weightsEach Try.prog (Try.f3.params.toList ++ Rows.rmqMakesSpec.plain.varTypes Try.prog) (ds ++ gs)).all (· ≤ reachBytes) = true := hsz0
  rw [Try.params3] at hA hval hsz
  obtain ⟨v0, vs0, d0, ds0, p0, q0, hargs, rfl, rfl, h0, r0⟩ := trodAll_cons hA
  obtain ⟨rfl, rfl, rfl⟩ := trodAll_nil r0
  obtain rfl : args = #[v0] := by cases args; simp_all
  obtain ⟨rfl, rfl⟩ := trodVars_none hV
  obtain ⟨A0, n0, c0, rfl⟩ := okWide_slice Try.underlying22 (hval 0 22 v0 rfl rfl)
  have k0 := h0
  have lt0 : ∀ x ∈ p0, x.block < W.heap.size := by obtain ⟨m, hm⟩ := k0; exact DataW.trod_lt m _ _ _ hm
  obtain ⟨fuel0, hf0⟩ := h0
  obtain ⟨A0_, l0, c0_, hcs0, hle0, hcap0, hnil0, w0⟩ := rd_ints Try.underlying22 Try.underlying3 (by kernel_rfl) (by kernel_rfl) hf0 (weight_arg hsz (j := 0) (t := 22) rfl rfl)
  have hcs0_ : [Value.slice A0 n0 c0] = [.slice A0_ l0.length c0_] := hcs0
  simp only [List.cons.injEq, Value.slice.injEq, and_true] at hcs0_
  obtain ⟨rfl, rfl, rfl⟩ := hcs0_
  clear hcs0
  clear hA0 hval0
  refine (walk A0 l0 c0 W hle0 hcap0 hnil0 w0).mono fun e W' ⟨he, bel⟩ => ?_
  subst he
  exact ⟨_, rfl, _, _, _, [], _, [], hW', trodAll_mk1 (shut_bool Try.underlying4 _), (trodAll_cons_mk (Below.trod laidOut (by kernel_rfl) (of_decide_eq_true (by kernel_rfl)) k0 bel lt0) trodAll_mk0), rfl, bel.frame _, fun h => by cases h⟩

theorem over : Rows.rmqMakesRow.holds Try.pinned (OpenSpec.ofChange Rows.rmqMakesSpec) :=
  OpenClaim.holds_of_wide 3 Try.f3 rfl rfl rfl rfl rfl rfl rfl ⟨rfl, rfl, rfl, rfl, rfl⟩ rfl rfl rfl rfl rfl (by kernel_rfl) Try.func3 (by kernel_rfl)
    (of_decide_eq_true (by kernel_rfl)) (by unfold Func.isWrapper; first | (rw [if_pos (by decide +kernel)]; kernel_rfl) | (rw [if_neg (by decide +kernel)]; exact ⟨rfl, rfl⟩))
    (fun os started H enc _ => lifted os started H enc)

/-- THE STATEMENT. -/
theorem proved : Rows.RmqMakesSaid := over
#print axioms proved
end Go.Proofs.Ytfijlcaiklhpiaa.rmqMakes
