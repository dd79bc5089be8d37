/-
  For every list l of bools: of the vector that Go's bits.Make makes of its first 200, every bit is returned by bits.At, bits.Rank counts the one bits before it, and bits.May holds.
  No condition.
-/
import Derived.Test.YtjaleldoipkbiaaRows
import Derived.Test.YtjaleldoipkbiaaFrame
import Derived.Test.YtjaleldoipkbiaaBitsAt
import Derived.Test.YtjaleldoipkbiaaKeep2
import Derived.WalkKit
import Derived.ProofKit
import Derived.OpenShut
import Derived.ChangeOld
import Derived.Below
import Derived.Carry
import Derived.SizedLaws
import Derived.Deep.RegionWith
import Derived.Deep.RegionHeld3
namespace Go.Proofs.Ytjaleldoipkbiaa.rowBack
open Go.ChangeShapes Go.WideShapes Go.ChangeAt Go.RowKit Words
set_option linter.unusedVariables false

theorem own : ownKnob Try.prog.godebug = none := by kernel_rfl
theorem laidOut : laidOutB Try.prog = true := by kernel_rfl

set_option maxHeartbeats 1000000 in
/-- The walk: the Go text returns true, and writes nothing that was there. -/
theorem walk (A0 : Option Addr) (l0 : List Bool) (c0 : Nat) (w : World) (hle0 : l0.length ≤ c0) (hcap0 : c0 ≤ 140737488351232) (hnil0 : A0 = none → c0 = 0) (w0 : Lies w w.heap.size A0 (l0.map .bool)) :
    Calls Try.prog 7 #[.slice A0 l0.length c0] w fun e w' => e = .returned (.bool true) ∧ Below w.heap.size w w' := by
  have HF := Lib.hid (flags_any A0 l0 c0 200 w hle0 hcap0 (by omega) hnil0 w0)
  have hfl : (l0.take 200).length ≤ 200 := by simp; omega
  generalize l0.take 200 = fs at *
  have hV := rowOf_valid fs (by omega)
  have hbits := rowOf_bit fs
  have hrl := rowOf_length fs
  have HR := Lib.hid (fun A c W h1 h2 => row_any A fs c W (by omega) h1 h2)
  generalize rowOf fs = ws at *
  have HM := Lib.hid (fun A c W (h : Words64 W W.heap.size A ws) => may_yes fs.length A ws c W hV h)
  have HA := Lib.hid (fun i A c W (h : Words64 W W.heap.size A ws) (hi : i < fs.length) => at_in fs.length i A ws c W hV h hi)
  have HK := Lib.hid (fun i A c W (h : Words64 W W.heap.size A ws) (hi : i ≤ fs.length) => brank_in fs.length i A ws c W hV h hi)
  have HB := Lib.hid (fun i (h : i < fs.length) => hbits i (by omega))
  clear hV hbits hrl w0 hnil0
  have hlm : (fs.map Value.bool).length = fs.length := by simp
  go_enter Try.func7, Try.ntmps7
  go_wp2_with fail
  refine HF.out.mono ?_
  rintro e w1 ⟨A1, c1, rfl, hle1, hl1, hn1, _, hb1⟩
  rw [hlm]
  rw [hlm] at hle1
  have HL1 := Lib.hid hl1
  have HN1 := Lib.hid hn1
  clear hl1 hn1 hlm
  go_wp2_with fail
  refine (HR.out A1 c1 _ HN1.out HL1.out).mono ?_
  rintro e w2 ⟨A2, c2, rfl, hW2, _, hb2⟩
  have HW2 := Lib.hid hW2
  clear hW2
  go_wp2_with fail
  refine (HM.out A2 c2 _ (by exact HW2.out.alloc _)).mono ?_
  rintro e w3 ⟨rfl, hb3⟩
  have hbox : Blk w3 w2.heap.size 25 [.int .i64 fs.length, .slice A2 ws.length c2] := (Blk.new w2 25 [.int .i64 fs.length, .slice A2 ws.length c2]).below hb3 (by simp)
  have HW3 := Lib.hid ((HW2.out.alloc _).on hb3)
  have HL3 := Lib.hid (((HL1.out.on hb2).alloc _).on hb3)
  have HB3 := Lib.hid (chain (chain (chain hb1 hb2) (bnew _ _)) hb3)
  clear hb1 hb2 hb3 HW2 HL1
  generalize w2.heap.size = g at *
  generalize hm : fs.length = m at *
  have HMM := Lib.hid hm
  clear hm
  go_wp2_with fail
  go_loopw [6, 7] (fun n i w' => ∃ j : Nat, j ≤ m ∧ i = .int .i64 j ∧ n = .int .i64 (tally (bit ws) j) ∧ Below w3.heap.size w3 w') (fun _ i _ => m - (intOf i).toNat)
  case atStart => exact ⟨0, Nat.zero_le _, rfl, rfl, Below.refl _ _⟩
  case round =>
    obtain ⟨j, hj, rfl, rfl, hbl⟩ := hrel
    have hbox4 := hbox.below hbl hbox.lt
    have hq0 : wr.cell? ⟨g, 0, none⟩ = some (.int .i64 m) := hbox4.cell 0
    have hq1 : wr.cell? ⟨g, 1, none⟩ = some (.slice A2 ws.length c2) := hbox4.cell 1
    have ht := tally_le (bit ws) j
    by_cases hlt : j < m
    · obtain ⟨b, o, x, rfl, hb, hx, hc⟩ := (HL3.out.on hbl).at_ (k := j) (by rw [HMM.out]; exact hlt)
      have hbit : bit ws j = x := by
        rw [HB.out j hlt, List.getD, hx]; rfl
      have HS := Lib.hid (tally_succ (bit ws) j)
      rw [hbit] at HS
      have HA1 := Lib.hid (fun W h => HA.out j A2 c2 W h hlt)
      rw [hbit] at HA1
      have HK1 := Lib.hid (fun W h => HK.out j A2 c2 W h (by omega))
      clear hx hbit
      generalize tally (bit ws) j = u at *
      go_wp2_with fail
      refine (HA1.out _ (by exact HW3.out.on hbl)).mono ?_
      rintro e w4 ⟨rfl, hb4⟩
      have hbl4 := chain hbl hb4
      have hbox5 := hbox.below hbl4 hbox.lt
      have hp0 : w4.cell? ⟨g, 0, none⟩ = some (.int .i64 m) := hbox5.cell 0
      have hp1 : w4.cell? ⟨g, 1, none⟩ = some (.slice A2 ws.length c2) := hbox5.cell 1
      go_wp2_with fail
      refine (HK1.out _ (by exact HW3.out.on hbl4)).mono ?_
      rintro e w5 ⟨rfl, hb5⟩
      have hc5 : w5.cell? ⟨b, o + j, none⟩ = some (.bool x) := (bcell hb5 b (o + j) (Nat.lt_of_lt_of_le hb hb4.size)).trans ((bcell hb4 b (o + j) hb).trans hc)
      have HB5 := Lib.hid (chain hbl4 hb5)
      clear hb4 hb5 hbl4 hbl hbox4 hbox5 hp0 hp1 hq0 hq1 hc
      have huu : ((u : Int) != (u : Int)) = false := by simp
      cases x
      all_goals
        go_wp2
        go_roundw
        case rel => exact ⟨j + 1, by omega, by go_num, by rw [HS.out]; go_num, HB5.out⟩
        case measure => simp [intOf]; omega
    · obtain rfl : j = m := by omega
      go_wp2_with fail
      refine (HK.out j A2 c2 _ (by exact HW3.out.on hbl) (Nat.le_refl _)).mono ?_
      rintro e w4 ⟨rfl, hb4⟩
      go_wp2
      go_ret
      exact ⟨rfl, chain (chain HB3.out hbl) hb4⟩

set_option maxRecDepth 100000 in
theorem lifted (os : Os) (started : os.Started) (H : Type) (enc : TypeId × Value → H) :
    ReturnsInHanded {} Try.checked os 7 .any (Rows.rowBackSpec.pre6 enc Try.prog Try.f7 Rows.rowBackRow.domain false) (Rows.rowBackSpec.post enc Try.prog Try.f7 false true false false) := by
  refine returnsInHanded_of_change_sized (C := Try.checked) own started (by kernel_rfl) Try.func7
    (ChangeSpec.witness6 (enc := enc) (C := Try.checked) false ⟨#[], #[.slice none 0 0], []⟩ 8 (by kernel_rfl) (by kernel_rfl) (by kernel_rfl) (by kernel_rfl)) ?_
  intro W base args ds gs before hval0 hW hcnd hsz0 _
  have hval : ∀ (j : Nat) t v, Try.f7.params[j]? = some t → args[j]? = some v → Value.okWide Try.prog W .any base t v := hval0
  have hW' := hW
  obtain ⟨p, q, hA0, hV, rfl, hfz, hnd⟩ := hW
  have hA : DataW.TrodAll enc Try.prog W 0 (fun _ => true) true Try.f7.params.toList args.toList ds p := hA0
  have hsz : (DataW.weightsEach Try.prog (Try.f7.params.toList ++ Rows.rowBackSpec.plain.varTypes Try.prog) (ds ++ gs)).all (· ≤ reachBytes) = true := hsz0
  rw [Try.params7] at hA hval hsz
  obtain ⟨v0, vs0, d0, ds0, p0, q0, hargs, rfl, rfl, h0, r0⟩ := trodAll_cons hA
  obtain ⟨rfl, rfl, rfl⟩ := trodAll_nil r0
  obtain rfl : args = #[v0] := by cases args; simp_all
  obtain ⟨rfl, rfl⟩ := trodVars_none hV
  obtain ⟨A0, n0, c0, rfl⟩ := okWide_slice Try.underlying22 (hval 0 22 v0 rfl rfl)
  have k0 := h0
  have lt0 : ∀ x ∈ p0, x.block < W.heap.size := by obtain ⟨m, hm⟩ := k0; exact DataW.trod_lt m _ _ _ hm
  obtain ⟨fuel0, hf0⟩ := h0
  obtain ⟨A0_, l0, c0_, hcs0, hle0, hcap0, hnil0, w0⟩ := rd_bools Try.underlying22 Try.underlying4 (by kernel_rfl) (by kernel_rfl) hf0 (weight_arg hsz (j := 0) (t := 22) rfl rfl)
  have hcs0_ : [Value.slice A0 n0 c0] = [.slice A0_ l0.length c0_] := hcs0
  simp only [List.cons.injEq, Value.slice.injEq, and_true] at hcs0_
  obtain ⟨rfl, rfl, rfl⟩ := hcs0_
  clear hcs0
  clear hA0 hval0
  refine (walk A0 l0 c0 W hle0 hcap0 hnil0 w0).mono fun e W' ⟨he, bel⟩ => ?_
  subst he
  exact ⟨_, rfl, _, _, _, [], _, [], hW', trodAll_mk1 (shut_bool Try.underlying4 _), (trodAll_cons_mk (Below.trod laidOut (by kernel_rfl) (of_decide_eq_true (by kernel_rfl)) k0 bel lt0) trodAll_mk0), rfl, bel.frame _, fun h => by cases h⟩

theorem over : Rows.rowBackRow.holds Try.pinned (OpenSpec.ofChange Rows.rowBackSpec) :=
  OpenClaim.holds_of_wide 7 Try.f7 rfl rfl rfl rfl rfl rfl rfl ⟨rfl, rfl, rfl, rfl, rfl⟩ rfl rfl rfl rfl rfl (by kernel_rfl) Try.func7 (by kernel_rfl)
    (of_decide_eq_true (by kernel_rfl)) (by unfold Func.isWrapper; first | (rw [if_pos (by decide +kernel)]; kernel_rfl) | (rw [if_neg (by decide +kernel)]; exact ⟨rfl, rfl⟩))
    (fun os started H enc _ => lifted os started H enc)

/-- THE STATEMENT. -/
theorem proved : Rows.RowBackSaid := over
#print axioms proved
end Go.Proofs.Ytjaleldoipkbiaa.rowBack
