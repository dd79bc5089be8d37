/-
  For every two lists of bools and every number: the rank in the vector of both lists' first 200, one behind the other, is the sum of the ranks in the vectors of the two, wherever the words' boundaries are.
  No condition.
-/
import Derived.Test.YtjaleldoipkbiaaRows
import Derived.Test.YtjaleldoipkbiaaFrame
import Derived.Test.YtjaleldoipkbiaaBitsAt
import Derived.Test.YtjaleldoipkbiaaKeep1
import Derived.Test.YtjaleldoipkbiaaKeep2
import Derived.WalkKit
import Derived.ProofKit
import Derived.OpenShut
import Derived.ChangeOld
import Derived.Below
import Derived.Carry
import Derived.SizedLaws
import Derived.Deep.RegionWith
import Derived.Deep.RegionHeld3
namespace Go.Proofs.Ytjaleldoipkbiaa.rowJoin
open Go.ChangeShapes Go.WideShapes Go.ChangeAt Go.RowKit Words
set_option linter.unusedVariables false

theorem own : ownKnob Try.prog.godebug = none := by kernel_rfl
theorem laidOut : laidOutB Try.prog = true := by kernel_rfl

set_option maxHeartbeats 1000000 in
/-- The walk: the Go text returns true, and writes nothing that was there. -/
theorem walk (A0 : Option Addr) (l0 : List Bool) (c0 : Nat) (A1 : Option Addr) (l1 : List Bool) (c1 : Nat) (a2 : Int) (w : World) (hle0 : l0.length ≤ c0) (hcap0 : c0 ≤ 140737488351232) (hnil0 : A0 = none → c0 = 0) (w0 : Lies w w.heap.size A0 (l0.map .bool)) (hle1 : l1.length ≤ c1) (hcap1 : c1 ≤ 140737488351232) (hnil1 : A1 = none → c1 = 0) (w1 : Lies w w.heap.size A1 (l1.map .bool)) (w2 : (Lit.int .i64 a2).wf = true) :
    Calls Try.prog 8 #[.slice A0 l0.length c0, .slice A1 l1.length c1, .int .i64 a2] w fun e w' => e = .returned (.bool true) ∧ Below w.heap.size w w' := by
  have HF := Lib.hid (flags_any A0 l0 c0 200 w hle0 hcap0 (by omega) hnil0 w0)
  have HF2 := Lib.hid (fun W h => flags_any A1 l1 c1 200 W hle1 hcap1 (by omega) hnil1 h)
  have hfl : (l0.take 200).length ≤ 200 := by simp; omega
  have hgl : (l1.take 200).length ≤ 200 := by simp; omega
  have HLm := Lib.hid w1
  generalize l0.take 200 = fs at *
  generalize l1.take 200 = gs at *
  have hjl : (fs ++ gs).length = fs.length + gs.length := by simp
  have HR1 := Lib.hid (fun A c W h1 h2 => row_any A fs c W (by omega) h1 h2)
  have HR2 := Lib.hid (fun A c W h1 h2 => row_any A gs c W (by omega) h1 h2)
  have HR3 := Lib.hid (fun A c W h1 h2 => row_any A (fs ++ gs) c W (by omega) h1 h2)
  rw [hjl] at HR3
  have hV1 := rowOf_valid fs (by omega)
  have hV2 := rowOf_valid gs (by omega)
  have hV3 := rowOf_valid (fs ++ gs) (by omega)
  rw [hjl] at hV3
  have HJ := Lib.hid (tally_join fs gs)
  have HO1 := Lib.hid (bools_one fs)
  have HO2 := Lib.hid (bools_one gs)
  have hl1 : (fs.map Value.bool).length = fs.length := by simp
  have hl2 : (gs.map Value.bool).length = gs.length := by simp
  have HJM := Lib.hid (show (fs ++ gs).map Value.bool = fs.map Value.bool ++ gs.map Value.bool by simp)
  obtain ⟨k, hk, hP⟩ := picked_all a2 (fs.length + gs.length + 1) (by omega) (by omega) w2
  simp only [Int.natCast_add, Int.natCast_one] at hP
  have HP := Lib.hid hP
  generalize rowOf fs = ws1 at *
  generalize rowOf gs = ws2 at *
  generalize rowOf (fs ++ gs) = ws3 at *
  have HK1 := Lib.hid (fun i A c W (h : Words64 W W.heap.size A ws1) (hi : i ≤ fs.length) => brank_in fs.length i A ws1 c W hV1 h hi)
  have HK2 := Lib.hid (fun i A c W (h : Words64 W W.heap.size A ws2) (hi : i ≤ gs.length) => brank_in gs.length i A ws2 c W hV2 h hi)
  have hK3 := fun i A c W (h : Words64 W W.heap.size A ws3) (hi : i ≤ fs.length + gs.length) => brank_in (fs.length + gs.length) i A ws3 c W hV3 h hi
  simp only [Int.natCast_add] at hK3
  have HK3 := Lib.hid hK3
  clear hK3
  clear hjl w0 w1 w2 hnil0 hnil1 hP hV1 hV2 hV3
  go_enter Try.func8, Try.ntmps8
  go_wp2_with fail
  refine HF.out.mono ?_
  rintro e w1 ⟨B1, d1, rfl, hle1, hli1, hn1, _, hb1⟩
  rw [hl1]
  rw [hl1] at hle1
  have HL1 := Lib.hid hli1
  have HN1 := Lib.hid hn1
  clear hli1 hn1
  go_wp2_with fail
  refine (HF2.out _ (by exact HLm.out.on hb1)).mono ?_
  rintro e w2 ⟨B2, d2, rfl, hle2, hli2, hn2, _, hb2⟩
  rw [hl2]
  rw [hl2] at hle2
  have HL2 := Lib.hid hli2
  have HN2 := Lib.hid hn2
  have HL1b := Lib.hid (HL1.out.on hb2)
  have HLen1 := Lib.hid hl1
  have HLen2 := Lib.hid hl2
  clear hli2 hn2 hl1 hl2
  go_wp2_with (at_builtin; refine append_from _ rfl (.const (.slice none 0 0)) (.tmp 27) 22 rfl w2.heap.size 4 (.bool false) 1 Try.underlying22 bool_info2 rfl (.slice none 0 0) 0 [] rfl (World.ownsRow_nil _ _ _ _) B1 fs.length d1 (fs.map .bool) rfl HLen1.out HN1.out HL1b.out HO1.out (by simp only [maxLen]; omega) (by omega) (Nat.le_refl _) ?_)
  intro v3 w3 hown3 hg3
  have hb3 : Below w2.heap.size w2 w3 := (Below.refl _ _).grown hg3 (Nat.le_refl _) (fun q hq => by cases hq)
  have HL2b := Lib.hid (HL2.out.on hb3)
  go_wp2_with (at_builtin; refine append_from _ rfl (.tmp 28) (.tmp 29) 22 rfl w2.heap.size 4 (.bool false) 1 Try.underlying22 bool_info2 rfl v3 fs.length _ rfl hown3 B2 gs.length d2 (gs.map .bool) rfl HLen2.out HN2.out HL2b.out HO2.out (by simp only [maxLen]; omega) (by omega) hb3.size ?_)
  intro v4 w4 hown4 hg4
  have hb4 : Below w2.heap.size w2 w4 := hb3.grown hg4 hb3.size (fun q hq => (hown3.lt q hq).1)
  obtain ⟨B4, d4, rfl, hle4, _, hli4, hn4, _⟩ := own_slice hown4
  have HL4 := Lib.hid hli4
  rw [← HJM.out] at HL4
  have HN4 := Lib.hid hn4
  have HL1c := Lib.hid (HL1b.out.on hb4)
  have HL2c := Lib.hid (HL2.out.on hb4)
  have HB4 := Lib.hid (chain (chain hb1 hb2) hb4)
  clear hown3 hown4 hg3 hg4 hb3 hb4 hb1 hb2 hli4 hn4 HL1 HL2 HL2b HL1b HLm
  go_wp2_with fail
  refine (HR1.out B1 d1 _ HN1.out HL1c.out).mono ?_
  rintro e w5 ⟨X1, k1, rfl, hW1, _, hb5⟩
  have HW1 := Lib.hid hW1
  clear hW1
  go_wp2_with fail
  refine (HR2.out B2 d2 _ HN2.out (by exact (HL2c.out.on hb5).alloc _)).mono ?_
  rintro e w6 ⟨X2, k2, rfl, hW2, _, hb6⟩
  have HW2 := Lib.hid hW2
  clear hW2
  go_wp2_with fail
  refine (HR3.out B4 d4 _ HN4.out (by exact (((HL4.out.on hb5).alloc _).on hb6).alloc _)).mono ?_
  rintro e w7 ⟨X3, k3, rfl, hW3, _, hb7⟩
  have hs6 : w5.heap.size < w6.heap.size := by have := hb6.size; simp at this; omega
  have hs7 : w6.heap.size < w7.heap.size := by have := hb7.size; simp at this; omega
  have hx1 : Blk w7 w5.heap.size 25 [.int .i64 fs.length, .slice X1 ws1.length k1] := (((Blk.new w5 25 [.int .i64 fs.length, .slice X1 ws1.length k1]).below hb6 (by simp)).alloc _).below hb7 (by simp; omega)
  have hx2 : Blk w7 w6.heap.size 25 [.int .i64 gs.length, .slice X2 ws2.length k2] := (Blk.new w6 25 [.int .i64 gs.length, .slice X2 ws2.length k2]).below hb7 (by simp)
  have HWa := Lib.hid ((((HW1.out.alloc (.cells #[.int .i64 fs.length, .slice X1 ws1.length k1] 25)).on hb6).alloc (.cells #[.int .i64 gs.length, .slice X2 ws2.length k2] 25)).on hb7)
  have HWb := Lib.hid ((HW2.out.alloc (.cells #[.int .i64 gs.length, .slice X2 ws2.length k2] 25)).on hb7)
  have HWc := Lib.hid hW3
  have HB7 := Lib.hid (chain (chain (chain (chain (chain HB4.out hb5) (bnew _ _)) hb6) (bnew _ _)) hb7)
  clear hb5 hb6 hb7 HW1 HW2 hW3 HB4 HL1c HL2c HL4
  go_wp2_with fail
  refine (HP.out _).mono ?_
  rintro e w8 ⟨rfl, rfl⟩
  have hy1 := hx1.alloc (.cells #[.int .i64 ((fs.length : Int) + (gs.length : Int)), .slice X3 ws3.length k3] 25)
  have hy2 := hx2.alloc (.cells #[.int .i64 ((fs.length : Int) + (gs.length : Int)), .slice X3 ws3.length k3] 25)
  have hy3 := Blk.new w7 25 [.int .i64 ((fs.length : Int) + (gs.length : Int)), .slice X3 ws3.length k3]
  have HZ := Lib.hid (And.intro (HWa.out.alloc (.cells #[.int .i64 ((fs.length : Int) + (gs.length : Int)), .slice X3 ws3.length k3] 25)) (And.intro (HWb.out.alloc (.cells #[.int .i64 ((fs.length : Int) + (gs.length : Int)), .slice X3 ws3.length k3] 25)) (And.intro (HWc.out.alloc (.cells #[.int .i64 ((fs.length : Int) + (gs.length : Int)), .slice X3 ws3.length k3] 25)) (chain HB7.out (bnew w7 (.cells #[.int .i64 ((fs.length : Int) + (gs.length : Int)), .slice X3 ws3.length k3] 25))))))
  clear hx1 hx2 HWa HWb HWc HB7
  generalize w7.alloc (.cells #[.int .i64 ((fs.length : Int) + (gs.length : Int)), .slice X3 ws3.length k3] 25) = w8 at *
  have r10 : w8.cell? ⟨w5.heap.size, 0, none⟩ = some (.int .i64 fs.length) := hy1.cell 0
  have r11 : w8.cell? ⟨w5.heap.size, 1, none⟩ = some (.slice X1 ws1.length k1) := hy1.cell 1
  have HJk := Lib.hid (HJ.out k (by omega))
  have hta := tally_le (bit ws1) (min k fs.length)
  have htb := tally_le (bit ws2) (k - fs.length)
  have htc := tally_le (bit ws3) k
  have K1 := Lib.hid (fun W h => HK1.out (min k fs.length) X1 k1 W h (by omega))
  have K2 := Lib.hid (fun W h => HK2.out (k - fs.length) X2 k2 W h (by omega))
  have K3 := Lib.hid (fun W h => HK3.out k X3 k3 W h (by omega))
  have hsum : (((tally (bit ws1) (min k fs.length) : Nat) : Int) + ((tally (bit ws2) (k - fs.length) : Nat) : Int) == ((tally (bit ws3) k : Nat) : Int)) = true := by
    rw [← HJk.out]; simp
  generalize tally (bit ws1) (min k fs.length) = u1 at *
  generalize tally (bit ws2) (k - fs.length) = u2 at *
  generalize tally (bit ws3) k = u3 at *
  clear HJ HJk
  have hcase : k ≤ fs.length ∨ fs.length < k := by omega
  rcases hcase with hc | hc
  all_goals
    have e1 : ((min k fs.length : Nat) : Int) = (if k ≤ fs.length then (k : Int) else (fs.length : Int)) := by split <;> omega
    have e2 : ((k - fs.length : Nat) : Int) = (if k ≤ fs.length then 0 else (k : Int) - (fs.length : Int)) := by split <;> omega
    rw [e1] at K1
    rw [e2] at K2
    clear e1 e2
    first | rw [if_pos hc] at K1 K2 | rw [if_neg (by omega)] at K1 K2
    go_wp2_with fail
    refine (K1.out _ HZ.out.1).mono ?_
    rintro e w9 ⟨rfl, hb9⟩
    have r20 : w9.cell? ⟨w6.heap.size, 0, none⟩ = some (.int .i64 gs.length) := (hy2.below hb9 hy2.lt).cell 0
    have r21 : w9.cell? ⟨w6.heap.size, 1, none⟩ = some (.slice X2 ws2.length k2) := (hy2.below hb9 hy2.lt).cell 1
    go_wp2_with fail
    refine (K2.out _ (by exact HZ.out.2.1.on hb9)).mono ?_
    rintro e w10 ⟨rfl, hb10⟩
    have hb910 := chain hb9 hb10
    have r30 : w10.cell? ⟨w7.heap.size, 0, none⟩ = some (.int .i64 ((fs.length : Int) + (gs.length : Int))) := (hy3.below hb910 hy3.lt).cell 0
    have r31 : w10.cell? ⟨w7.heap.size, 1, none⟩ = some (.slice X3 ws3.length k3) := (hy3.below hb910 hy3.lt).cell 1
    go_wp2_with fail
    refine (K3.out _ (by exact HZ.out.2.2.1.on hb910)).mono ?_
    rintro e w11 ⟨rfl, hb11⟩
    go_wp2
    go_ret
    exact ⟨rfl, chain (chain HZ.out.2.2.2 hb910) hb11⟩

set_option maxRecDepth 100000 in
theorem lifted (os : Os) (started : os.Started) (H : Type) (enc : TypeId × Value → H) :
    ReturnsInHanded {} Try.checked os 8 .any (Rows.rowJoinSpec.pre6 enc Try.prog Try.f8 Rows.rowJoinRow.domain false) (Rows.rowJoinSpec.post enc Try.prog Try.f8 false true false false) := by
  refine returnsInHanded_of_change_sized (C := Try.checked) own started (by kernel_rfl) Try.func8
    (ChangeSpec.witness6 (enc := enc) (C := Try.checked) false ⟨#[], #[.slice none 0 0, .slice none 0 0, .int .i64 0], []⟩ 8 (by kernel_rfl) (by kernel_rfl) (by kernel_rfl) (by kernel_rfl)) ?_
  intro W base args ds gs before hval0 hW hcnd hsz0 _
  have hval : ∀ (j : Nat) t v, Try.f8.params[j]? = some t → args[j]? = some v → Value.okWide Try.prog W .any base t v := hval0
  have hW' := hW
  obtain ⟨p, q, hA0, hV, rfl, hfz, hnd⟩ := hW
  have hA : DataW.TrodAll enc Try.prog W 0 (fun _ => true) true Try.f8.params.toList args.toList ds p := hA0
  have hsz : (DataW.weightsEach Try.prog (Try.f8.params.toList ++ Rows.rowJoinSpec.plain.varTypes Try.prog) (ds ++ gs)).all (· ≤ reachBytes) = true := hsz0
  rw [Try.params8] at hA hval hsz
  obtain ⟨v0, vs0, d0, ds0, p0, q0, hargs, rfl, rfl, h0, r0⟩ := trodAll_cons hA
  obtain ⟨v1, vs1, d1, ds1, p1, q1, rfl, rfl, rfl, h1, r1⟩ := trodAll_cons r0
  obtain ⟨v2, vs2, d2, ds2, p2, q2, rfl, rfl, rfl, h2, r2⟩ := trodAll_cons r1
  obtain ⟨rfl, rfl, rfl⟩ := trodAll_nil r2
  obtain rfl : args = #[v0, v1, v2] := by cases args; simp_all
  obtain ⟨rfl, rfl⟩ := trodVars_none hV
  obtain ⟨A0, n0, c0, rfl⟩ := okWide_slice Try.underlying22 (hval 0 22 v0 rfl rfl)
  have k0 := h0
  have lt0 : ∀ x ∈ p0, x.block < W.heap.size := by obtain ⟨m, hm⟩ := k0; exact DataW.trod_lt m _ _ _ hm
  obtain ⟨fuel0, hf0⟩ := h0
  obtain ⟨A0_, l0, c0_, hcs0, hle0, hcap0, hnil0, w0⟩ := rd_bools Try.underlying22 Try.underlying4 (by kernel_rfl) (by kernel_rfl) hf0 (weight_arg hsz (j := 0) (t := 22) rfl rfl)
  have hcs0_ : [Value.slice A0 n0 c0] = [.slice A0_ l0.length c0_] := hcs0
  simp only [List.cons.injEq, Value.slice.injEq, and_true] at hcs0_
  obtain ⟨rfl, rfl, rfl⟩ := hcs0_
  clear hcs0
  obtain ⟨A1, n1, c1, rfl⟩ := okWide_slice Try.underlying22 (hval 1 22 v1 rfl rfl)
  have k1 := h1
  have lt1 : ∀ x ∈ p1, x.block < W.heap.size := by obtain ⟨m, hm⟩ := k1; exact DataW.trod_lt m _ _ _ hm
  obtain ⟨fuel1, hf1⟩ := h1
  obtain ⟨A1_, l1, c1_, hcs1, hle1, hcap1, hnil1, w1⟩ := rd_bools Try.underlying22 Try.underlying4 (by kernel_rfl) (by kernel_rfl) hf1 (weight_arg hsz (j := 1) (t := 22) rfl rfl)
  have hcs1_ : [Value.slice A1 n1 c1] = [.slice A1_ l1.length c1_] := hcs1
  simp only [List.cons.injEq, Value.slice.injEq, and_true] at hcs1_
  obtain ⟨rfl, rfl, rfl⟩ := hcs1_
  clear hcs1
  obtain ⟨a2, rfl, rfl, rfl, w2⟩ := open_int Try.underlying3 (hval 2 3 v2 rfl rfl) h2
  clear hA0 hval0
  refine (walk A0 l0 c0 A1 l1 c1 a2 W hle0 hcap0 hnil0 w0 hle1 hcap1 hnil1 w1 w2).mono fun e W' ⟨he, bel⟩ => ?_
  subst he
  exact ⟨_, rfl, _, _, _, [], _, [], hW', trodAll_mk1 (shut_bool Try.underlying4 _), (trodAll_cons_mk (Below.trod laidOut (by kernel_rfl) (of_decide_eq_true (by kernel_rfl)) k0 bel lt0) (trodAll_cons_mk (Below.trod laidOut (by kernel_rfl) (of_decide_eq_true (by kernel_rfl)) k1 bel lt1) (trodAll_cons_mk (shut_int Try.underlying3 w2) trodAll_mk0))), rfl, bel.frame _, fun h => by cases h⟩

theorem over : Rows.rowJoinRow.holds Try.pinned (OpenSpec.ofChange Rows.rowJoinSpec) :=
  OpenClaim.holds_of_wide 8 Try.f8 rfl rfl rfl rfl rfl rfl rfl ⟨rfl, rfl, rfl, rfl, rfl⟩ rfl rfl rfl rfl rfl (by kernel_rfl) Try.func8 (by kernel_rfl)
    (of_decide_eq_true (by kernel_rfl)) (by unfold Func.isWrapper; first | (rw [if_pos (by decide +kernel)]; kernel_rfl) | (rw [if_neg (by decide +kernel)]; exact ⟨rfl, rfl⟩))
    (fun os started H enc _ => lifted os started H enc)

/-- THE STATEMENT. -/
theorem proved : Rows.RowJoinSaid := over
#print axioms proved
end Go.Proofs.Ytjaleldoipkbiaa.rowJoin
