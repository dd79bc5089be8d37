/-
  For every number kind and every list l: of the first 90 numbers, each brought into 1 to 1048576, Go's gam.Decode returns what Go's gam.Encode encoded, of gamma codes as of delta codes, and the encoding has as many bits as gam.Cost says of all of them together.
  No condition.
-/
import Derived.Test.YtelcnkmgdohigaaRows
import Derived.Test.YtelcnkmgdohigaaFrame
import Derived.Test.YtelcnkmgdohigaaGamKp
import Derived.Test.YtelcnkmgdohigaaKeep4
import Derived.WalkKit
import Derived.ProofKit
import Derived.OpenShut
import Derived.ChangeOld
import Derived.Below
import Derived.Carry
import Derived.SizedLaws
import Derived.Deep.RegionWith
import Derived.Deep.RegionHeld3
namespace Go.Proofs.Ytelcnkmgdohigaa.gamBack
open Go.ChangeShapes Go.WideShapes Go.ChangeAt Go.RowKit Words
set_option linter.unusedVariables false

theorem own : ownKnob Try.prog.godebug = none := by kernel_rfl
theorem laidOut : laidOutB Try.prog = true := by kernel_rfl
theorem cost5 : costOf 1 5 = 5 := by decide
theorem cost_five (W : World) : Calls Try.prog 15 #[.int .i64 1, .int .i64 5] W fun e w' => e = .returned (.tuple #[.int .i64 5, .int .i64 0]) ∧ W = w' := by
  have h := cost_good 1 5 W (.inl rfl) (by decide)
  rw [cost5] at h
  exact h


set_option maxHeartbeats 1000000 in
/-- The walk: the Go text returns true, and writes nothing that was there. -/
theorem walk (a0 : Int) (A1 : Option Addr) (l1 : List Int) (c1 : Nat) (w : World) (w0 : (Lit.int .i64 a0).wf = true) (hle1 : l1.length ≤ c1) (hcap1 : c1 * 8 ≤ 140737488351232) (hnil1 : A1 = none → c1 = 0) (w1 : Lies w w.heap.size A1 (l1.map (.int .i64)) ∧ ∀ z ∈ l1, (Lit.int .i64 z).wf = true) :
    Calls Try.prog 6 #[.int .i64 a0, .slice A1 l1.length c1] w fun e w' => e = .returned (.bool true) ∧ Below w.heap.size w w' := by
  have HKd := Lib.hid (kindOf_any a0 · w0)
  have hk : 1 + pick 2 a0 = 1 ∨ 1 + pick 2 a0 = 2 := by have := pick_lt (n := 2) (by decide) a0; omega
  generalize 1 + pick 2 a0 = k at *
  have HCo := Lib.hid (codable_keep A1 l1 c1 90 w (by decide) w1.2 w1.1)
  have hcd := codList_code 90 l1
  have hcl := codList_length 90 l1
  generalize codList 90 l1 = ns at *
  rw [asInts_map] at HCo
  have hC2 : ∀ A c W, (A = none → c = 0) → Lies W W.heap.size A ((asInts ns).map (.int .i64)) → Calls Try.prog 19 #[.slice A ns.length c] W (GivesSlice W ((asInts ns).map (.int .i64))) := fun A c W h1 h2 => by
    have := copied_any A (asInts ns) c W (by rw [asInts_length]; omega) h1 h2
    rw [asInts_length] at this
    exact this
  have HC2 := Lib.hid hC2
  have HEn := Lib.hid (fun A c W h => enc_good k ns A c W hk hcd (by omega) h)
  have HDe := Lib.hid (fun A c W h => dec_good k ns A c W hk hcd (by omega) h)
  have hS0 : ∀ A A2 c c2 W, Lies W W.heap.size A ((asInts ns).map (.int .i64)) → Lies W W.heap.size A2 ((asInts ns).map (.int .i64)) → Calls Try.prog 20 #[.slice A ns.length c, .slice A2 ns.length c2] W fun e w' => e = .returned (.bool true) ∧ Below W.heap.size W w' := fun A A2 c c2 W h1 h2 => by
    have := sameIntsK_eq A A2 (asInts ns) c c2 W (by rw [asInts_length]; omega) h1 h2
    rw [asInts_length] at this
    exact this
  have HSa := Lib.hid hS0
  have HC5 := Lib.hid cost_five
  have HCst := Lib.hid (fun n W h => cost_good k n W hk h)
  have HCd := Lib.hid hcd
  have HSum := Lib.hid (costTo_succ k ns)
  have hle := fun j => costTo_le k ns j hcd (by omega)
  have HLe := Lib.hid hle
  have HAll := Lib.hid (costTo_all k ns hcd)
  have hm4 := codes_fit (k := k) hcd (by omega)
  have hwl := rowOf_length (codes k ns)
  have hlm : ((asInts ns).map (Value.int .i64)).length = ns.length := by rw [List.length_map, asInts_length]
  have HLm := Lib.hid hlm
  clear hC2 hS0 hle hcd w1 w0 hnil1 hlm hk
  generalize rowOf (codes k ns) = ws at *
  generalize (codes k ns).length = m at *
  have hw64 : ws.length ≤ 64 := by omega
  clear hwl
  generalize hn : ns.length = n at *
  have HN := Lib.hid hn
  clear hn
  go_enter Try.func6, Try.ntmps6
  go_wp2_with fail
  refine (HKd.out _).mono ?_
  rintro e w' ⟨rfl, rfl⟩
  go_wp2_with fail
  refine HCo.out.mono ?_
  rintro e w1 ⟨A2, c2, rfl, hle1, hl1, hn1, _, hb1⟩
  rw [HLm.out]
  rw [HLm.out] at hle1
  have HL1 := Lib.hid hl1
  have HN1 := Lib.hid hn1
  clear hl1 hn1
  go_wp2_with fail
  refine (HC2.out A2 c2 _ HN1.out HL1.out).mono ?_
  rintro e w2 ⟨A3, c3, rfl, hle2, hl2, hn2, _, hb2⟩
  rw [HLm.out]
  have HL2 := Lib.hid hl2
  clear hl2 hn2 hle2
  go_wp2_with fail
  refine (HEn.out A3 c3 _ HL2.out).mono ?_
  rintro e w3 ⟨A4, c4, rfl, hW3, _, hb3⟩
  have HW3 := Lib.hid hW3
  clear hW3
  go_wp2_with fail
  refine (HDe.out A4 c4 _ (by exact HW3.out.alloc _)).mono ?_
  rintro e w4 ⟨A5, c5, rfl, hle5, hn5, hl5, hb4⟩
  rw [asInts_map] at hl5
  have hs4 := hb4.size
  simp only [World.alloc, Array.size_push] at hs4
  have hbox : Blk w4 w3.heap.size 25 [.int .i64 m, .slice A4 ws.length c4] := (Blk.new w3 25 [.int .i64 m, .slice A4 ws.length c4]).below hb4 (by simp)
  have q0 : w4.cell? ⟨w3.heap.size, 0, none⟩ = some (.int .i64 m) := hbox.cell 0
  have HL4 := Lib.hid (((HL1.out.on hb2).on hb3).alloc (.cells #[.int .i64 m, .slice A4 ws.length c4] 25))
  have HL4' := Lib.hid (HL4.out.on hb4)
  have HL5 := Lib.hid hl5
  have HB4 := Lib.hid (chain (chain (chain (chain hb1 hb2) hb3) (bnew w3 (.cells #[.int .i64 m, .slice A4 ws.length c4] 25))) hb4)
  have hz4 : w3.heap.size < w4.heap.size := by omega
  clear hb1 hb2 hb3 hb4 hl5 HL1 HL2 HW3 HL4 hs4 hle5 hn5 hbox HKd HCo HC2 HEn HDe
  generalize w3.heap.size = g at *
  simp only [HN.out]
  go_wp2_with fail
  go_loop [11, 12] (fun s i => ∃ j y : Nat, j ≤ n ∧ i = .int .i64 j ∧ s = .int .i64 y ∧ y = costTo k ns j) (fun _ i => n - (intOf i).toNat)
  case atStart => exact ⟨0, 0, Nat.zero_le _, rfl, rfl, rfl⟩
  case round =>
    obtain ⟨j, y, hj, rfl, rfl, hy⟩ := hrel
    have hyl := HLe.out j
    rw [← hy] at hyl
    have HY := Lib.hid hy
    clear hy
    by_cases hlt : j < n
    · obtain ⟨b, o, z, rfl, hb, hx, hc⟩ := HL4'.out.at_ (k := j) (by rw [asInts_length, HN.out]; exact hlt)
      obtain ⟨x, hx2, rfl⟩ : ∃ x, ns[j]? = some x ∧ z = (x : Int) := by
        unfold asInts at hx
        rw [List.getElem?_map] at hx
        cases hq : ns[j]? with
        | none => rw [hq] at hx; cases hx
        | some x => rw [hq] at hx; exact ⟨x, rfl, (Option.some.inj hx).symm⟩
      have hxc := HCd.out x (List.mem_of_getElem? hx2)
      have HC := Lib.hid (fun W => HCst.out x W hxc)
      have HS := Lib.hid (HSum.out j x hx2)
      have hcb := (costOf_bound k hxc.1 (by omega)).2
      clear hx hx2 hxc
      generalize costOf k x = cx at *
      go_wp2_with fail
      refine (HC.out _).mono ?_
      rintro e w' ⟨rfl, rfl⟩
      go_wp2
      go_round
      case rel => exact ⟨j + 1, _, by omega, by go_num, rfl, by rw [HS.out, ← HY.out]⟩
      case measure => simp [intOf]; omega
    · obtain rfl : j = n := by omega
      have hym : y = m := by rw [HY.out, ← HAll.out]
      subst hym
      have hyy : ((y : Int) == (y : Int)) = true := by simp
      go_wp2_with fail
      refine (HC5.out _).mono ?_
      rintro e w' ⟨rfl, rfl⟩
      go_wp2_with fail
      refine (HSa.out A5 A2 c5 c2 _ HL5.out HL4'.out).mono ?_
      rintro e w5 ⟨rfl, hb5⟩
      go_wp2
      go_ret
      exact ⟨rfl, chain HB4.out hb5⟩

set_option maxRecDepth 100000 in
theorem lifted (os : Os) (started : os.Started) (H : Type) (enc : TypeId × Value → H) :
    ReturnsInHanded {} Try.checked os 6 .any (Rows.gamBackSpec.pre6 enc Try.prog Try.f6 Rows.gamBackRow.domain false) (Rows.gamBackSpec.post enc Try.prog Try.f6 false true false false) := by
  refine returnsInHanded_of_change_sized (C := Try.checked) own started (by kernel_rfl) Try.func6
    (ChangeSpec.witness6 (enc := enc) (C := Try.checked) false ⟨#[], #[.int .i64 0, .slice none 0 0], []⟩ 8 (by kernel_rfl) (by kernel_rfl) (by kernel_rfl) (by kernel_rfl)) ?_
  intro W base args ds gs before hval0 hW hcnd hsz0 _
  have hval : ∀ (j : Nat) t v, Try.f6.params[j]? = some t → args[j]? = some v → Value.okWide Try.prog W .any base t v := hval0
  have hW' := hW
  obtain ⟨p, q, hA0, hV, rfl, hfz, hnd⟩ := hW
  have hA : DataW.TrodAll enc Try.prog W 0 (fun _ => true) true Try.f6.params.toList args.toList ds p := hA0
  have hsz : (DataW.weightsEach Try.prog (Try.f6.params.toList ++ Rows.gamBackSpec.plain.varTypes Try.prog) (ds ++ gs)).all (· ≤ reachBytes) = true := hsz0
  rw [Try.params6] at hA hval hsz
  obtain ⟨v0, vs0, d0, ds0, p0, q0, hargs, rfl, rfl, h0, r0⟩ := trodAll_cons hA
  obtain ⟨v1, vs1, d1, ds1, p1, q1, rfl, rfl, rfl, h1, r1⟩ := trodAll_cons r0
  obtain ⟨rfl, rfl, rfl⟩ := trodAll_nil r1
  obtain rfl : args = #[v0, v1] := by cases args; simp_all
  obtain ⟨rfl, rfl⟩ := trodVars_none hV
  obtain ⟨a0, rfl, rfl, rfl, w0⟩ := open_int Try.underlying3 (hval 0 3 v0 rfl rfl) h0
  obtain ⟨A1, n1, c1, rfl⟩ := okWide_slice Try.underlying22 (hval 1 22 v1 rfl rfl)
  have k1 := h1
  have lt1 : ∀ x ∈ p1, x.block < W.heap.size := by obtain ⟨m, hm⟩ := k1; exact DataW.trod_lt m _ _ _ hm
  obtain ⟨fuel1, hf1⟩ := h1
  obtain ⟨A1_, l1, c1_, hcs1, hle1, hcap1, hnil1, w1⟩ := rd_ints Try.underlying22 Try.underlying3 (by kernel_rfl) (by kernel_rfl) hf1 (weight_arg hsz (j := 1) (t := 22) rfl rfl)
  have hcs1_ : [Value.slice A1 n1 c1] = [.slice A1_ l1.length c1_] := hcs1
  simp only [List.cons.injEq, Value.slice.injEq, and_true] at hcs1_
  obtain ⟨rfl, rfl, rfl⟩ := hcs1_
  clear hcs1
  clear hA0 hval0
  refine (walk a0 A1 l1 c1 W w0 hle1 hcap1 hnil1 w1).mono fun e W' ⟨he, bel⟩ => ?_
  subst he
  exact ⟨_, rfl, _, _, _, [], _, [], hW', trodAll_mk1 (shut_bool Try.underlying4 _), (trodAll_cons_mk (shut_int Try.underlying3 w0) (trodAll_cons_mk (Below.trod laidOut (by kernel_rfl) (of_decide_eq_true (by kernel_rfl)) k1 bel lt1) trodAll_mk0)), rfl, bel.frame _, fun h => by cases h⟩

theorem over : Rows.gamBackRow.holds Try.pinned (OpenSpec.ofChange Rows.gamBackSpec) :=
  OpenClaim.holds_of_wide 6 Try.f6 rfl rfl rfl rfl rfl rfl rfl ⟨rfl, rfl, rfl, rfl, rfl⟩ rfl rfl rfl rfl rfl (by kernel_rfl) Try.func6 (by kernel_rfl)
    (of_decide_eq_true (by kernel_rfl)) (by unfold Func.isWrapper; first | (rw [if_pos (by decide +kernel)]; kernel_rfl) | (rw [if_neg (by decide +kernel)]; exact ⟨rfl, rfl⟩))
    (fun os started H enc _ => lifted os started H enc)

/-- THE STATEMENT. -/
theorem proved : Rows.GamBackSaid := over
#print axioms proved
end Go.Proofs.Ytelcnkmgdohigaa.gamBack
