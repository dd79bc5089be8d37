/-
  For every two lists l, m and every number size: of the two orders that they stand for, the swaps that Go's perm.Swaps counts are even for the one behind the other just if both are even or none is; and the swaps are even just if the numbers and the cycles of perm.Cycles differ by an even number.
  No condition.
-/
import Derived.Test.YtehmngecpipebaaRows
import Derived.Test.YtehmngecpipebaaFrame
import Derived.Test.YtehmngecpipebaaPermKp
import Derived.Test.YtehmngecpipebaaPermSw
import Derived.Test.YtehmngecpipebaaPermCs
import Derived.Test.YtehmngecpipebaaPermPr
import Derived.WalkKit
import Derived.ProofKit
import Derived.OpenShut
import Derived.ChangeOld
import Derived.Below
import Derived.Carry
import Derived.SizedLaws
import Derived.Deep.RegionWith
import Derived.Deep.RegionHeld3
namespace Go.Proofs.Ytehmngecpipebaa.permSign
open Go.ChangeShapes Go.WideShapes Go.ChangeAt Go.RowKit Words
set_option linter.unusedVariables false

theorem own : ownKnob Try.prog.godebug = none := by kernel_rfl
theorem laidOut : laidOutB Try.prog = true := by kernel_rfl

set_option maxRecDepth 100000 in
set_option maxHeartbeats 4000000 in
/-- The walk: the Go text returns true, and writes nothing that was there. -/
theorem walk (A0 : Option Addr) (l0 : List Int) (c0 : Nat) (A1 : Option Addr) (l1 : List Int) (c1 : Nat) (a2 : Int) (w : World) (hle0 : l0.length ≤ c0) (hcap0 : c0 * 8 ≤ 140737488351232) (hnil0 : A0 = none → c0 = 0) (w0 : Lies w w.heap.size A0 (l0.map (.int .i64)) ∧ ∀ z ∈ l0, (Lit.int .i64 z).wf = true) (hle1 : l1.length ≤ c1) (hcap1 : c1 * 8 ≤ 140737488351232) (hnil1 : A1 = none → c1 = 0) (w1 : Lies w w.heap.size A1 (l1.map (.int .i64)) ∧ ∀ z ∈ l1, (Lit.int .i64 z).wf = true) (w2 : (Lit.int .i64 a2).wf = true) :
    Calls Try.prog 12 #[.slice A0 l0.length c0, .slice A1 l1.length c1, .int .i64 a2] w fun e w' => e = .returned (.bool true) ∧ Below w.heap.size w w' := by
-- walk
  have hp1 := pick_lt (n := 40) (by decide) a2
  have HP1 := Lib.hid (pick_any a2 40 · (by decide) (by decide) w2)
  generalize pick 40 a2 = pk at *
  obtain ⟨n, hn⟩ : ∃ n, 1 + pk = n := ⟨_, rfl⟩
  have hk1 : (1 : Int) + (pk : Int) = (n : Int) := by omega
  have hn1 : 1 ≤ n := by omega
  have hn41 : n ≤ 41 := by omega
  clear hn
  have HS0 := Lib.hid (fun W (hW : Below w.heap.size w W) => shuffle_any A0 l0 c0 n W hn1 (by omega) (by omega) w0.2 (w0.1.on hW))
  have hP0 := shuf_perm l0 n
  have hl0 := shuf_length l0 n
  generalize shuf l0 n = P0 at *
  have HS1 := Lib.hid (fun W (hW : Below w.heap.size w W) => shuffle_any A1 l1 c1 n W hn1 (by omega) (by omega) w1.2 (w1.1.on hW))
  have hP1 := shuf_perm l1 n
  have hl1 := shuf_length l1 n
  generalize shuf l1 n = P1 at *
  have HCo := Lib.hid (fun A c W h hW => copied_nat A P0 n c W hl0 (by omega) h hW)
  have HCo1 := Lib.hid (fun A c W h hW => copied_nat A P1 n c W hl1 (by omega) h hW)
  have hP01 := thenL_perm hP0 hP1 (by omega)
  have hl01 : (thenL P0 P1).length = n := by rw [thenL_length, hl0]
  have HT01 := Lib.hid (fun A B c d W h1 h2 h3 h4 => thenK_any A B P0 P1 n c d W hP0 hP1 hl0 hl1 (by omega) h1 h2 h3 h4)
  have HSw0 := Lib.hid (fun A c W h hW => fun (hc : n ≤ c) => swaps_ok A P0 c W hP0 (by omega) (by omega) h hW)
  have HSw1 := Lib.hid (fun A c W h hW => fun (hc : n ≤ c) => swaps_ok A P1 c W hP1 (by omega) (by omega) h hW)
  have HSw2 := Lib.hid (fun A c W h hW => fun (hc : n ≤ c) => swaps_ok A (thenL P0 P1) c W hP01 (by omega) (by omega) h hW)
  have HSwt := Lib.hid (fun A W h hW => swaps_ok A [1, 0] 2 W ⟨by decide, by decide⟩ (by decide) (by decide) h hW)
  have HCy := Lib.hid (fun A c W hW => cycles_ok A P0 c W hP0 (by omega) hW)
  rw [hl0] at HSw0 HCy
  rw [hl1] at HSw1
  rw [hl01] at HSw2
  have m1 := swp_then hP0 hP1 (by omega)
  have m2 := swp_cycles n P0 hP0 hl0
  have m3 : mins P0 ≤ n := by
    have := cycsTo_length_le P0 P0.length
    rw [← cycs_length, ← hl0]
    exact this
  have HCl := Lib.hid (fun (rs : List Row) (h : rs.map Row.nums = (cycs P0).map ofN) => show rs.length = mins P0 by
    have := congrArg List.length h
    rw [List.length_map, List.length_map, cycs_length] at this
    exact this)
  have b0 := swp_small (p := P0) (by omega)
  have b1 := swp_small (p := P1) (by omega)
  have b2 := swp_small (p := thenL P0 P1) (by omega)
  have ht2 : swp [1, 0] = 1 := rfl
  rw [ht2] at HSwt
  generalize thenL P0 P1 = Q01 at *
  generalize swp P0 = x0 at *
  generalize swp P1 = x1 at *
  generalize swp Q01 = x2 at *
  generalize cycs P0 = Cy at *
  generalize mins P0 = k at *
  have t1 : ((x0 : Int) + (x1 : Int) + (x2 : Int)) % 2 = 0 := by omega
  have t2 : ((x0 : Int) + (n : Int) - (k : Int)) % 2 = 0 := by omega
  have t3 : 0 ≤ (x0 : Int) + (n : Int) - (k : Int) := by omega
  clear m1 m2 hP0 hP1 hP01 hl0 hl1 hl01 ht2 w0 w1 hnil0 hnil1
  unfold GivesCy at HCy
  go_enter Try.func12, Try.ntmps12
  go_wp2_with fail
  refine (HP1.out _).mono ?_
  rintro e w' ⟨rfl, rfl⟩
  go_wp2_with fail
  refine (HS0.out _ (Below.refl _ _)).mono ?_
  rintro e w_1 ⟨Ap, cp, rfl, hlep, hlp, hnp, _, hbp⟩
  have HNp := Lib.hid hnp
  have HB := Lib.hid hbp
  clear hbp
  have HLp := Lib.hid hlp
  clear hlp hnp
  go_wp2_with fail
  refine (HS1.out _ HB.out).mono ?_
  rintro e w_2 ⟨Aq, cq, rfl, hleq, hlq, hnq, _, hbq⟩
  have HNq := Lib.hid hnq
  replace HB := Lib.hid (chain HB.out hbq)
  replace HLp := Lib.hid (HLp.out.on hbq)
  clear hbq
  have HLq := Lib.hid hlq
  clear hlq hnq
  go_wp2_with fail
  refine (HCo.out Ap cp _ HNp.out HLp.out).mono ?_
  rintro e w_3 ⟨Aa, ca, rfl, hlea, hla, hna, _, hba⟩
  have HNa := Lib.hid hna
  replace HB := Lib.hid (chain HB.out hba)
  replace HLp := Lib.hid (HLp.out.on hba)
  replace HLq := Lib.hid (HLq.out.on hba)
  clear hba
  have HLa := Lib.hid hla
  clear hla hna
  go_wp2_with fail
  refine (HSw0.out Aa ca _ HNa.out HLa.out hlea).mono ?_
  rintro e w_4 ⟨rfl, hbs1⟩
  replace HB := Lib.hid (chain HB.out hbs1)
  replace HLp := Lib.hid (HLp.out.on hbs1)
  replace HLq := Lib.hid (HLq.out.on hbs1)
  replace HLa := Lib.hid (HLa.out.on hbs1)
  clear hbs1
  go_wp2_with fail
  refine (HCo1.out Aq cq _ HNq.out HLq.out).mono ?_
  rintro e w_5 ⟨Ab, cb, rfl, hleb, hlb, hnb, _, hbb⟩
  have HNb := Lib.hid hnb
  replace HB := Lib.hid (chain HB.out hbb)
  replace HLp := Lib.hid (HLp.out.on hbb)
  replace HLq := Lib.hid (HLq.out.on hbb)
  clear hbb
  have HLb := Lib.hid hlb
  clear hlb hnb
  go_wp2_with fail
  refine (HSw1.out Ab cb _ HNb.out HLb.out hleb).mono ?_
  rintro e w_6 ⟨rfl, hbs2⟩
  replace HB := Lib.hid (chain HB.out hbs2)
  replace HLp := Lib.hid (HLp.out.on hbs2)
  replace HLq := Lib.hid (HLq.out.on hbs2)
  replace HLb := Lib.hid (HLb.out.on hbs2)
  clear hbs2
  go_wp2_with fail
  refine (HT01.out Ap Aq cp cq _ HNp.out HNq.out HLp.out HLq.out).mono ?_
  rintro e w_7 ⟨Ac, cc, rfl, hlec, hlc, hnc, _, hbc⟩
  have HNc := Lib.hid hnc
  replace HB := Lib.hid (chain HB.out hbc)
  replace HLp := Lib.hid (HLp.out.on hbc)
  replace HLq := Lib.hid (HLq.out.on hbc)
  clear hbc
  have HLc := Lib.hid hlc
  clear hlc hnc
  go_wp2_with fail
  refine (HSw2.out Ac cc _ HNc.out HLc.out hlec).mono ?_
  rintro e w_8 ⟨rfl, hbs3⟩
  replace HB := Lib.hid (chain HB.out hbs3)
  replace HLp := Lib.hid (HLp.out.on hbs3)
  replace HLc := Lib.hid (HLc.out.on hbs3)
  clear hbs3
  go_wp2_with fail
  refine (HCo.out Ap cp _ HNp.out HLp.out).mono ?_
  rintro e w_9 ⟨Ad, cd, rfl, hled, hld, hnd, _, hbd⟩
  have HNd := Lib.hid hnd
  replace HB := Lib.hid (chain HB.out hbd)
  replace HLp := Lib.hid (HLp.out.on hbd)
  clear hbd
  have HLd := Lib.hid hld
  clear hld hnd
  go_wp2_with fail
  refine (HCy.out Ad cd _ HLd.out).mono ?_
  rintro e w_y ⟨Ay, rs, cy, rfl, hgy, hty, hny, hley, hby⟩
  have hrk := HCl.out rs hty
  clear hgy hty hny
  replace HB := Lib.hid (chain HB.out hby)
  clear hby
  rw [hrk]
  rw [hrk] at hley
  clear hrk
  go_wp2_with fail
  have hz := (Blk.new w_y 3 [.int .i64 1, .int .i64 0]).lies
  have hbz := bnew w_y (.cells #[.int .i64 1, .int .i64 0] 3)
  generalize w_y.alloc (.cells #[.int .i64 1, .int .i64 0] 3) = w_z at *
  replace HB := Lib.hid (chain HB.out hbz)
  clear hbz
  generalize w_y.heap.size = gz at *
  have HLz := Lib.hid (show Lies w_z w_z.heap.size (some ⟨gz, 0, none⟩) (natC [1, 0]) from hz)
  clear hz
  refine (HSwt.out (some ⟨gz, 0, none⟩) _ (fun e => by cases e) HLz.out).mono ?_
  rintro e w_t ⟨rfl, hbt⟩
  replace HB := Lib.hid (chain HB.out hbt)
  clear hbt
  go_wp2_with fail
  go_ret
  exact ⟨rfl, HB.out⟩

set_option maxRecDepth 100000 in
theorem lifted (os : Os) (started : os.Started) (H : Type) (enc : TypeId × Value → H) :
    ReturnsInHanded {} Try.checked os 12 .any (Rows.permSignSpec.pre6 enc Try.prog Try.f12 Rows.permSignRow.domain false) (Rows.permSignSpec.post enc Try.prog Try.f12 false true false false) := by
  refine returnsInHanded_of_change_sized (C := Try.checked) own started (by kernel_rfl) Try.func12
    (ChangeSpec.witness6 (enc := enc) (C := Try.checked) false ⟨#[], #[.slice none 0 0, .slice none 0 0, .int .i64 0], []⟩ 8 (by kernel_rfl) (by kernel_rfl) (by kernel_rfl) (by kernel_rfl)) ?_
  intro W base args ds gs before hval0 hW hcnd hsz0 _
  have hval : ∀ (j : Nat) t v, Try.f12.params[j]? = some t → args[j]? = some v → Value.okWide Try.prog W .any base t v := hval0
  have hW' := hW
  obtain ⟨p, q, hA0, hV, rfl, hfz, hnd⟩ := hW
  have hA : DataW.TrodAll enc Try.prog W 0 (fun _ => true) true Try.f12.params.toList args.toList ds p := hA0
  have hsz : (DataW.weightsEach Try.prog (Try.f12.params.toList ++ Rows.permSignSpec.plain.varTypes Try.prog) (ds ++ gs)).all (· ≤ reachBytes) = true := hsz0
  rw [Try.params12] at hA hval hsz
  obtain ⟨v0, vs0, d0, ds0, p0, q0, hargs, rfl, rfl, h0, r0⟩ := trodAll_cons hA
  obtain ⟨v1, vs1, d1, ds1, p1, q1, rfl, rfl, rfl, h1, r1⟩ := trodAll_cons r0
  obtain ⟨v2, vs2, d2, ds2, p2, q2, rfl, rfl, rfl, h2, r2⟩ := trodAll_cons r1
  obtain ⟨rfl, rfl, rfl⟩ := trodAll_nil r2
  obtain rfl : args = #[v0, v1, v2] := by cases args; simp_all
  obtain ⟨rfl, rfl⟩ := trodVars_none hV
  obtain ⟨A0, n0, c0, rfl⟩ := okWide_slice Try.underlying22 (hval 0 22 v0 rfl rfl)
  have k0 := h0
  have lt0 : ∀ x ∈ p0, x.block < W.heap.size := by obtain ⟨m, hm⟩ := k0; exact DataW.trod_lt m _ _ _ hm
  obtain ⟨fuel0, hf0⟩ := h0
  obtain ⟨A0_, l0, c0_, hcs0, hle0, hcap0, hnil0, w0⟩ := rd_ints Try.underlying22 Try.underlying3 (by kernel_rfl) (by kernel_rfl) hf0 (weight_arg hsz (j := 0) (t := 22) rfl rfl)
  have hcs0_ : [Value.slice A0 n0 c0] = [.slice A0_ l0.length c0_] := hcs0
  simp only [List.cons.injEq, Value.slice.injEq, and_true] at hcs0_
  obtain ⟨rfl, rfl, rfl⟩ := hcs0_
  clear hcs0
  obtain ⟨A1, n1, c1, rfl⟩ := okWide_slice Try.underlying22 (hval 1 22 v1 rfl rfl)
  have k1 := h1
  have lt1 : ∀ x ∈ p1, x.block < W.heap.size := by obtain ⟨m, hm⟩ := k1; exact DataW.trod_lt m _ _ _ hm
  obtain ⟨fuel1, hf1⟩ := h1
  obtain ⟨A1_, l1, c1_, hcs1, hle1, hcap1, hnil1, w1⟩ := rd_ints Try.underlying22 Try.underlying3 (by kernel_rfl) (by kernel_rfl) hf1 (weight_arg hsz (j := 1) (t := 22) rfl rfl)
  have hcs1_ : [Value.slice A1 n1 c1] = [.slice A1_ l1.length c1_] := hcs1
  simp only [List.cons.injEq, Value.slice.injEq, and_true] at hcs1_
  obtain ⟨rfl, rfl, rfl⟩ := hcs1_
  clear hcs1
  obtain ⟨a2, rfl, rfl, rfl, w2⟩ := open_int Try.underlying3 (hval 2 3 v2 rfl rfl) h2
  clear hA0 hval0
  refine (walk A0 l0 c0 A1 l1 c1 a2 W hle0 hcap0 hnil0 w0 hle1 hcap1 hnil1 w1 w2).mono fun e W' ⟨he, bel⟩ => ?_
  subst he
  exact ⟨_, rfl, _, _, _, [], _, [], hW', trodAll_mk1 (shut_bool Try.underlying4 _), (trodAll_cons_mk (Below.trod laidOut (by kernel_rfl) (of_decide_eq_true (by kernel_rfl)) k0 bel lt0) (trodAll_cons_mk (Below.trod laidOut (by kernel_rfl) (of_decide_eq_true (by kernel_rfl)) k1 bel lt1) (trodAll_cons_mk (shut_int Try.underlying3 w2) trodAll_mk0))), rfl, bel.frame _, fun h => by cases h⟩

theorem over : Rows.permSignRow.holds Try.pinned (OpenSpec.ofChange Rows.permSignSpec) :=
  OpenClaim.holds_of_wide 12 Try.f12 rfl rfl rfl rfl rfl rfl rfl ⟨rfl, rfl, rfl, rfl, rfl⟩ rfl rfl rfl rfl rfl (by kernel_rfl) Try.func12 (by kernel_rfl)
    (of_decide_eq_true (by kernel_rfl)) (by unfold Func.isWrapper; first | (rw [if_pos (by decide +kernel)]; kernel_rfl) | (rw [if_neg (by decide +kernel)]; exact ⟨rfl, rfl⟩))
    (fun os started H enc _ => lifted os started H enc)

/-- THE STATEMENT. -/
theorem proved : Rows.PermSignSaid := over
#print axioms proved
end Go.Proofs.Ytehmngecpipebaa.permSign
