/-
  For every three lists l, m, o and every number size: of the three orders that they stand for, Go's perm.Then is associative, and perm.Inverse composed with the order on either side is the order that changes nothing, which composed with an order is that order.
  No condition.
-/
import Derived.Test.YtehmngecpipebaaRows
import Derived.Test.YtehmngecpipebaaFrame
import Derived.Test.YtehmngecpipebaaPermKp
import Derived.WalkKit
import Derived.ProofKit
import Derived.OpenShut
import Derived.ChangeOld
import Derived.Below
import Derived.Carry
import Derived.SizedLaws
import Derived.Deep.RegionWith
import Derived.Deep.RegionHeld3
namespace Go.Proofs.Ytehmngecpipebaa.permGroup
open Go.ChangeShapes Go.WideShapes Go.ChangeAt Go.RowKit Words
set_option linter.unusedVariables false

theorem own : ownKnob Try.prog.godebug = none := by kernel_rfl
theorem laidOut : laidOutB Try.prog = true := by kernel_rfl

set_option maxRecDepth 100000 in
set_option maxHeartbeats 4000000 in
/-- The walk: the Go text returns true, and writes nothing that was there. -/
theorem walk (A0 : Option Addr) (l0 : List Int) (c0 : Nat) (A1 : Option Addr) (l1 : List Int) (c1 : Nat) (A2 : Option Addr) (l2 : List Int) (c2 : Nat) (a3 : Int) (w : World) (hle0 : l0.length ≤ c0) (hcap0 : c0 * 8 ≤ 140737488351232) (hnil0 : A0 = none → c0 = 0) (w0 : Lies w w.heap.size A0 (l0.map (.int .i64)) ∧ ∀ z ∈ l0, (Lit.int .i64 z).wf = true) (hle1 : l1.length ≤ c1) (hcap1 : c1 * 8 ≤ 140737488351232) (hnil1 : A1 = none → c1 = 0) (w1 : Lies w w.heap.size A1 (l1.map (.int .i64)) ∧ ∀ z ∈ l1, (Lit.int .i64 z).wf = true) (hle2 : l2.length ≤ c2) (hcap2 : c2 * 8 ≤ 140737488351232) (hnil2 : A2 = none → c2 = 0) (w2 : Lies w w.heap.size A2 (l2.map (.int .i64)) ∧ ∀ z ∈ l2, (Lit.int .i64 z).wf = true) (w3 : (Lit.int .i64 a3).wf = true) :
    Calls Try.prog 11 #[.slice A0 l0.length c0, .slice A1 l1.length c1, .slice A2 l2.length c2, .int .i64 a3] w fun e w' => e = .returned (.bool true) ∧ Below w.heap.size w w' := by
-- walk
  have hp1 := pick_lt (n := 40) (by decide) a3
  have HP1 := Lib.hid (pick_any a3 40 · (by decide) (by decide) w3)
  generalize pick 40 a3 = pk at *
  obtain ⟨n, hn⟩ : ∃ n, 1 + pk = n := ⟨_, rfl⟩
  have hk1 : (1 : Int) + (pk : Int) = (n : Int) := by omega
  have hn1 : 1 ≤ n := by omega
  have hn41 : n ≤ 41 := by omega
  clear hn
  have HS0 := Lib.hid (fun W (hW : Below w.heap.size w W) => shuffle_any A0 l0 c0 n W hn1 (by omega) (by omega) w0.2 (w0.1.on hW))
  have hP0 := shuf_perm l0 n
  have hl0 := shuf_length l0 n
  generalize shuf l0 n = P0 at *
  have HS1 := Lib.hid (fun W (hW : Below w.heap.size w W) => shuffle_any A1 l1 c1 n W hn1 (by omega) (by omega) w1.2 (w1.1.on hW))
  have hP1 := shuf_perm l1 n
  have hl1 := shuf_length l1 n
  generalize shuf l1 n = P1 at *
  have HS2 := Lib.hid (fun W (hW : Below w.heap.size w W) => shuffle_any A2 l2 c2 n W hn1 (by omega) (by omega) w2.2 (w2.1.on hW))
  have hP2 := shuf_perm l2 n
  have hl2 := shuf_length l2 n
  generalize shuf l2 n = P2 at *
  have HSn := Lib.hid (fun g W (hW : Lies W W.heap.size (some ⟨g, 0, none⟩) ((List.replicate n (0 : Int)).map (.int .i64))) => shuffle_any (some ⟨g, 0, none⟩) (List.replicate n 0) n n W hn1 (by omega) (by simp; omega) (fun z hz => by rw [List.eq_of_mem_replicate hz]; decide) hW)
  rw [shuf_none, List.length_replicate] at HSn
  have hmk := make_row (P := Try.prog) 22 3 (.int .i64 0) 8 Try.underlying22 pint_info rfl n (by omega) (by omega)
  have hPi := invL_perm hP0
  have hli : (invL P0).length = n := by rw [invL_length, hl0]
  have HCo := Lib.hid (fun A c W h hW => copied_nat A P0 n c W hl0 (by omega) h hW)
  have HInv := Lib.hid (fun A c W hW => inverse_ok A P0 c W hP0 (by omega) hW)
  rw [hl0] at HInv
  have e1 := then_inv hP0
  have e2 := inv_then hP0
  have e3 := none_then P0
  have e4 : thenL (thenL P0 P1) P2 = thenL P0 (thenL P1 P2) := then_assoc fun x hx => by rw [hl1, ← hl0]; exact hP0.lt x hx
  rw [hl0] at e1 e2 e3
  have hP01 := thenL_perm hP0 hP1 (by omega)
  have hP12 := thenL_perm hP1 hP2 (by omega)
  have hl01 : (thenL P0 P1).length = n := by rw [thenL_length, hl0]
  have hl12 : (thenL P1 P2).length = n := by rw [thenL_length, hl1]
  have hlA : (thenL P0 (thenL P1 P2)).length = n := by rw [thenL_length, hl0]
  have HT01 := Lib.hid (fun A B c d W h1 h2 h3 h4 => thenK_any A B P0 P1 n c d W hP0 hP1 hl0 hl1 (by omega) h1 h2 h3 h4)
  have HTa := Lib.hid (fun A B c d W h1 h2 h3 h4 => thenK_any A B (thenL P0 P1) P2 n c d W hP01 hP2 hl01 hl2 (by omega) h1 h2 h3 h4)
  rw [e4] at HTa
  have HT12 := Lib.hid (fun A B c d W h1 h2 h3 h4 => thenK_any A B P1 P2 n c d W hP1 hP2 hl1 hl2 (by omega) h1 h2 h3 h4)
  have HTb := Lib.hid (fun A B c d W h1 h2 h3 h4 => thenK_any A B P0 (thenL P1 P2) n c d W hP0 hP12 hl0 hl12 (by omega) h1 h2 h3 h4)
  have HTi := Lib.hid (fun A B c d W h1 h2 h3 h4 => thenK_any A B P0 (invL P0) n c d W hP0 hPi hl0 hli (by omega) h1 h2 h3 h4)
  rw [e1] at HTi
  have HTj := Lib.hid (fun A B c d W h1 h2 h3 h4 => thenK_any A B (invL P0) P0 n c d W hPi hP0 hli hl0 (by omega) h1 h2 h3 h4)
  rw [e2] at HTj
  have HTn := Lib.hid (fun A B c d W h1 h2 h3 h4 => thenK_any A B (List.range n) P0 n c d W (PermL.range n) hP0 (by simp) hl0 (by omega) h1 h2 h3 h4)
  rw [e3] at HTn
  have HSa := Lib.hid (fun A B c d W h1 h2 => sameK_nat A B (thenL P0 (thenL P1 P2)) n c d W hlA (by omega) h1 h2)
  have HSr := Lib.hid (fun A B c d W h1 h2 => sameK_nat A B (List.range n) n c d W (by simp) (by omega) h1 h2)
  have HSp := Lib.hid (fun A B c d W h1 h2 => sameK_nat A B P0 n c d W hl0 (by omega) h1 h2)
  have hnn : ((n : Int) == (n : Int)) = true := by simp
  generalize thenL P0 (thenL P1 P2) = Qa at *
  generalize thenL P0 P1 = Q01 at *
  generalize thenL P1 P2 = Q12 at *
  generalize invL P0 = Qi at *
  generalize hRn : List.range n = Rn at *
  clear e1 e2 e3 e4 hP0 hP1 hP2 hPi hP01 hP12 hl0 hl1 hl2 hli hl01 hl12 hlA hRn w0 w1 w2 hnil0 hnil1 hnil2
  go_enter Try.func11, Try.ntmps11
  go_wp2_with fail
  refine (HP1.out _).mono ?_
  rintro e w' ⟨rfl, rfl⟩
  go_wp2_with fail
  refine (HS0.out _ (Below.refl _ _)).mono ?_
  rintro e w_1 ⟨Ap, cp, rfl, hlep, hlp, hnp, _, hbp⟩
  have HNp := Lib.hid hnp
  have HB := Lib.hid hbp
  clear hbp
  have HLp := Lib.hid hlp
  clear hlp hnp
  go_wp2_with fail
  refine (HS1.out _ HB.out).mono ?_
  rintro e w_2 ⟨Aq, cq, rfl, hleq, hlq, hnq, _, hbq⟩
  have HNq := Lib.hid hnq
  replace HB := Lib.hid (chain HB.out hbq)
  replace HLp := Lib.hid (HLp.out.on hbq)
  clear hbq
  have HLq := Lib.hid hlq
  clear hlq hnq
  go_wp2_with fail
  refine (HS2.out _ HB.out).mono ?_
  rintro e w_3 ⟨Ar, cr, rfl, hler, hlr, hnr, _, hbr⟩
  have HNr := Lib.hid hnr
  replace HB := Lib.hid (chain HB.out hbr)
  replace HLp := Lib.hid (HLp.out.on hbr)
  replace HLq := Lib.hid (HLq.out.on hbr)
  clear hbr
  have HLr := Lib.hid hlr
  clear hlr hnr
  go_wp2_with fail
  have hz := (zeros_blk w_3 (.int .i64 0) n 3).lies
  have hbz := bnew w_3 (.cells (zeros (.int .i64 0) n) 3)
  generalize w_3.alloc (.cells (zeros (.int .i64 0) n) 3) = w_z at *
  replace HB := Lib.hid (chain HB.out hbz)
  replace HLp := Lib.hid (HLp.out.on hbz)
  replace HLq := Lib.hid (HLq.out.on hbz)
  replace HLr := Lib.hid (HLr.out.on hbz)
  clear hbz
  generalize w_3.heap.size = gz at *
  have HLz := Lib.hid (show Lies w_z w_z.heap.size (some ⟨gz, 0, none⟩) ((List.replicate n (0 : Int)).map (.int .i64)) by rw [List.map_replicate]; exact hz)
  clear hz
  clear hmk
  refine (HSn.out gz _ HLz.out).mono ?_
  rintro e w_4 ⟨An, cn, rfl, hlen, hln, hnn0, _, hbn⟩
  have HNn := Lib.hid hnn0
  replace HB := Lib.hid (chain HB.out hbn)
  replace HLp := Lib.hid (HLp.out.on hbn)
  replace HLq := Lib.hid (HLq.out.on hbn)
  replace HLr := Lib.hid (HLr.out.on hbn)
  clear hbn
  have HLn := Lib.hid hln
  clear hln hnn0 HLz
  go_wp2_with fail
  refine (HCo.out Ap cp _ HNp.out HLp.out).mono ?_
  rintro e w_5 ⟨Ak, ck, rfl, hlek, hlk, hnk, _, hbk⟩
  have HNk := Lib.hid hnk
  replace HB := Lib.hid (chain HB.out hbk)
  replace HLp := Lib.hid (HLp.out.on hbk)
  replace HLq := Lib.hid (HLq.out.on hbk)
  replace HLr := Lib.hid (HLr.out.on hbk)
  replace HLn := Lib.hid (HLn.out.on hbk)
  clear hbk
  have HLk := Lib.hid hlk
  clear hlk hnk
  go_wp2_with fail
  refine (HInv.out Ak ck _ HLk.out).mono ?_
  rintro e w_6 ⟨Ai, ci, rfl, hlei, hli, hni, _, hbi⟩
  have HNi := Lib.hid hni
  replace HB := Lib.hid (chain HB.out hbi)
  replace HLp := Lib.hid (HLp.out.on hbi)
  replace HLq := Lib.hid (HLq.out.on hbi)
  replace HLr := Lib.hid (HLr.out.on hbi)
  replace HLn := Lib.hid (HLn.out.on hbi)
  replace HLk := Lib.hid (HLk.out.on hbi)
  clear hbi
  have HLi := Lib.hid hli
  clear hli hni
  go_wp2_with fail
  refine (HT01.out Ap Aq cp cq _ HNp.out HNq.out HLp.out HLq.out).mono ?_
  rintro e w_7 ⟨Aa, ca, rfl, hlea, hla, hna, _, hba⟩
  have HNa := Lib.hid hna
  replace HB := Lib.hid (chain HB.out hba)
  replace HLp := Lib.hid (HLp.out.on hba)
  replace HLq := Lib.hid (HLq.out.on hba)
  replace HLr := Lib.hid (HLr.out.on hba)
  replace HLn := Lib.hid (HLn.out.on hba)
  replace HLi := Lib.hid (HLi.out.on hba)
  clear hba
  have HLa := Lib.hid hla
  clear hla hna
  go_wp2_with fail
  refine (HTa.out Aa Ar ca cr _ HNa.out HNr.out HLa.out HLr.out).mono ?_
  rintro e w_8 ⟨Ab, cb, rfl, hleb, hlb, hnb, _, hbb⟩
  have HNb := Lib.hid hnb
  replace HB := Lib.hid (chain HB.out hbb)
  replace HLp := Lib.hid (HLp.out.on hbb)
  replace HLq := Lib.hid (HLq.out.on hbb)
  replace HLr := Lib.hid (HLr.out.on hbb)
  replace HLn := Lib.hid (HLn.out.on hbb)
  replace HLi := Lib.hid (HLi.out.on hbb)
  replace HLa := Lib.hid (HLa.out.on hbb)
  clear hbb
  have HLb := Lib.hid hlb
  clear hlb hnb
  go_wp2_with fail
  refine (HT12.out Aq Ar cq cr _ HNq.out HNr.out HLq.out HLr.out).mono ?_
  rintro e w_9 ⟨Ac, cc, rfl, hlec, hlc, hnc, _, hbc⟩
  have HNc := Lib.hid hnc
  replace HB := Lib.hid (chain HB.out hbc)
  replace HLp := Lib.hid (HLp.out.on hbc)
  replace HLq := Lib.hid (HLq.out.on hbc)
  replace HLr := Lib.hid (HLr.out.on hbc)
  replace HLn := Lib.hid (HLn.out.on hbc)
  replace HLi := Lib.hid (HLi.out.on hbc)
  replace HLb := Lib.hid (HLb.out.on hbc)
  clear hbc
  have HLc := Lib.hid hlc
  clear hlc hnc
  go_wp2_with fail
  refine (HTb.out Ap Ac cp cc _ HNp.out HNc.out HLp.out HLc.out).mono ?_
  rintro e w_10 ⟨Ad, cd, rfl, hled, hld, hnd, _, hbd⟩
  have HNd := Lib.hid hnd
  replace HB := Lib.hid (chain HB.out hbd)
  replace HLp := Lib.hid (HLp.out.on hbd)
  replace HLn := Lib.hid (HLn.out.on hbd)
  replace HLi := Lib.hid (HLi.out.on hbd)
  replace HLb := Lib.hid (HLb.out.on hbd)
  replace HLc := Lib.hid (HLc.out.on hbd)
  clear hbd
  have HLd := Lib.hid hld
  clear hld hnd
  go_wp2_with fail
  refine (HSa.out Ab Ad cb cd _ HLb.out HLd.out).mono ?_
  rintro e w_11 ⟨rfl, hbs1⟩
  replace HB := Lib.hid (chain HB.out hbs1)
  replace HLp := Lib.hid (HLp.out.on hbs1)
  replace HLn := Lib.hid (HLn.out.on hbs1)
  replace HLi := Lib.hid (HLi.out.on hbs1)
  replace HLb := Lib.hid (HLb.out.on hbs1)
  replace HLd := Lib.hid (HLd.out.on hbs1)
  clear hbs1
  go_wp2_with fail
  refine (HTi.out Ap Ai cp ci _ HNp.out HNi.out HLp.out HLi.out).mono ?_
  rintro e w_12 ⟨Af, cf, rfl, hlef, hlf, hnf, _, hbf⟩
  have HNf := Lib.hid hnf
  replace HB := Lib.hid (chain HB.out hbf)
  replace HLp := Lib.hid (HLp.out.on hbf)
  replace HLn := Lib.hid (HLn.out.on hbf)
  replace HLi := Lib.hid (HLi.out.on hbf)
  clear hbf
  have HLf := Lib.hid hlf
  clear hlf hnf
  go_wp2_with fail
  refine (HSr.out Af An cf cn _ HLf.out HLn.out).mono ?_
  rintro e w_13 ⟨rfl, hbs2⟩
  replace HB := Lib.hid (chain HB.out hbs2)
  replace HLp := Lib.hid (HLp.out.on hbs2)
  replace HLn := Lib.hid (HLn.out.on hbs2)
  replace HLi := Lib.hid (HLi.out.on hbs2)
  replace HLf := Lib.hid (HLf.out.on hbs2)
  clear hbs2
  go_wp2_with fail
  refine (HTj.out Ai Ap ci cp _ HNi.out HNp.out HLi.out HLp.out).mono ?_
  rintro e w_14 ⟨Ah, ch, rfl, hleh, hlh, hnh, _, hbh⟩
  have HNh := Lib.hid hnh
  replace HB := Lib.hid (chain HB.out hbh)
  replace HLp := Lib.hid (HLp.out.on hbh)
  replace HLn := Lib.hid (HLn.out.on hbh)
  replace HLi := Lib.hid (HLi.out.on hbh)
  clear hbh
  have HLh := Lib.hid hlh
  clear hlh hnh
  go_wp2_with fail
  refine (HSr.out Ah An ch cn _ HLh.out HLn.out).mono ?_
  rintro e w_15 ⟨rfl, hbs3⟩
  replace HB := Lib.hid (chain HB.out hbs3)
  replace HLp := Lib.hid (HLp.out.on hbs3)
  replace HLn := Lib.hid (HLn.out.on hbs3)
  replace HLi := Lib.hid (HLi.out.on hbs3)
  replace HLh := Lib.hid (HLh.out.on hbs3)
  clear hbs3
  go_wp2_with fail
  refine (HTn.out An Ap cn cp _ HNn.out HNp.out HLn.out HLp.out).mono ?_
  rintro e w_16 ⟨Aj, cj, rfl, hlej, hlj, hnj, _, hbj⟩
  have HNj := Lib.hid hnj
  replace HB := Lib.hid (chain HB.out hbj)
  replace HLp := Lib.hid (HLp.out.on hbj)
  replace HLn := Lib.hid (HLn.out.on hbj)
  clear hbj
  have HLj := Lib.hid hlj
  clear hlj hnj
  go_wp2_with fail
  refine (HSp.out Aj Ap cj cp _ HLj.out HLp.out).mono ?_
  rintro e w_17 ⟨rfl, hbs4⟩
  replace HB := Lib.hid (chain HB.out hbs4)
  replace HLp := Lib.hid (HLp.out.on hbs4)
  replace HLn := Lib.hid (HLn.out.on hbs4)
  replace HLj := Lib.hid (HLj.out.on hbs4)
  clear hbs4
  go_wp2_with fail
  go_ret
  exact ⟨rfl, HB.out⟩

set_option maxRecDepth 100000 in
theorem lifted (os : Os) (started : os.Started) (H : Type) (enc : TypeId × Value → H) :
    ReturnsInHanded {} Try.checked os 11 .any (Rows.permGroupSpec.pre6 enc Try.prog Try.f11 Rows.permGroupRow.domain false) (Rows.permGroupSpec.post enc Try.prog Try.f11 false true false false) := by
  refine returnsInHanded_of_change_sized (C := Try.checked) own started (by kernel_rfl) Try.func11
    (ChangeSpec.witness6 (enc := enc) (C := Try.checked) false ⟨#[], #[.slice none 0 0, .slice none 0 0, .slice none 0 0, .int .i64 0], []⟩ 8 (by kernel_rfl) (by kernel_rfl) (by kernel_rfl) (by kernel_rfl)) ?_
  intro W base args ds gs before hval0 hW hcnd hsz0 _
  have hval : ∀ (j : Nat) t v, Try.f11.params[j]? = some t → args[j]? = some v → Value.okWide Try.prog W .any base t v := hval0
  have hW' := hW
  obtain ⟨p, q, hA0, hV, rfl, hfz, hnd⟩ := hW
  have hA : DataW.TrodAll enc Try.prog W 0 (fun _ => true) true Try.f11.params.toList args.toList ds p := hA0
  have hsz : (DataW.weightsEach Try.prog (Try.f11.params.toList ++ Rows.permGroupSpec.plain.varTypes Try.prog) (ds ++ gs)).all (· ≤ reachBytes) = true := hsz0
  rw [Try.params11] at hA hval hsz
  obtain ⟨v0, vs0, d0, ds0, p0, q0, hargs, rfl, rfl, h0, r0⟩ := trodAll_cons hA
  obtain ⟨v1, vs1, d1, ds1, p1, q1, rfl, rfl, rfl, h1, r1⟩ := trodAll_cons r0
  obtain ⟨v2, vs2, d2, ds2, p2, q2, rfl, rfl, rfl, h2, r2⟩ := trodAll_cons r1
  obtain ⟨v3, vs3, d3, ds3, p3, q3, rfl, rfl, rfl, h3, r3⟩ := trodAll_cons r2
  obtain ⟨rfl, rfl, rfl⟩ := trodAll_nil r3
  obtain rfl : args = #[v0, v1, v2, v3] := by cases args; simp_all
  obtain ⟨rfl, rfl⟩ := trodVars_none hV
  obtain ⟨A0, n0, c0, rfl⟩ := okWide_slice Try.underlying22 (hval 0 22 v0 rfl rfl)
  have k0 := h0
  have lt0 : ∀ x ∈ p0, x.block < W.heap.size := by obtain ⟨m, hm⟩ := k0; exact DataW.trod_lt m _ _ _ hm
  obtain ⟨fuel0, hf0⟩ := h0
  obtain ⟨A0_, l0, c0_, hcs0, hle0, hcap0, hnil0, w0⟩ := rd_ints Try.underlying22 Try.underlying3 (by kernel_rfl) (by kernel_rfl) hf0 (weight_arg hsz (j := 0) (t := 22) rfl rfl)
  have hcs0_ : [Value.slice A0 n0 c0] = [.slice A0_ l0.length c0_] := hcs0
  simp only [List.cons.injEq, Value.slice.injEq, and_true] at hcs0_
  obtain ⟨rfl, rfl, rfl⟩ := hcs0_
  clear hcs0
  obtain ⟨A1, n1, c1, rfl⟩ := okWide_slice Try.underlying22 (hval 1 22 v1 rfl rfl)
  have k1 := h1
  have lt1 : ∀ x ∈ p1, x.block < W.heap.size := by obtain ⟨m, hm⟩ := k1; exact DataW.trod_lt m _ _ _ hm
  obtain ⟨fuel1, hf1⟩ := h1
  obtain ⟨A1_, l1, c1_, hcs1, hle1, hcap1, hnil1, w1⟩ := rd_ints Try.underlying22 Try.underlying3 (by kernel_rfl) (by kernel_rfl) hf1 (weight_arg hsz (j := 1) (t := 22) rfl rfl)
  have hcs1_ : [Value.slice A1 n1 c1] = [.slice A1_ l1.length c1_] := hcs1
  simp only [List.cons.injEq, Value.slice.injEq, and_true] at hcs1_
  obtain ⟨rfl, rfl, rfl⟩ := hcs1_
  clear hcs1
  obtain ⟨A2, n2, c2, rfl⟩ := okWide_slice Try.underlying22 (hval 2 22 v2 rfl rfl)
  have k2 := h2
  have lt2 : ∀ x ∈ p2, x.block < W.heap.size := by obtain ⟨m, hm⟩ := k2; exact DataW.trod_lt m _ _ _ hm
  obtain ⟨fuel2, hf2⟩ := h2
  obtain ⟨A2_, l2, c2_, hcs2, hle2, hcap2, hnil2, w2⟩ := rd_ints Try.underlying22 Try.underlying3 (by kernel_rfl) (by kernel_rfl) hf2 (weight_arg hsz (j := 2) (t := 22) rfl rfl)
  have hcs2_ : [Value.slice A2 n2 c2] = [.slice A2_ l2.length c2_] := hcs2
  simp only [List.cons.injEq, Value.slice.injEq, and_true] at hcs2_
  obtain ⟨rfl, rfl, rfl⟩ := hcs2_
  clear hcs2
  obtain ⟨a3, rfl, rfl, rfl, w3⟩ := open_int Try.underlying3 (hval 3 3 v3 rfl rfl) h3
  clear hA0 hval0
  refine (walk A0 l0 c0 A1 l1 c1 A2 l2 c2 a3 W hle0 hcap0 hnil0 w0 hle1 hcap1 hnil1 w1 hle2 hcap2 hnil2 w2 w3).mono fun e W' ⟨he, bel⟩ => ?_
  subst he
  exact ⟨_, rfl, _, _, _, [], _, [], hW', trodAll_mk1 (shut_bool Try.underlying4 _), (trodAll_cons_mk (Below.trod laidOut (by kernel_rfl) (of_decide_eq_true (by kernel_rfl)) k0 bel lt0) (trodAll_cons_mk (Below.trod laidOut (by kernel_rfl) (of_decide_eq_true (by kernel_rfl)) k1 bel lt1) (trodAll_cons_mk (Below.trod laidOut (by kernel_rfl) (of_decide_eq_true (by kernel_rfl)) k2 bel lt2) (trodAll_cons_mk (shut_int Try.underlying3 w3) trodAll_mk0)))), rfl, bel.frame _, fun h => by cases h⟩

theorem over : Rows.permGroupRow.holds Try.pinned (OpenSpec.ofChange Rows.permGroupSpec) :=
  OpenClaim.holds_of_wide 11 Try.f11 rfl rfl rfl rfl rfl rfl rfl ⟨rfl, rfl, rfl, rfl, rfl⟩ rfl rfl rfl rfl rfl (by kernel_rfl) Try.func11 (by kernel_rfl)
    (of_decide_eq_true (by kernel_rfl)) (by unfold Func.isWrapper; first | (rw [if_pos (by decide +kernel)]; kernel_rfl) | (rw [if_neg (by decide +kernel)]; exact ⟨rfl, rfl⟩))
    (fun os started H enc _ => lifted os started H enc)

/-- THE STATEMENT. -/
theorem proved : Rows.PermGroupSaid := over
#print axioms proved
end Go.Proofs.Ytehmngecpipebaa.permGroup
