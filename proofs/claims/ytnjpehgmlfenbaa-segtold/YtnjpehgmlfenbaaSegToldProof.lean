/-
  For every list, every list of operations and every two numbers: behind the operations that they stand for, Go's seg.Play answers SumOf and LeastOf of a range with the sum and the least of the numbers that it returns.
  No condition.
-/
import Derived.Test.YtnjpehgmlfenbaaRows
import Derived.Test.YtnjpehgmlfenbaaFrame
import Derived.Test.YtnjpehgmlfenbaaFrameS
import Derived.Test.YtnjpehgmlfenbaaSegLaw
import Derived.WalkKit
import Derived.ProofKit
import Derived.OpenShut
import Derived.ChangeOld
import Derived.Below
import Derived.Carry
import Derived.SizedLaws
import Derived.Deep.RegionWith
import Derived.Deep.RegionHeld3
namespace Go.Proofs.Ytnjpehgmlfenbaa.segTold
open Go.ChangeShapes Go.WideShapes Go.ChangeAt Go.RowKit Words
set_option linter.unusedVariables false

theorem own : ownKnob Try.prog.godebug = none := by kernel_rfl
theorem laidOut : laidOutB Try.prog = true := by kernel_rfl

set_option maxRecDepth 100000 in
set_option maxHeartbeats 4000000 in
/-- The walk: the Go text returns true, and writes nothing that was there. -/
theorem walk (A0 : Option Addr) (l0 : List Int) (c0 : Nat) (A1 : Option Addr) (l1 : List Op9) (c1 : Nat) (a2 : Int) (a3 : Int) (w : World) (hle0 : l0.length ≤ c0) (hcap0 : c0 * 8 ≤ 140737488351232) (hnil0 : A0 = none → c0 = 0) (w0 : Lies w w.heap.size A0 (l0.map (.int .i64)) ∧ ∀ z ∈ l0, (Lit.int .i64 z).wf = true) (hle1 : l1.length ≤ c1) (hcap1 : c1 * 32 ≤ 140737488351232) (hnil1 : A1 = none → c1 = 0) (w1 : Lies w w.heap.size A1 (opsC l1)) (f1 : ∀ o ∈ l1, o.Fits) (w2 : (Lit.int .i64 a2).wf = true) (w3 : (Lit.int .i64 a3).wf = true) :
    Calls Try.prog 4 #[.slice A0 l0.length c0, .slice A1 l1.length c1, .int .i64 a2, .int .i64 a3] w fun e w' => e = .returned (.bool true) ∧ Below w.heap.size w w' := by
  have HSi := Lib.hid (signed_any A0 l0 c0 60 500 w (by decide) (by decide) w0.2 w0.1)
  have hlm := sgn_lim 60 500 l0
  have hpl := picks_length 60 (2 * 500 + 1) l0
  unfold GivesF at HSi
  have HL1 := Lib.hid w1
  have HF1 := Lib.hid f1
  clear w0 w1 f1 hnil0 hle0 hcap0
  generalize (picks 60 (2 * 500 + 1) l0).length = m at *
  have HCe := Lib.hid (cells_snoc (sgn 60 500 l0) m 3)
  have hLf : Lim 500 (snoc (sgn 60 500 l0) m 3) (m + 1) := hlm.snoc 3 (by decide)
  clear hlm
  generalize snoc (sgn 60 500 l0) m 3 = f at *
  generalize sgn 60 500 l0 = f0 at *
  obtain ⟨n, hn⟩ : ∃ n, m + 1 = n := ⟨_, rfl⟩
  have hn1 : n ≤ 61 := by omega
  have hn0 : 0 < n := by omega
  rw [hn] at HCe hLf
  have hLn : (vals f n).length = n := vals_length f n
  have hCos : Cos (vals f n) := fun z hz => by have := hLf.win z hz; unfold In at this; unfold Co; omega
  have HOps := Lib.hid (fun W hL => ops_any A1 l1 c1 60 n W (by decide) hn0 (by omega) HF1.out hL)
  have hol := opsOf_length 60 n l1
  have hoi : ∀ o ∈ opsOf 60 n l1, o.In n := fun o ho => by
    obtain ⟨x, _, rfl⟩ := List.mem_map.1 ho
    exact opOf_in n hn0 x
  have hr := pick_lt hn0 a2
  have HP1 := Lib.hid (fun W => pick_any a2 n W hn0 (by omega) w2)
  have HP2 := Lib.hid (fun W => pick_any a3 (n - pick n a2) W (by omega) (by omega) w3)
  have hr2 := pick_lt (n := n - pick n a2) (by omega) a3
  generalize opsOf 60 n l1 = os at *
  generalize pick n a2 = lo at *
  generalize hd : n - lo = q at *
  generalize pick q a3 = p at *
  obtain ⟨hi, hhi⟩ : ∃ hi, lo + p = hi := ⟨_, rfl⟩
  have hos : os.length ≤ 60 := by omega
  have HBe := Lib.hid (fun A B c d W hA hB hL hO => behind_any A B (vals f n) os c d W (by omega) (by omega) (by omega) hCos hA hB hL hO)
  have HBe2 := Lib.hid (fun A B c d W hA hB hL hO => behind_any A B (vals f n) (os ++ [⟨4, lo, hi, 0⟩, ⟨3, lo, hi, 0⟩]) c d W (by omega) (by omega) (by rw [List.length_append]; show os.length + 2 ≤ 300; omega) hCos hA hB hL hO)
  have HTo := Lib.hid (told (vals f n) os lo hi (by omega) (by omega) (by rw [hLn]; omega))
  have HEl := Lib.hid (runL_length (vals f n) os os.length)
  have HEb := runL_lim os (B := 1048576) (by omega) (cos_lim hCos) os.length
  have HEb2 : Hid (LimL 1000000000 (runL (vals f n) os os.length)) := Lib.hid (fun z hz => by have := HEb z hz; omega)
  unfold Behind at HBe HBe2
  rw [hLn] at HBe HBe2 HEl
  have hK : (os ++ [(⟨4, lo, hi, 0⟩ : Op9), ⟨3, lo, hi, 0⟩]).length = os.length + 2 := by rw [List.length_append]; rfl
  rw [hK] at HBe2
  clear HEb hCos hLn hLf hoi hol hK
  generalize runL (vals f n) (os ++ [(⟨4, lo, hi, 0⟩ : Op9), ⟨3, lo, hi, 0⟩]) (os.length + 2) = E2 at *
  generalize runL (vals f n) os os.length = E at *
  generalize reps (vals f n) (os ++ [(⟨4, lo, hi, 0⟩ : Op9), ⟨3, lo, hi, 0⟩]) = R at *
  generalize reps (vals f n) os = R0 at *
  have HLn := Lib.hid (opsC_length os)
  have H1 := Lib.hid (opsC_one os)
  have H2 := Lib.hid (opsC_one [⟨4, lo, hi, 0⟩, ⟨3, lo, hi, 0⟩])
  have HAp := Lib.hid (opsC_append os [⟨4, lo, hi, 0⟩, ⟨3, lo, hi, 0⟩])
  obtain ⟨ol, hol⟩ : ∃ ol, os.length = ol := ⟨_, rfl⟩
  unfold GivesOps at HOps
  rw [hol] at HBe HBe2 HTo HLn hos HOps
  obtain ⟨K, hK⟩ : ∃ K, ol + 2 = K := ⟨_, rfl⟩
  rw [hK] at HBe2
  have hk2 : (K : Int) - 2 = (ol : Int) := by omega
  have hk1 : (K : Int) - 1 = ((ol + 1 : Nat) : Int) := by omega
  have hqd : (n : Int) - (lo : Int) = (q : Int) := by omega
  have hhi2 : (lo : Int) + (p : Int) = (hi : Int) := by omega
  have hlh : lo ≤ hi := by omega
  have hhn : hi < n := by omega
  have hKb : K ≤ 62 := by omega
  obtain ⟨t0, t1, t2, t3⟩ := HTo.out
  have HT0 := Lib.hid t0
  have HT1 := Lib.hid t1
  have HT2 := Lib.hid t2
  have HT3 := Lib.hid t3
  clear t0 t1 t2 t3 HTo hol hhi hd hpl
  go_enter Try.func4, Try.ntmps4
  go_wp2_with fail
  refine HSi.out.mono ?_
  rintro e v1 ⟨A1_, c1_, rfl, hown, hb1⟩
  have hsz := hb1.size
  go_wp2_with (at_builtin; go_loud (refine append_one _ rfl (.tmp 24) (.tmp 25) 22 rfl w.heap.size 3 (.int .i64 0) 8 Try.underlying22 fint_info rfl (.slice A1_ m c1_) m _ rfl (hown.alloc _) v1.heap.size 1 (.int .i64 3) rfl (by simp) rfl (by simp only [maxLen]; omega) (by omega) (by simp; omega) ?_))
  intro v2 v3 hown2 hg2
  have hb3 : Below w.heap.size w v3 := (hb1.alloc hsz _).grown hg2 (by simp; omega) (fun q hq => (hown.lt q hq).1)
  rw [HCe.out] at hown2
  obtain ⟨A3, c3, rfl, x1, x2, hl3, hn3, x3⟩ := own_slice hown2
  clear x1 x2 x3
  have HL3 := Lib.hid hl3
  have HN3 := Lib.hid hn3
  clear hown2 hg2 hown hb1 hl3 hn3 hsz hn HSi HCe
  go_wp2_with fail
  refine (HOps.out _ (HL1.out.on hb3)).mono ?_
  rintro e v4 ⟨v, rfl, hown4, hb4⟩
  obtain ⟨B4, d4, rfl, hl4, hn4, x4⟩ := own_slice_all hown4
  clear x4
  have HL4 := Lib.hid hl4
  have HN4 := Lib.hid hn4
  have HL34 := Lib.hid (HL3.out.on hb4)
  have hb04 := chain hb3 hb4
  clear hown4 hl4 hn4 hb3 hb4 HL3
  go_wp2_with fail
  refine (HBe.out A3 B4 c3 d4 _ HN3.out HN4.out HL34.out HL4.out).mono ?_
  rintro e v5 ⟨A5, c5, B5, d5, rfl, hx5, hy5, hb5⟩
  have HX5 := Lib.hid hx5
  have HL35 := Lib.hid (HL34.out.on hb5)
  have HL45 := Lib.hid (HL4.out.on hb5)
  have hb05 := chain hb04 hb5
  clear hx5 hy5 hb04 hb5 HL34 HL4
  go_wp2_with fail
  refine (HP1.out _).mono ?_
  rintro e v6 ⟨rfl, rfl⟩
  go_wp2_with fail
  refine (HP2.out _).mono ?_
  rintro e v6 ⟨rfl, rfl⟩
  go_wp2_with (at_builtin; go_loud (refine append_recs _ rfl (.const (.slice none 0 0)) (.tmp 52) 23 rfl v5.heap.size 39 (.agg #[.int .i64 0, .int .i64 0, .int .i64 0, .int .i64 0]) 4 32 Try.underlying23 op9_info rfl (by decide) (.slice none 0 0) 0 [] rfl (World.ownsRow_nil _ _ _ _) B4 ol d4 (opsC os) rfl HLn.out HN4.out HL45.out H1.out (by simp only [maxLen]; omega) (by omega) (Nat.le_refl _) ?_))
  intro v6 w6 hown6 hg6
  have hb6 : Below v5.heap.size v5 w6 := (Below.refl _ _).grown hg6 (Nat.le_refl _) (fun q hq => by cases hq)
  have hz6 := hb6.size
  have HO6 := Lib.hid hown6
  clear hown6 hg6
  go_wp2_with (at_builtin; go_loud (refine append_recs _ rfl (.tmp 53) (.tmp 60) 23 rfl v5.heap.size 39 (.agg #[.int .i64 0, .int .i64 0, .int .i64 0, .int .i64 0]) 4 32 Try.underlying23 op9_info rfl (by decide) v6 ol _ rfl (by simpa using HO6.out.alloc _) (some ⟨w6.heap.size, 0, none⟩) 2 2 (opsC [⟨4, lo, hi, 0⟩, ⟨3, lo, hi, 0⟩]) rfl rfl (fun e => by cases e) (Blk.new w6 39 (opsC [⟨4, lo, hi, 0⟩, ⟨3, lo, hi, 0⟩])).lies H2.out (by simp only [maxLen]; omega) (by omega) (by simp; omega) ?_))
  intro v7 w7 hown7 hg7
  have hb7 : Below v5.heap.size v5 w7 := (hb6.alloc hz6 _).grown hg7 (by simp; omega) (fun q hq => (HO6.out.lt q hq).1)
  rw [← HAp.out] at hown7
  obtain ⟨B7, d7, rfl, hl7, hn7, x7⟩ := own_slice_all hown7
  have HL7 := Lib.hid hl7
  have HN7 := Lib.hid hn7
  have HL37 := Lib.hid (HL35.out.on hb7)
  have HX7 := Lib.hid (HX5.out.on hb7)
  have hb07 := chain hb05 hb7
  clear x7 hown7 hg7 hl7 hn7 hb6 hz6 hb7 hb05 HL35 HX5 HO6
  go_wp2_with fail
  refine (HBe2.out A3 B7 c3 d7 _ HN3.out HN7.out HL37.out HL7.out).mono ?_
  rintro e v8 ⟨A8, c8, B8, d8, rfl, hx8, hy8, hb8⟩
  have HY8 := Lib.hid hy8
  have HX8 := Lib.hid (HX7.out.on hb8)
  have hb08 := chain hb07 hb8
  clear hx8 hy8 hb8 hb07 HX7 HL37 HL7 HBe HBe2
  obtain ⟨b1, o1, z0, rfl, hbb1, hz0, hce0⟩ := HX8.out.at_ (k := lo) (by rw [HEl.out]; omega)
  have HZ0 := Lib.hid hz0
  clear hz0
  have hloI : (lo : Int) < (n : Int) := by omega
  go_wp2_with fail
  go_loopw [19, 20, 21] (fun s t a w' => ∃ j : Nat, lo ≤ j ∧ j ≤ hi + 1 ∧ s = .int .i64 (sm (prt E lo ((j : Int) - 1))) ∧ t = .int .i64 (accL z0 (prt E lo ((j : Int) - 1))) ∧ a = .int .i64 j ∧ v8 = w') (fun _ _ a _ => hi + 1 - (intOf a).toNat)
  case atStart => exact ⟨lo, Nat.le_refl _, by omega, by rw [prt_before E lo (by omega) _ (by omega)]; rfl, by rw [prt_before E lo (by omega) _ (by omega)]; rfl, rfl, rfl⟩
  case round =>
    obtain ⟨j, hj0, hj1, rfl, rfl, rfl, rfl⟩ := hrel
    by_cases hjb : j ≤ hi
    · obtain ⟨b2, o2, z, e2, hbb2, hz, hcj⟩ := HX8.out.at_ (k := j) (by rw [HEl.out]; omega)
      injection e2 with e2
      injection e2 with e3 e4
      subst e3 e4
      obtain ⟨z1, z2⟩ := HEb2.out z (List.mem_of_getElem? hz)
      have hst : sm (prt E lo (j : Int)) = sm (prt E lo ((j : Int) - 1)) + z := by rw [prt_step E lo j z (by omega) (by omega) hz, sm_append]; simp [sm]
      have hst2 : accL z0 (prt E lo (j : Int)) = min (accL z0 (prt E lo ((j : Int) - 1))) z := by rw [prt_step E lo j z (by omega) (by omega) hz, accL_one]
      have hsb := sm_bd (prt_bds (l := E) (fun y hy => by have := HEb2.out y hy; unfold Bd; omega) lo ((j : Int) - 1))
      have hpl := prt_len E lo ((j : Int) - 1)
      rw [HEl.out] at hpl
      have HS := Lib.hid hst
      have HS2 := Lib.hid hst2
      obtain ⟨s1, s2⟩ := hsb
      have s3 : -4503599627370496 ≤ sm (prt E lo ((j : Int) - 1)) := by omega
      have s4 : sm (prt E lo ((j : Int) - 1)) ≤ 4503599627370496 := by omega
      have hjI : (j : Int) < (n : Int) := by omega
      have hjn : j < n := by omega
      clear s1 s2 hpl hst hst2 hz
      generalize sm (prt E lo ((j : Int) - 1)) = y at *
      generalize accL z0 (prt E lo ((j : Int) - 1)) = y2 at *
      rcases Int.lt_trichotomy y2 z with h | h | h
      · rw [Int.min_eq_left (by omega)] at HS2
        go_wp2_with fail
        go_roundw
        case rel => exact ⟨j + 1, by omega, by omega, by rw [show (((j + 1 : Nat) : Int) - 1) = (j : Int) by omega, HS.out], by rw [show (((j + 1 : Nat) : Int) - 1) = (j : Int) by omega, HS2.out], by go_num, by first | trivial | rfl⟩
        case measure => simp [intOf]; omega
      · subst h
        rw [Int.min_self] at HS2
        go_wp2_with fail
        go_roundw
        case rel => exact ⟨j + 1, by omega, by omega, by rw [show (((j + 1 : Nat) : Int) - 1) = (j : Int) by omega, HS.out], by rw [show (((j + 1 : Nat) : Int) - 1) = (j : Int) by omega, HS2.out], by go_num, by first | trivial | rfl⟩
        case measure => simp [intOf]; omega
      · rw [Int.min_eq_right (by omega)] at HS2
        go_wp2_with fail
        go_roundw
        case rel => exact ⟨j + 1, by omega, by omega, by rw [show (((j + 1 : Nat) : Int) - 1) = (j : Int) by omega, HS.out], by rw [show (((j + 1 : Nat) : Int) - 1) = (j : Int) by omega, HS2.out], by go_num, by first | trivial | rfl⟩
        case measure => simp [intOf]; omega
    · obtain rfl : j = hi + 1 := by omega
      have e1 : ((hi + 1 : Nat) : Int) - 1 = (hi : Int) := by omega
      have e2 : accL z0 (prt E lo hi) = mn (prt E lo hi) := accL_mem (prt_has E lo hi z0 hlh HZ0.out)
      rw [e1, e2]
      obtain ⟨b3, o3, rfl, hbb3, r0, r1⟩ := two_at HY8.out (i := ol) (by omega)
      obtain ⟨b4, o4, e5, hbb4, r2, r3⟩ := two_at HY8.out (i := ol + 1) (by omega)
      injection e5 with e5
      injection e5 with e6 e7
      subst e6 e7
      rw [HT0.out] at r0
      rw [HT1.out] at r1
      rw [HT2.out] at r2
      rw [HT3.out] at r3
      have hss : (sm (prt E lo hi) == sm (prt E lo hi)) = true := by simp
      have hmm : (mn (prt E lo hi) == mn (prt E lo hi)) = true := by simp
      generalize sm (prt E lo hi) = y at *
      generalize mn (prt E lo hi) = y2 at *
      have hlk : ol < K := by omega
      have hlk1 : ol + 1 < K := by omega
      have hlk2 : (ol : Int) < (K : Int) := by omega
      have hlk3 : ((ol + 1 : Nat) : Int) < (K : Int) := by omega
      clear e1 e2 HY8 HX8
      go_wp2_with fail
      go_ret
      exact ⟨rfl, hb08⟩

set_option maxRecDepth 100000 in
theorem lifted (os : Os) (started : os.Started) (H : Type) (enc : TypeId × Value → H) :
    ReturnsInHanded {} Try.checked os 4 .any (Rows.segToldSpec.pre6 enc Try.prog Try.f4 Rows.segToldRow.domain false) (Rows.segToldSpec.post enc Try.prog Try.f4 false true false false) := by
  refine returnsInHanded_of_change_sized (C := Try.checked) own started (by kernel_rfl) Try.func4
    (ChangeSpec.witness6 (enc := enc) (C := Try.checked) false ⟨#[], #[.slice none 0 0, .slice none 0 0, .int .i64 0, .int .i64 0], []⟩ 8 (by kernel_rfl) (by kernel_rfl) (by kernel_rfl) (by kernel_rfl)) ?_
  intro W base args ds gs before hval0 hW hcnd hsz0 _
  have hval : ∀ (j : Nat) t v, Try.f4.params[j]? = some t → args[j]? = some v → Value.okWide Try.prog W .any base t v := hval0
  have hW' := hW
  obtain ⟨p, q, hA0, hV, rfl, hfz, hnd⟩ := hW
  have hA : DataW.TrodAll enc Try.prog W 0 (fun _ => true) true Try.f4.params.toList args.toList ds p := hA0
  have hsz : (DataW.weightsEach Try.prog (Try.f4.params.toList ++ Rows.segToldSpec.plain.varTypes Try.prog) (ds ++ gs)).all (· ≤ reachBytes) = true := hsz0
  rw [Try.params4] at hA hval hsz
  obtain ⟨v0, vs0, d0, ds0, p0, q0, hargs, rfl, rfl, h0, r0⟩ := trodAll_cons hA
  obtain ⟨v1, vs1, d1, ds1, p1, q1, rfl, rfl, rfl, h1, r1⟩ := trodAll_cons r0
  obtain ⟨v2, vs2, d2, ds2, p2, q2, rfl, rfl, rfl, h2, r2⟩ := trodAll_cons r1
  obtain ⟨v3, vs3, d3, ds3, p3, q3, rfl, rfl, rfl, h3, r3⟩ := trodAll_cons r2
  obtain ⟨rfl, rfl, rfl⟩ := trodAll_nil r3
  obtain rfl : args = #[v0, v1, v2, v3] := by cases args; simp_all
  obtain ⟨rfl, rfl⟩ := trodVars_none hV
  obtain ⟨A0, n0, c0, rfl⟩ := okWide_slice Try.underlying22 (hval 0 22 v0 rfl rfl)
  have k0 := h0
  have lt0 : ∀ x ∈ p0, x.block < W.heap.size := by obtain ⟨m, hm⟩ := k0; exact DataW.trod_lt m _ _ _ hm
  obtain ⟨fuel0, hf0⟩ := h0
  obtain ⟨A0_, l0, c0_, hcs0, hle0, hcap0, hnil0, w0⟩ := rd_ints Try.underlying22 Try.underlying3 (by kernel_rfl) (by kernel_rfl) hf0 (weight_arg hsz (j := 0) (t := 22) rfl rfl)
  have hcs0_ : [Value.slice A0 n0 c0] = [.slice A0_ l0.length c0_] := hcs0
  simp only [List.cons.injEq, Value.slice.injEq, and_true] at hcs0_
  obtain ⟨rfl, rfl, rfl⟩ := hcs0_
  clear hcs0
  obtain ⟨A1, n1, c1, rfl⟩ := okWide_slice Try.underlying32 (hval 1 32 v1 rfl rfl)
  have k1 := h1
  have lt1 : ∀ x ∈ p1, x.block < W.heap.size := by obtain ⟨m, hm⟩ := k1; exact DataW.trod_lt m _ _ _ hm
  obtain ⟨fuel1, hf1⟩ := h1
  obtain ⟨A1_, l1, c1_, hcs1, hle1, hcap1, hnil1, w1, f1⟩ := rd_fours Try.underlying32 Try.underlying42 (by kernel_rfl) (by kernel_rfl) rfl rfl rfl rfl rfl rfl rfl rfl Try.underlying3 (by kernel_rfl) hf1 (weight_arg hsz (j := 1) (t := 32) rfl rfl)
  have hcs1_ : [Value.slice A1 n1 c1] = [.slice A1_ l1.length c1_] := hcs1
  simp only [List.cons.injEq, Value.slice.injEq, and_true] at hcs1_
  obtain ⟨rfl, rfl, rfl⟩ := hcs1_
  clear hcs1
  obtain ⟨a2, rfl, rfl, rfl, w2⟩ := open_int Try.underlying3 (hval 2 3 v2 rfl rfl) h2
  obtain ⟨a3, rfl, rfl, rfl, w3⟩ := open_int Try.underlying3 (hval 3 3 v3 rfl rfl) h3
  clear hA0 hval0
  refine (walk A0 l0 c0 A1 l1 c1 a2 a3 W hle0 hcap0 hnil0 w0 hle1 hcap1 hnil1 w1 f1 w2 w3).mono fun e W' ⟨he, bel⟩ => ?_
  subst he
  exact ⟨_, rfl, _, _, _, [], _, [], hW', trodAll_mk1 (shut_bool Try.underlying4 _), (trodAll_cons_mk (Below.trod laidOut (by kernel_rfl) (of_decide_eq_true (by kernel_rfl)) k0 bel lt0) (trodAll_cons_mk (Below.trod laidOut (by kernel_rfl) (of_decide_eq_true (by kernel_rfl)) k1 bel lt1) (trodAll_cons_mk (shut_int Try.underlying3 w2) (trodAll_cons_mk (shut_int Try.underlying3 w3) trodAll_mk0)))), rfl, bel.frame _, fun h => by cases h⟩

theorem over : Rows.segToldRow.holds Try.pinned (OpenSpec.ofChange Rows.segToldSpec) :=
  OpenClaim.holds_of_wide 4 Try.f4 rfl rfl rfl rfl rfl rfl rfl ⟨rfl, rfl, rfl, rfl, rfl⟩ rfl rfl rfl rfl rfl (by kernel_rfl) Try.func4 (by kernel_rfl)
    (of_decide_eq_true (by kernel_rfl)) (by unfold Func.isWrapper; first | (rw [if_pos (by decide +kernel)]; kernel_rfl) | (rw [if_neg (by decide +kernel)]; exact ⟨rfl, rfl⟩))
    (fun os started H enc _ => lifted os started H enc)

/-- THE STATEMENT. -/
theorem proved : Rows.SegToldSaid := over
#print axioms proved
end Go.Proofs.Ytnjpehgmlfenbaa.segTold
