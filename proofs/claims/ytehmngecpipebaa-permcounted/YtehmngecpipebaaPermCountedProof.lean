/-
  For every two lists l, m and every two numbers size, number: of the two orders that the lists stand for, Go's perm.Order of perm.Number is the order itself, and of two orders the one that is greater where they first differ has the greater number; perm.Number of perm.Order is the number; and there is no order with a number as great as that of all orders.
  No condition.
-/
import Derived.Test.YtehmngecpipebaaRows
import Derived.Test.YtehmngecpipebaaFrame
import Derived.Test.YtehmngecpipebaaPermKp
import Derived.Test.YtehmngecpipebaaPermOd
import Derived.Test.YtehmngecpipebaaPermNm
import Derived.WalkKit
import Derived.ProofKit
import Derived.OpenShut
import Derived.ChangeOld
import Derived.Below
import Derived.Carry
import Derived.SizedLaws
import Derived.Deep.RegionWith
import Derived.Deep.RegionHeld3
namespace Go.Proofs.Ytehmngecpipebaa.permCounted
open Go.ChangeShapes Go.WideShapes Go.ChangeAt Go.RowKit Words
set_option linter.unusedVariables false

theorem own : ownKnob Try.prog.godebug = none := by kernel_rfl
theorem laidOut : laidOutB Try.prog = true := by kernel_rfl
theorem perm_of_PermL {p : List Nat} {n : Nat} (h : PermL p) (hn : p.length = n) : p.Perm (List.range n) := by
  rw [← hn]; exact h.perm
theorem back_again {p : List Nat} {n : Nat} (h : PermL p) (hn : p.length = n) : ordL n (List.range n) (numL p) = p := by
  have := ord_num p (List.range n) (perm_of_PermL h hn) List.pairwise_lt_range
  rwa [hn] at this
theorem first_differ {p q : List Nat} {n i : Nat} (hp : PermL p) (hq : PermL q) (hpn : p.length = n) (hqn : q.length = n) (hi : i < n) (hb : ∀ j, j < i → st p j = st q j) (hne : st p i ≠ st q i) : decide (st p i < st q i) = decide (numL p < numL q) := by
  have hpq := (perm_of_PermL hp hpn).trans (perm_of_PermL hq hqn).symm
  rcases Nat.lt_or_gt_of_ne hne with h | h
  · have := num_lex p q hpq i hb (by omega) h
    rw [decide_eq_true h, decide_eq_true this]
  · have := num_lex q p hpq.symm i (fun j hj => (hb j hj).symm) (by omega) h
    rw [decide_eq_false (by omega), decide_eq_false (by omega)]


set_option maxRecDepth 100000 in
set_option maxHeartbeats 4000000 in
/-- The walk: the Go text returns true, and writes nothing that was there. -/
theorem walk (A0 : Option Addr) (l0 : List Int) (c0 : Nat) (A1 : Option Addr) (l1 : List Int) (c1 : Nat) (a2 : Int) (a3 : Int) (w : World) (hle0 : l0.length ≤ c0) (hcap0 : c0 * 8 ≤ 140737488351232) (hnil0 : A0 = none → c0 = 0) (w0 : Lies w w.heap.size A0 (l0.map (.int .i64)) ∧ ∀ z ∈ l0, (Lit.int .i64 z).wf = true) (hle1 : l1.length ≤ c1) (hcap1 : c1 * 8 ≤ 140737488351232) (hnil1 : A1 = none → c1 = 0) (w1 : Lies w w.heap.size A1 (l1.map (.int .i64)) ∧ ∀ z ∈ l1, (Lit.int .i64 z).wf = true) (w2 : (Lit.int .i64 a2).wf = true) (w3 : (Lit.int .i64 a3).wf = true) :
    Calls Try.prog 14 #[.slice A0 l0.length c0, .slice A1 l1.length c1, .int .i64 a2, .int .i64 a3] w fun e w' => e = .returned (.bool true) ∧ Below w.heap.size w w' := by
  have hp1 := pick_lt (n := 12) (by decide) a2
  have HP1 := Lib.hid (pick_any a2 12 · (by decide) (by decide) w2)
  generalize pick 12 a2 = pk at *
  obtain ⟨n, hn⟩ : ∃ n, 1 + pk = n := ⟨_, rfl⟩
  have hk1 : (1 : Int) + (pk : Int) = (n : Int) := by omega
  have hn1 : 1 ≤ n := by omega
  have hn12 : n ≤ 12 := by omega
  clear hn
  have HS0 := Lib.hid (fun W (hW : Below w.heap.size w W) => shuffle_any A0 l0 c0 n W hn1 (by omega) (by omega) w0.2 (w0.1.on hW))
  have HS1 := Lib.hid (fun W (hW : Below w.heap.size w W) => shuffle_any A1 l1 c1 n W hn1 (by omega) (by omega) w1.2 (w1.1.on hW))
  have hP := shuf_perm l0 n
  have hl := shuf_length l0 n
  have hQ := shuf_perm l1 n
  have hm := shuf_length l1 n
  generalize shuf l0 n = P at *
  generalize shuf l1 n = Q at *
  have HCp := Lib.hid (fun A c W h hW => copied_nat A P n c W hl (by omega) h hW)
  have HCq := Lib.hid (fun A c W h hW => copied_nat A Q n c W hm (by omega) h hW)
  have HNp := Lib.hid (fun A c W h hW => fun (hc : n ≤ c) => number_ok A P c W hP (by omega) (by omega) h hW)
  have HNq := Lib.hid (fun A c W h hW => fun (hc : n ≤ c) => number_ok A Q c W hQ (by omega) (by omega) h hW)
  rw [hl] at HNp
  rw [hm] at HNq
  have hnl := numL_lt P
  rw [hl] at hnl
  have HBk := Lib.hid (fun W => order_ok n (numL P) W (by omega) hnl)
  rw [back_again hP hl] at HBk
  have HSm := Lib.hid (fun A B c d W h1 h2 => sameK_nat A B P n c d W hl (by omega) h1 h2)
  have HDf := Lib.hid (fun i (hi : i < n) hb hne => first_differ hP hQ hl hm (i := i) hi hb hne)
  have hfn := fact_top2 (k := n) (n := 12) (by decide) hn12
  have hf12 : fact n ≤ 479001600 := by
    have := fact_mono hn12
    rwa [show fact 12 = 479001600 by decide +kernel] at this
  have hf0 := fact_pos n
  have HPk := Lib.hid (fun W => pick_any a3 (fact n) W hf0 (by omega) w3)
  have hNl := pick_lt hf0 a3
  have HOr := Lib.hid (fun W => order_ok n (pick (fact n) a3) W (by omega) hNl)
  have hXp := ordL_perm n (List.range n) (pick (fact n) a3) (by simp) hNl
  have hXn := num_ord n (List.range n) (pick (fact n) a3) (by simp) hNl List.pairwise_lt_range
  have hXl := ordL_length n (List.range n) (pick (fact n) a3)
  generalize ordL n (List.range n) (pick (fact n) a3) = X at *
  have HCx := Lib.hid (fun A c W h hW => copied_nat A X n c W hXl (by omega) h hW)
  have HNu := Lib.hid (fun A c W h hW => fun (hc : n ≤ c) => number_ok A X c W (.of_perm hXp) (by omega) (by omega) h hW)
  rw [hXl, hXn] at HNu
  have HOe := Lib.hid (fun W => order_err n (fact n) W (.inr (.inr (.inr (by rw [Int.toNat_natCast]; exact Int.le_refl _)))))
  have HF1 := Lib.hid (show fact 1 = 1 from rfl)
  have HFs := Lib.hid (fun k => show fact (k + 1) = (k + 1) * fact k from rfl)
  have HFt := Lib.hid (fun k (h : k ≤ n) => fact_top2 (k := k) (n := 12) (by decide) (by omega))
  generalize pick (fact n) a3 = N at *
  generalize hf : fact n = f at *
  have HF := Lib.hid hf
  generalize numL P = a at *
  generalize numL Q = b at *
  have HLP := Lib.hid hl
  have HLQ := Lib.hid hm
  have hNN : ((N : Int) == (N : Int)) = true := by simp
  have haf : a ≤ 479001600 := by omega
  clear hP hl hQ hm w0 w1 hnil0 hnil1 hXp hXn hXl hf hfn
  go_enter Try.func14, Try.ntmps14
  go_wp2_with fail
  refine (HP1.out _).mono ?_
  rintro e w' ⟨rfl, rfl⟩
  go_wp2_with fail
  refine (HS0.out _ (Below.refl _ _)).mono ?_
  rintro e w_1 ⟨Ap, cp, rfl, hlep, hlp, hnp, _, hbp⟩
  have HB := Lib.hid hbp
  have HNn := Lib.hid hnp
  have HLp := Lib.hid hlp
  clear hbp hnp hlp
  go_wp2_with fail
  refine (HS1.out _ HB.out).mono ?_
  rintro e w_2 ⟨Aq, cq, rfl, hleq, hlq, hnq, _, hbq⟩
  replace HB := Lib.hid (chain HB.out hbq)
  replace HLp := Lib.hid (HLp.out.on hbq)
  have HNm := Lib.hid hnq
  have HLq := Lib.hid hlq
  clear hbq hnq hlq
  go_wp2_with fail
  refine (HCp.out Ap cp _ HNn.out HLp.out).mono ?_
  rintro e w_3 ⟨Ak, ck, rfl, hlek, hlk, hnk, _, hbk⟩
  replace HB := Lib.hid (chain HB.out hbk)
  replace HLp := Lib.hid (HLp.out.on hbk)
  replace HLq := Lib.hid (HLq.out.on hbk)
  have HNk := Lib.hid hnk
  have HLk := Lib.hid hlk
  clear hbk hnk hlk
  go_wp2_with fail
  refine (HNp.out Ak ck _ HNk.out HLk.out hlek).mono ?_
  rintro e w_4 ⟨rfl, hb4⟩
  replace HB := Lib.hid (chain HB.out hb4)
  replace HLp := Lib.hid (HLp.out.on hb4)
  replace HLq := Lib.hid (HLq.out.on hb4)
  clear hb4 HLk HNk
  go_wp2_with fail
  refine (HCq.out Aq cq _ HNm.out HLq.out).mono ?_
  rintro e w_5 ⟨Aj, cj, rfl, hlej, hlj, hnj, _, hbj⟩
  replace HB := Lib.hid (chain HB.out hbj)
  replace HLp := Lib.hid (HLp.out.on hbj)
  replace HLq := Lib.hid (HLq.out.on hbj)
  have HNj := Lib.hid hnj
  have HLj := Lib.hid hlj
  clear hbj hnj hlj
  go_wp2_with fail
  refine (HNq.out Aj cj _ HNj.out HLj.out hlej).mono ?_
  rintro e w_6 ⟨rfl, hb6⟩
  replace HB := Lib.hid (chain HB.out hb6)
  replace HLp := Lib.hid (HLp.out.on hb6)
  replace HLq := Lib.hid (HLq.out.on hb6)
  clear hb6 HLj HNj
  go_wp2_with fail
  refine (HBk.out _).mono ?_
  rintro e w_7 ⟨Ab, cb, rfl, hleb, hlb, hnb, _, hbb⟩
  replace HB := Lib.hid (chain HB.out hbb)
  replace HLp := Lib.hid (HLp.out.on hbb)
  replace HLq := Lib.hid (HLq.out.on hbb)
  have HLb := Lib.hid hlb
  clear hbb hnb hlb
  go_wp2_with fail
  refine (HSm.out Ab Ap cb cp _ HLb.out HLp.out).mono ?_
  rintro e w_8 ⟨rfl, hb8⟩
  replace HB := Lib.hid (chain HB.out hb8)
  replace HLp := Lib.hid (HLp.out.on hb8)
  replace HLq := Lib.hid (HLq.out.on hb8)
  clear hb8 HLb
  go_wp2_with fail
  go_loopw [18] (fun u w' => ∃ i d : Nat, i ≤ n ∧ u = .int .i64 i ∧ (∀ j, j < i → st P j = st Q j) ∧ w' = w_8.drewN d) (fun u _ => n - (intOf u).toNat)
  case atStart => exact ⟨0, 0, Nat.zero_le _, rfl, (fun j hj => by omega), rfl⟩
  case round =>
    obtain ⟨i, d, hi, rfl, hso, rfl⟩ := hrel
    have HSo := Lib.hid hso
    clear hso
    by_cases hlt : i < n
    · obtain ⟨b1, o1, rfl, hb1, hc1⟩ := nat_at (HLp.out) (k := i) (by rw [HLP.out]; exact hlt)
      obtain ⟨b2, o2, rfl, hb2, hc2⟩ := nat_at (HLq.out) (k := i) (by rw [HLQ.out]; exact hlt)
      have him : (i : Int) < (n : Int) := by omega
      by_cases hne : st P i = st Q i
      · have HE := Lib.hid (fun (j : Nat) (e : j = i) => show st P j = st Q j by rw [e]; exact hne)
        rw [hne] at hc1
        generalize st Q i = y at *
        have hyy : ((y : Int) != (y : Int)) = false := by simp
        clear hne
        go_wp2_with fail
        go_quiet (fail)
        go_wp2_with fail
        go_roundw
        case rel => exact ⟨i + 1, _, by omega, by go_num, fun j hj => by
          by_cases e : j = i
          · exact HE.out j e
          · exact HSo.out j (by omega), by first | rfl | (simp only [World.drewN_drewN]; rfl)⟩
        case measure => simp [intOf]; omega
      · have hdd := HDf.out i hlt HSo.out hne
        generalize st P i = x at *
        generalize st Q i = y at *
        have hxy : ((x : Int) != (y : Int)) = true := by simp; omega
        obtain ⟨tt, htt⟩ : ∃ t, decide (a < b) = t := ⟨_, rfl⟩
        rw [htt] at hdd
        have htn : (tt != tt) = false := by cases tt <;> rfl
        clear hne
        go_wp2_with fail
        go_quiet (fail)
        go_wp2_with fail
        go_quiet (fail)
        have HBd := Lib.hid (fun d => bdN HB.out d)
        go_wp2_with fail
        go_loop [19, 20] (fun v u => ∃ k : Nat, 1 ≤ k ∧ k ≤ n ∧ u = .int .i64 ((k + 1 : Nat) : Int) ∧ v = .int .i64 (fact k : Nat)) (fun _ u => n + 1 - (intOf u).toNat)
        case atStart => exact ⟨1, Nat.le_refl _, hn1, rfl, by rw [HF1.out]; rfl⟩
        case round =>
          obtain ⟨k, hk1, hk, rfl, rfl⟩ := hrel
          by_cases hkn : k + 1 ≤ n
          · have hs := HFs.out k
            have ht := HFt.out (k + 1) (by omega)
            generalize hf : fact k = f1 at *
            generalize hf2 : fact (k + 1) = f2 at *
            have HF2 := Lib.hid hf2
            clear hf hf2
            have hmul : (f1 : Int) * ((k + 1 : Nat) : Int) = (f2 : Int) := by rw [hs, Nat.mul_comm]; simp
            generalize hkk : k + 1 = kk at *
            have hk1 : 1 ≤ kk := by omega
            clear hs hkk
            go_wp2_with fail
            go_round
            case rel => exact ⟨kk, hk1, by omega, by go_num, by rw [HF2.out]⟩
            case measure => simp [intOf]; omega
          · have hfk : fact k = f := by rw [show k = n by omega]; exact HF.out
            rw [hfk]
            obtain ⟨kk, hkk⟩ : ∃ kk, k + 1 = kk := ⟨_, rfl⟩
            rw [hkk]
            have hnk : ¬ kk ≤ n := by omega
            clear hfk hkk hkn
            go_wp2_with fail
            with_reducible refine (HPk.out _).mono ?_
            rintro e w' ⟨rfl, rfl⟩
            go_wp2_with fail
            with_reducible refine (HOr.out _).mono ?_
            rintro e w_x ⟨Ax, cx, rfl, _, hlx, hnx, _, hbx⟩
            have HBx := Lib.hid (chain (HBd.out _) hbx)
            have HLx := Lib.hid hlx
            have HNx := Lib.hid hnx
            clear hlx hnx hbx
            go_wp2_with fail
            with_reducible refine (HCx.out Ax cx _ HNx.out HLx.out).mono ?_
            rintro e w_y ⟨Ay, cy, rfl, hley, hly, hny, _, hby⟩
            replace HBx := Lib.hid (chain HBx.out hby)
            have HLy := Lib.hid hly
            have HNy := Lib.hid hny
            clear hly hny hby
            go_wp2_with fail
            with_reducible refine (HNu.out Ay cy _ HNy.out HLy.out hley).mono ?_
            rintro e w_u ⟨rfl, hbu⟩
            replace HBx := Lib.hid (chain HBx.out hbu)
            clear hbu
            go_wp2_with fail
            with_reducible refine (HOe.out _).mono ?_
            rintro e w_v ⟨rfl, hbv⟩
            replace HBx := Lib.hid (chain HBx.out hbv)
            clear hbv
            go_wp2_with fail
            with_reducible refine (HPk.out _).mono ?_
            rintro e w' ⟨rfl, rfl⟩
            go_wp2_with fail
            go_ret
            exact ⟨rfl, HBx.out⟩
    · obtain rfl : n = i := by omega
      have HBd := Lib.hid (fun d => bdN HB.out d)
      go_wp2_with fail
      go_loop [19, 20] (fun v u => ∃ k : Nat, 1 ≤ k ∧ k ≤ n ∧ u = .int .i64 ((k + 1 : Nat) : Int) ∧ v = .int .i64 (fact k : Nat)) (fun _ u => n + 1 - (intOf u).toNat)
      case atStart => exact ⟨1, Nat.le_refl _, hn1, rfl, by rw [HF1.out]; rfl⟩
      case round =>
        obtain ⟨k, hk1, hk, rfl, rfl⟩ := hrel
        by_cases hkn : k + 1 ≤ n
        · have hs := HFs.out k
          have ht := HFt.out (k + 1) (by omega)
          generalize hf : fact k = f1 at *
          generalize hf2 : fact (k + 1) = f2 at *
          have HF2 := Lib.hid hf2
          clear hf hf2
          have hmul : (f1 : Int) * ((k + 1 : Nat) : Int) = (f2 : Int) := by rw [hs, Nat.mul_comm]; simp
          generalize hkk : k + 1 = kk at *
          have hk1 : 1 ≤ kk := by omega
          clear hs hkk
          go_wp2_with fail
          go_round
          case rel => exact ⟨kk, hk1, by omega, by go_num, by rw [HF2.out]⟩
          case measure => simp [intOf]; omega
        · have hfk : fact k = f := by rw [show k = n by omega]; exact HF.out
          rw [hfk]
          obtain ⟨kk, hkk⟩ : ∃ kk, k + 1 = kk := ⟨_, rfl⟩
          rw [hkk]
          have hnk : ¬ kk ≤ n := by omega
          clear hfk hkk hkn
          go_wp2_with fail
          with_reducible refine (HPk.out _).mono ?_
          rintro e w' ⟨rfl, rfl⟩
          go_wp2_with fail
          with_reducible refine (HOr.out _).mono ?_
          rintro e w_x ⟨Ax, cx, rfl, _, hlx, hnx, _, hbx⟩
          have HBx := Lib.hid (chain (HBd.out _) hbx)
          have HLx := Lib.hid hlx
          have HNx := Lib.hid hnx
          clear hlx hnx hbx
          go_wp2_with fail
          with_reducible refine (HCx.out Ax cx _ HNx.out HLx.out).mono ?_
          rintro e w_y ⟨Ay, cy, rfl, hley, hly, hny, _, hby⟩
          replace HBx := Lib.hid (chain HBx.out hby)
          have HLy := Lib.hid hly
          have HNy := Lib.hid hny
          clear hly hny hby
          go_wp2_with fail
          with_reducible refine (HNu.out Ay cy _ HNy.out HLy.out hley).mono ?_
          rintro e w_u ⟨rfl, hbu⟩
          replace HBx := Lib.hid (chain HBx.out hbu)
          clear hbu
          go_wp2_with fail
          with_reducible refine (HOe.out _).mono ?_
          rintro e w_v ⟨rfl, hbv⟩
          replace HBx := Lib.hid (chain HBx.out hbv)
          clear hbv
          go_wp2_with fail
          with_reducible refine (HPk.out _).mono ?_
          rintro e w' ⟨rfl, rfl⟩
          go_wp2_with fail
          go_ret
          exact ⟨rfl, HBx.out⟩

set_option maxRecDepth 100000 in
theorem lifted (os : Os) (started : os.Started) (H : Type) (enc : TypeId × Value → H) :
    ReturnsInHanded {} Try.checked os 14 .any (Rows.permCountedSpec.pre6 enc Try.prog Try.f14 Rows.permCountedRow.domain false) (Rows.permCountedSpec.post enc Try.prog Try.f14 false true false false) := by
  refine returnsInHanded_of_change_sized (C := Try.checked) own started (by kernel_rfl) Try.func14
    (ChangeSpec.witness6 (enc := enc) (C := Try.checked) false ⟨#[], #[.slice none 0 0, .slice none 0 0, .int .i64 0, .int .i64 0], []⟩ 8 (by kernel_rfl) (by kernel_rfl) (by kernel_rfl) (by kernel_rfl)) ?_
  intro W base args ds gs before hval0 hW hcnd hsz0 _
  have hval : ∀ (j : Nat) t v, Try.f14.params[j]? = some t → args[j]? = some v → Value.okWide Try.prog W .any base t v := hval0
  have hW' := hW
  obtain ⟨p, q, hA0, hV, rfl, hfz, hnd⟩ := hW
  have hA : DataW.TrodAll enc Try.prog W 0 (fun _ => true) true Try.f14.params.toList args.toList ds p := hA0
  have hsz : (DataW.weightsEach Try.prog (Try.f14.params.toList ++ Rows.permCountedSpec.plain.varTypes Try.prog) (ds ++ gs)).all (· ≤ reachBytes) = true := hsz0
  rw [Try.params14] at hA hval hsz
  obtain ⟨v0, vs0, d0, ds0, p0, q0, hargs, rfl, rfl, h0, r0⟩ := trodAll_cons hA
  obtain ⟨v1, vs1, d1, ds1, p1, q1, rfl, rfl, rfl, h1, r1⟩ := trodAll_cons r0
  obtain ⟨v2, vs2, d2, ds2, p2, q2, rfl, rfl, rfl, h2, r2⟩ := trodAll_cons r1
  obtain ⟨v3, vs3, d3, ds3, p3, q3, rfl, rfl, rfl, h3, r3⟩ := trodAll_cons r2
  obtain ⟨rfl, rfl, rfl⟩ := trodAll_nil r3
  obtain rfl : args = #[v0, v1, v2, v3] := by cases args; simp_all
  obtain ⟨rfl, rfl⟩ := trodVars_none hV
  obtain ⟨A0, n0, c0, rfl⟩ := okWide_slice Try.underlying22 (hval 0 22 v0 rfl rfl)
  have k0 := h0
  have lt0 : ∀ x ∈ p0, x.block < W.heap.size := by obtain ⟨m, hm⟩ := k0; exact DataW.trod_lt m _ _ _ hm
  obtain ⟨fuel0, hf0⟩ := h0
  obtain ⟨A0_, l0, c0_, hcs0, hle0, hcap0, hnil0, w0⟩ := rd_ints Try.underlying22 Try.underlying3 (by kernel_rfl) (by kernel_rfl) hf0 (weight_arg hsz (j := 0) (t := 22) rfl rfl)
  have hcs0_ : [Value.slice A0 n0 c0] = [.slice A0_ l0.length c0_] := hcs0
  simp only [List.cons.injEq, Value.slice.injEq, and_true] at hcs0_
  obtain ⟨rfl, rfl, rfl⟩ := hcs0_
  clear hcs0
  obtain ⟨A1, n1, c1, rfl⟩ := okWide_slice Try.underlying22 (hval 1 22 v1 rfl rfl)
  have k1 := h1
  have lt1 : ∀ x ∈ p1, x.block < W.heap.size := by obtain ⟨m, hm⟩ := k1; exact DataW.trod_lt m _ _ _ hm
  obtain ⟨fuel1, hf1⟩ := h1
  obtain ⟨A1_, l1, c1_, hcs1, hle1, hcap1, hnil1, w1⟩ := rd_ints Try.underlying22 Try.underlying3 (by kernel_rfl) (by kernel_rfl) hf1 (weight_arg hsz (j := 1) (t := 22) rfl rfl)
  have hcs1_ : [Value.slice A1 n1 c1] = [.slice A1_ l1.length c1_] := hcs1
  simp only [List.cons.injEq, Value.slice.injEq, and_true] at hcs1_
  obtain ⟨rfl, rfl, rfl⟩ := hcs1_
  clear hcs1
  obtain ⟨a2, rfl, rfl, rfl, w2⟩ := open_int Try.underlying3 (hval 2 3 v2 rfl rfl) h2
  obtain ⟨a3, rfl, rfl, rfl, w3⟩ := open_int Try.underlying3 (hval 3 3 v3 rfl rfl) h3
  clear hA0 hval0
  refine (walk A0 l0 c0 A1 l1 c1 a2 a3 W hle0 hcap0 hnil0 w0 hle1 hcap1 hnil1 w1 w2 w3).mono fun e W' ⟨he, bel⟩ => ?_
  subst he
  exact ⟨_, rfl, _, _, _, [], _, [], hW', trodAll_mk1 (shut_bool Try.underlying4 _), (trodAll_cons_mk (Below.trod laidOut (by kernel_rfl) (of_decide_eq_true (by kernel_rfl)) k0 bel lt0) (trodAll_cons_mk (Below.trod laidOut (by kernel_rfl) (of_decide_eq_true (by kernel_rfl)) k1 bel lt1) (trodAll_cons_mk (shut_int Try.underlying3 w2) (trodAll_cons_mk (shut_int Try.underlying3 w3) trodAll_mk0)))), rfl, bel.frame _, fun h => by cases h⟩

theorem over : Rows.permCountedRow.holds Try.pinned (OpenSpec.ofChange Rows.permCountedSpec) :=
  OpenClaim.holds_of_wide 14 Try.f14 rfl rfl rfl rfl rfl rfl rfl ⟨rfl, rfl, rfl, rfl, rfl⟩ rfl rfl rfl rfl rfl (by kernel_rfl) Try.func14 (by kernel_rfl)
    (of_decide_eq_true (by kernel_rfl)) (by unfold Func.isWrapper; first | (rw [if_pos (by decide +kernel)]; kernel_rfl) | (rw [if_neg (by decide +kernel)]; exact ⟨rfl, rfl⟩))
    (fun os started H enc _ => lifted os started H enc)

/-- THE STATEMENT. -/
theorem proved : Rows.PermCountedSaid := over
#print axioms proved
end Go.Proofs.Ytehmngecpipebaa.permCounted
