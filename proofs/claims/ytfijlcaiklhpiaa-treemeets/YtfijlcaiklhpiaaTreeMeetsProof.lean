/-
  For every list l and every two numbers a, b: in the list of at most 61 numbers that they stand for, the ways of two places from parent to parent, as Go's rmq.Tree returns the parents, meet at the place that rmq.Top returns for the range between them; no parent is less than its child.
  No condition.
-/
import Derived.Test.YtfijlcaiklhpiaaRows
import Derived.Test.YtfijlcaiklhpiaaFrame
import Derived.Test.YtfijlcaiklhpiaaKeep6
import Derived.Test.YtfijlcaiklhpiaaRmqTree
import Derived.Test.YtfijlcaiklhpiaaMeet
import Derived.WalkKit
import Derived.ProofKit
import Derived.OpenShut
import Derived.ChangeOld
import Derived.Below
import Derived.Carry
import Derived.SizedLaws
import Derived.Deep.RegionWith
import Derived.Deep.RegionHeld3
namespace Go.Proofs.Ytfijlcaiklhpiaa.treeMeets
open Go.ChangeShapes Go.WideShapes Go.ChangeAt Go.RowKit Words
set_option linter.unusedVariables false

theorem own : ownKnob Try.prog.godebug = none := by kernel_rfl
theorem laidOut : laidOutB Try.prog = true := by kernel_rfl
theorem kbool_info : (Try.prog.info? 4).map (fun i => (i.zero, i.size, i.bytes)) = some (some (.bool false), 1, 1) := by kernel_rfl
theorem bool_at (ab : List Bool) (q : Nat) (h : q < ab.length) : (ab.map Value.bool)[q]? = some (.bool (ab.getD q false)) := by
  rw [List.getElem?_map, List.getD, List.getElem?_eq_getElem h]
  rfl


set_option maxRecDepth 100000 in
set_option maxHeartbeats 4000000 in
/-- The walk: the Go text returns true, and writes nothing that was there. -/
theorem walk (A0 : Option Addr) (l0 : List Int) (c0 : Nat) (a1 : Int) (a2 : Int) (w : World) (hle0 : l0.length ≤ c0) (hcap0 : c0 * 8 ≤ 140737488351232) (hnil0 : A0 = none → c0 = 0) (w0 : Lies w w.heap.size A0 (l0.map (.int .i64)) ∧ ∀ z ∈ l0, (Lit.int .i64 z).wf = true) (w1 : (Lit.int .i64 a1).wf = true) (w2 : (Lit.int .i64 a2).wf = true) :
    Calls Try.prog 8 #[.slice A0 l0.length c0, .int .i64 a1, .int .i64 a2] w fun e w' => e = .returned (.bool true) ∧ Below w.heap.size w w' := by
  have HNu := Lib.hid (numbers_own A0 l0 c0 60 15 w (by decide) (by decide) (by decide) w0.2 w0.1)
  unfold GivesOwnI at HNu
  have hns : (picks 60 15 l0).length ≤ 60 := picks_length _ _ _
  obtain ⟨L, hLL⟩ : ∃ L, L = picks 60 15 l0 ++ [4] := ⟨_, rfl⟩
  have hLl : (picks 60 15 l0).length + 1 = L.length := by rw [hLL]; simp
  have HLv := Lib.hid (show (picks 60 15 l0).map (Value.int .i64) ++ [Value.int .i64 4] = L.map (.int .i64) by rw [hLL]; simp)
  clear w0 hnil0 hle0 hcap0 hLL
  generalize (picks 60 15 l0).map (Value.int .i64) = xs at *
  generalize (picks 60 15 l0).length = pl at *
  have hp1 := pick_lt (n := L.length) (by omega) a1
  have HP1 := Lib.hid (pick_any a1 L.length · (by omega) (by omega) w1)
  generalize pick L.length a1 = i at *
  have hp2 := pick_lt (n := L.length - i) (by omega) a2
  have HP2 := Lib.hid (pick_any a2 (L.length - i) · (by omega) (by omega) w2)
  generalize pick (L.length - i) a2 = m at *
  have HCo := Lib.hid (fun A c W hnone hW => copied_any A L c W (by omega) hnone hW)
  have HTr := Lib.hid (fun A c W hW => tree_any A L c W (by omega) hW)
  have HTo := Lib.hid (fun A c W hnone hW => topped_any A L c i m W (by omega) hnone hW (by omega))
  have hT := topN_is (nth L) i m
  have ht1 := hT.lo
  have ht2 := hT.hi
  have HT := Lib.hid hT
  clear hT
  generalize topN (nth L) i m = t at *
  have HLm := Lib.hid (show (L.map (Value.int .i64)).length = L.length by simp)
  have HPl := Lib.hid (pars_length (nth L) L.length)
  have HPg := Lib.hid (show ∀ q, q < L.length → nth (pars (nth L) L.length) q = parOf (nth L) L.length q from fun q hq => nth_get _ q _ (pars_get _ _ _ hq))
  have hsub : (L.length : Int) - (i : Int) = ((L.length - i : Nat) : Int) := by omega
  have hsum : (i : Int) + (m : Int) = ((i + m : Nat) : Int) := by omega
  have hin : i + m < L.length := by omega
  have hL61 : L.length ≤ 61 := by omega
  generalize hzz : i + m = z at *
  have hiz : i ≤ z := by omega
  clear hzz
  have hq0 : L.length - i ≤ 61 := by omega
  generalize L.length - i = q at *
  have hmk := make_row (P := Try.prog) 40 4 (.bool false) 1 Try.underlying40 kbool_info rfl L.length (by omega) (by omega)
  generalize pars (nth L) L.length = P at *
  generalize hff : nth L = f at *
  have HF := Lib.hid hff
  clear hff
  generalize hnn : L.length = n at *
  have HN := Lib.hid hnn
  clear hnn
  go_enter Try.func8, Try.ntmps8
  go_wp2_with fail
  refine HNu.out.mono ?_
  rintro e v1 ⟨v, rfl, hown, hb1⟩
  have hsz := hb1.size
  go_wp2_with (at_builtin; go_loud (refine append_one _ rfl (.tmp 17) (.tmp 18) 22 rfl w.heap.size 3 (.int .i64 0) 8 Try.underlying22 int_info rfl v pl _ rfl (hown.alloc _) v1.heap.size 1 (.int .i64 4) rfl (by simp) rfl (by simp only [maxLen]; omega) (by omega) (by simp; omega) ?_))
  intro v2 v3 hown2 hg2
  rw [HLv.out] at hown2
  have hb3 : Below w.heap.size w v3 := (hb1.alloc hsz _).grown hg2 (by simp; omega) (fun q hq => (hown.lt q hq).1)
  obtain ⟨A3, c3, rfl, _, _, hl3, hn3, _⟩ := own_slice hown2
  have HL3 := Lib.hid hl3
  have HN3 := Lib.hid hn3
  clear hown2 hg2 hown hb1 hl3 hn3 hsz
  go_wp2_with fail
  refine (HCo.out A3 c3 _ HN3.out HL3.out).mono ?_
  rintro e v4 ⟨A4, c4, rfl, _, hl4, _, _, hb4⟩
  have HL4 := Lib.hid hl4
  clear hl4
  rw [HLm.out]
  go_wp2_with fail
  refine (HTr.out A4 c4 _ HL4.out).mono ?_
  rintro e v5 ⟨A5, c5, rfl, hl5, _, hb5⟩
  have hl3 := HL3.out.on (chain hb4 hb5)
  obtain ⟨b, o, rfl, hb, hc⟩ := hl3.nums (by rw [HN.out]; omega)
  obtain ⟨b5, o5, rfl, hbt, hc5⟩ := hl5.nums (by rw [HPl.out]; omega)
  rw [HN.out, HF.out] at hc
  rw [HPl.out] at hc5 ⊢
  have HC := Lib.hid hc
  have HC5 := Lib.hid (show ∀ k, k < n → v5.cell? ⟨b5, o5 + k, none⟩ = some (.int .i64 (parOf f n k)) from fun k hk => by rw [hc5 k hk, HPg.out k hk])
  have HL5 := Lib.hid hl3
  have hB5 := chain hb3 (chain hb4 hb5)
  clear hc hc5 hl3 hl5 hb3 hb4 hb5 HL3 HL4
  have hnn : ((n : Int) != (n : Int)) = false := by simp
  go_wp2_with fail
  refine (HP1.out _).mono ?_
  rintro e v6 ⟨rfl, rfl⟩
  go_wp2_with fail
  refine (HP2.out _).mono ?_
  rintro e v6 ⟨rfl, rfl⟩
  go_wp2_with fail
  go_loopw [13, 14] (fun sx sc w' => ∃ (x : Int) (cn : Nat) (ab : List Bool), sx = .int .i64 x ∧ sc = .int .i64 cn ∧ cn ≤ n + 1 ∧ (∀ p : Nat, x = p → cn + cntAbv f n p ≤ n) ∧ Seen f n i x ab ∧ Blk w' v5.heap.size 4 (ab.map .bool) ∧ Below v5.heap.size v5 w') (fun _ sc _ => n + 2 - (intOf sc).toNat)
  case atStart => exact ⟨(i : Nat), 0, List.replicate n false, rfl, rfl, Nat.zero_le _, fun p _ => by have := cntAbv_le f n p; omega, Seen.start f hp1, by rw [List.map_replicate]; exact zeros_blk v5 (.bool false) n 4, bnew _ _⟩
  case round =>
    obtain ⟨x, cn, ab, rfl, rfl, hcn, hcnt, hse, hB, hbl⟩ := hrel
    have HCN := Lib.hid hcnt
    have HSE := Lib.hid hse
    have HBL := Lib.hid hbl
    have hc1 := bcell hbl
    clear hcnt hbl
    rcases hse.seen with ⟨rfl, _⟩ | ⟨p, rfl, hp, _, _⟩
    · -- the second walk
      clear hse hc1
      have HDn := Lib.hid HSE.out.done
      have HAb := Lib.hid (show ∀ q, q < n → wr.cell? ⟨v5.heap.size, q, none⟩ = some (.bool (ab.getD q false)) from fun q hq => by rw [hB.cell]; exact bool_at ab q (by rw [HSE.out.len]; exact hq))
      have HC1 := Lib.hid (fun k hk => (bcell HBL.out b5 (o5 + k) hbt).trans (HC5.out k hk))
      have HL6 := Lib.hid (HL5.out.on HBL.out)
      have hB6 := chain hB5 HBL.out
      clear hB HBL HSE HCN HC HC5 HL5 hB5 hcn
      obtain ⟨W1, hW1⟩ : ∃ W1, W1 = wr := ⟨_, rfl⟩
      subst hW1
      go_wp2_with fail
      go_loopw [13, 15] (fun sx sc w' => ∃ p cn : Nat, sx = .int .i64 p ∧ sc = .int .i64 cn ∧ p < n ∧ Abv f z p ∧ Abv f p t ∧ cn + cntAbv f n p ≤ n ∧ w' = W1) (fun _ sc _ => n + 2 - (intOf sc).toNat)
      case atStart => exact ⟨z, 0, rfl, rfl, hin, Abv.self f z, (top_above HT.out).2, by have := cntAbv_le f n z; omega, rfl⟩
      case round =>
        obtain ⟨p, cn, rfl, rfl, hp, ha1, ha2, hcnt, rfl⟩ := hrel
        have hap := HAb.out p hp
        have hcn : cn ≤ n := by omega
        have hpn : (p : Int) < (n : Int) := by omega
        by_cases hab : ab.getD p false = true
        · rw [hab] at hap
          have hpt : p = t := meets HT.out ha1 ((HDn.out p hp).1 hab) ha2
          clear ha1 ha2 hcnt hab HDn HAb
          subst hpt
          have hpp : ((p : Int) == (p : Int)) = true := by simp
          go_wp2_with fail
          refine (HTo.out _ c3 _ HN3.out HL6.out).mono ?_
          rintro e v7 ⟨rfl, hb7⟩
          go_wp2_with fail
          go_ret
          exact ⟨rfl, chain hB6 hb7⟩
        · have hab2 : ab.getD p false = false := by simpa using hab
          rw [hab2] at hap
          obtain ⟨q', hq', hqn, hq1, hq2⟩ := walk_step HT.out (by omega) hp ha1 ha2 (fun h => hab ((HDn.out p hp).2 h))
          have HCS := Lib.hid (cnt_step hp hq' hcnt)
          have hcp := HC1.out p hp
          rw [hq'] at hcp
          have HQ1 := Lib.hid hq1
          have HQ2 := Lib.hid hq2
          have hd1 : decide (n < cn) = false := by simp; omega
          have hd2 : decide (n ≤ q') = false := by simp; omega
          clear ha1 ha2 hcnt hab hab2 hq' hq1 hq2
          go_wp2_with fail
          go_roundw
          case rel => exact ⟨q', cn + 1, rfl, by go_num, hqn, HQ1.out, HQ2.out, HCS.out, by trivial⟩
          case measure => simp [intOf]; omega
    · have hcnt := HCN.out p rfl
      have hcn2 : cn ≤ n := by omega
      have hpn : (p : Int) < (n : Int) := by omega
      have hcp := (hc1 b5 (o5 + p) hbt).trans (HC5.out p hp)
      have hfp := (hc1 b (o + p) hb).trans (HC.out p hp)
      have HStep := Lib.hid HSE.out.step
      have hab : wr.cell? ⟨v5.heap.size, p, none⟩ = some (.bool (ab.getD p false)) := by rw [hB.cell]; exact bool_at ab p (by rw [HSE.out.len]; exact hp)
      have hfz := hB.frozen p
      have HPut := Lib.hid (fun d => (hB.drewN d).put p (.bool true))
      have hd1 : decide (n < cn) = false := by simp; omega
      have hd2 : decide (n ≤ p) = false := by simp; omega
      rcases parOf_cases f hp with e | ⟨q', e, hqn, _, _, hge⟩
      · rw [e] at hcp HStep
        have hd3 : decide ((n : Int) ≤ -1) = false := by simp; omega
        clear hB hse e hc1 hcnt
        generalize ab.getD p false = ab0 at *
        generalize f p = fp at *
        go_wp2_with fail
        go_quiet (fail)
        go_wp2_with fail
        go_roundw
        case rel => exact ⟨-1, cn + 1, ab.set p true, rfl, by go_num, by omega, (fun p' hp' => by omega), HStep.out, by rw [List.map_set]; exact HPut.out _, (bdN HBL.out _).setCell (Nat.le_refl _) _⟩
        case measure => simp [intOf]; omega
      · have HCS := Lib.hid (cnt_step hp e hcnt)
        rw [e] at hcp HStep
        have hfq := (hc1 b (o + q') hb).trans (HC.out q' hqn)
        have hd3 : decide (n ≤ q') = false := by simp; omega
        have hd4 : decide (f q' < f p) = false := by simp; omega
        have hqn2 : (q' : Int) < (n : Int) := by omega
        clear hB hse e hc1 hcnt hge
        generalize ab.getD p false = ab0 at *
        generalize f p = fp at *
        generalize f q' = fq at *
        go_wp2_with fail
        go_quiet (fail)
        go_wp2_with fail
        go_roundw
        case rel => exact ⟨(q' : Nat), cn + 1, ab.set p true, rfl, by go_num, by omega, (fun p' hp' => by
          obtain rfl : p' = q' := by omega
          exact HCS.out), HStep.out, by rw [List.map_set]; exact HPut.out _, (bdN HBL.out _).setCell (Nat.le_refl _) _⟩
        case measure => simp [intOf]; omega

set_option maxRecDepth 100000 in
theorem lifted (os : Os) (started : os.Started) (H : Type) (enc : TypeId × Value → H) :
    ReturnsInHanded {} Try.checked os 8 .any (Rows.treeMeetsSpec.pre6 enc Try.prog Try.f8 Rows.treeMeetsRow.domain false) (Rows.treeMeetsSpec.post enc Try.prog Try.f8 false true false false) := by
  refine returnsInHanded_of_change_sized (C := Try.checked) own started (by kernel_rfl) Try.func8
    (ChangeSpec.witness6 (enc := enc) (C := Try.checked) false ⟨#[], #[.slice none 0 0, .int .i64 0, .int .i64 0], []⟩ 8 (by kernel_rfl) (by kernel_rfl) (by kernel_rfl) (by kernel_rfl)) ?_
  intro W base args ds gs before hval0 hW hcnd hsz0 _
  have hval : ∀ (j : Nat) t v, Try.f8.params[j]? = some t → args[j]? = some v → Value.okWide Try.prog W .any base t v := hval0
  have hW' := hW
  obtain ⟨p, q, hA0, hV, rfl, hfz, hnd⟩ := hW
  have hA : DataW.TrodAll enc Try.prog W 0 (fun _ => true) true Try.f8.params.toList args.toList ds p := hA0
  have hsz : (DataW.weightsEach Try.prog (Try.f8.params.toList ++ Rows.treeMeetsSpec.plain.varTypes Try.prog) (ds ++ gs)).all (· ≤ reachBytes) = true := hsz0
  rw [Try.params8] at hA hval hsz
  obtain ⟨v0, vs0, d0, ds0, p0, q0, hargs, rfl, rfl, h0, r0⟩ := trodAll_cons hA
  obtain ⟨v1, vs1, d1, ds1, p1, q1, rfl, rfl, rfl, h1, r1⟩ := trodAll_cons r0
  obtain ⟨v2, vs2, d2, ds2, p2, q2, rfl, rfl, rfl, h2, r2⟩ := trodAll_cons r1
  obtain ⟨rfl, rfl, rfl⟩ := trodAll_nil r2
  obtain rfl : args = #[v0, v1, v2] := by cases args; simp_all
  obtain ⟨rfl, rfl⟩ := trodVars_none hV
  obtain ⟨A0, n0, c0, rfl⟩ := okWide_slice Try.underlying22 (hval 0 22 v0 rfl rfl)
  have k0 := h0
  have lt0 : ∀ x ∈ p0, x.block < W.heap.size := by obtain ⟨m, hm⟩ := k0; exact DataW.trod_lt m _ _ _ hm
  obtain ⟨fuel0, hf0⟩ := h0
  obtain ⟨A0_, l0, c0_, hcs0, hle0, hcap0, hnil0, w0⟩ := rd_ints Try.underlying22 Try.underlying3 (by kernel_rfl) (by kernel_rfl) hf0 (weight_arg hsz (j := 0) (t := 22) rfl rfl)
  have hcs0_ : [Value.slice A0 n0 c0] = [.slice A0_ l0.length c0_] := hcs0
  simp only [List.cons.injEq, Value.slice.injEq, and_true] at hcs0_
  obtain ⟨rfl, rfl, rfl⟩ := hcs0_
  clear hcs0
  obtain ⟨a1, rfl, rfl, rfl, w1⟩ := open_int Try.underlying3 (hval 1 3 v1 rfl rfl) h1
  obtain ⟨a2, rfl, rfl, rfl, w2⟩ := open_int Try.underlying3 (hval 2 3 v2 rfl rfl) h2
  clear hA0 hval0
  refine (walk A0 l0 c0 a1 a2 W hle0 hcap0 hnil0 w0 w1 w2).mono fun e W' ⟨he, bel⟩ => ?_
  subst he
  exact ⟨_, rfl, _, _, _, [], _, [], hW', trodAll_mk1 (shut_bool Try.underlying4 _), (trodAll_cons_mk (Below.trod laidOut (by kernel_rfl) (of_decide_eq_true (by kernel_rfl)) k0 bel lt0) (trodAll_cons_mk (shut_int Try.underlying3 w1) (trodAll_cons_mk (shut_int Try.underlying3 w2) trodAll_mk0))), rfl, bel.frame _, fun h => by cases h⟩

theorem over : Rows.treeMeetsRow.holds Try.pinned (OpenSpec.ofChange Rows.treeMeetsSpec) :=
  OpenClaim.holds_of_wide 8 Try.f8 rfl rfl rfl rfl rfl rfl rfl ⟨rfl, rfl, rfl, rfl, rfl⟩ rfl rfl rfl rfl rfl (by kernel_rfl) Try.func8 (by kernel_rfl)
    (of_decide_eq_true (by kernel_rfl)) (by unfold Func.isWrapper; first | (rw [if_pos (by decide +kernel)]; kernel_rfl) | (rw [if_neg (by decide +kernel)]; exact ⟨rfl, rfl⟩))
    (fun os started H enc _ => lifted os started H enc)

/-- THE STATEMENT. -/
theorem proved : Rows.TreeMeetsSaid := over
#print axioms proved
end Go.Proofs.Ytfijlcaiklhpiaa.treeMeets
