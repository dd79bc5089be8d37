/-
  For every list l and every three numbers a, b, c: in the list of at most 82 numbers that they stand for, the place that Go's rmq.Top returns for a range is the one that it returns for the first of two parts of it, or for the second if its number is greater.
  No condition.
-/
import Derived.Test.YtfijlcaiklhpiaaRows
import Derived.Test.YtfijlcaiklhpiaaFrame
import Derived.Test.YtfijlcaiklhpiaaKeep6
import Derived.WalkKit
import Derived.ProofKit
import Derived.OpenShut
import Derived.ChangeOld
import Derived.Below
import Derived.Carry
import Derived.SizedLaws
import Derived.Deep.RegionWith
import Derived.Deep.RegionHeld3
namespace Go.Proofs.Ytfijlcaiklhpiaa.topSplit
open Go.ChangeShapes Go.WideShapes Go.ChangeAt Go.RowKit Words
set_option linter.unusedVariables false

theorem own : ownKnob Try.prog.godebug = none := by kernel_rfl
theorem laidOut : laidOutB Try.prog = true := by kernel_rfl

set_option maxHeartbeats 1000000 in
/-- The walk: the Go text returns true, and writes nothing that was there. -/
theorem walk (A0 : Option Addr) (l0 : List Int) (c0 : Nat) (a1 : Int) (a2 : Int) (a3 : Int) (w : World) (hle0 : l0.length ≤ c0) (hcap0 : c0 * 8 ≤ 140737488351232) (hnil0 : A0 = none → c0 = 0) (w0 : Lies w w.heap.size A0 (l0.map (.int .i64)) ∧ ∀ z ∈ l0, (Lit.int .i64 z).wf = true) (w1 : (Lit.int .i64 a1).wf = true) (w2 : (Lit.int .i64 a2).wf = true) (w3 : (Lit.int .i64 a3).wf = true) :
    Calls Try.prog 7 #[.slice A0 l0.length c0, .int .i64 a1, .int .i64 a2, .int .i64 a3] w fun e w' => e = .returned (.bool true) ∧ Below w.heap.size w w' := by
-- walk
  have HNu := Lib.hid (numbers_own A0 l0 c0 80 20 w (by decide) (by decide) (by decide) w0.2 w0.1)
  unfold GivesOwnI at HNu
  have hns : (picks 80 20 l0).length ≤ 80 := picks_length _ _ _
  obtain ⟨L, hLL⟩ : ∃ L, L = picks 80 20 l0 ++ [4, 7] := ⟨_, rfl⟩
  have hLl : (picks 80 20 l0).length + 2 = L.length := by rw [hLL]; simp
  have HLv := Lib.hid (show (picks 80 20 l0).map (Value.int .i64) ++ [Value.int .i64 4, Value.int .i64 7] = L.map (.int .i64) by rw [hLL]; simp)
  clear w0 hnil0 hle0 hcap0 hLL
  generalize (picks 80 20 l0).map (Value.int .i64) = xs at *
  generalize (picks 80 20 l0).length = pl at *
  have hp1 := pick_lt (n := L.length - 1) (by omega) a1
  have HP1 := Lib.hid (pick_any a1 (L.length - 1) · (by omega) (by omega) w1)
  generalize pick (L.length - 1) a1 = i at *
  have hp2 := pick_lt (n := L.length - 1 - i) (by omega) a2
  have HP2 := Lib.hid (pick_any a2 (L.length - 1 - i) · (by omega) (by omega) w2)
  generalize pick (L.length - 1 - i) a2 = r at *
  have hp3 := pick_lt (n := i + 1 + r - i) (by omega) a3
  have HP3 := Lib.hid (pick_any a3 (i + 1 + r - i) · (by omega) (by omega) w3)
  generalize pick (i + 1 + r - i) a3 = s at *
  have HT1 := Lib.hid (fun A c W hnone hW => topped_any A L c i s W (by omega) hnone hW (by omega))
  have HT2 := Lib.hid (fun A c W hnone hW => topped_any A L c (i + s + 1) (r - s) W (by omega) hnone hW (by omega))
  have HT3 := Lib.hid (fun A c W hnone hW => topped_any A L c i (r + 1) W (by omega) hnone hW (by omega))
  have hj := (topN_is (nth L) i s).join (topN_is (nth L) (i + s + 1) (r - s)) (by omega) (by omega) (by omega)
  rw [show i + s + 1 + (r - s) = i + (r + 1) by omega] at hj HT2
  have hz := (topN_is (nth L) i (r + 1)).uniq hj
  have hx1 := (topN_is (nth L) i s).lo
  have hx2 := (topN_is (nth L) i s).hi
  have hy1 := (topN_is (nth L) (i + s + 1) (r - s)).lo
  have hy2 := (topN_is (nth L) (i + s + 1) (r - s)).hi
  clear hj
  generalize topN (nth L) i s = x at *
  generalize topN (nth L) (i + s + 1) (r - s) = y at *
  generalize topN (nth L) i (r + 1) = z at *
  have hs1 : (L.length : Int) - 1 = ((L.length - 1 : Nat) : Int) := by omega
  have hs2 : ((L.length - 1 : Nat) : Int) - (i : Int) = ((L.length - 1 - i : Nat) : Int) := by omega
  have hs3 : (i : Int) + 1 + (r : Int) = ((i + (r + 1) : Nat) : Int) := by omega
  have hs4 : ((i + (r + 1) : Nat) : Int) - (i : Int) = ((i + 1 + r - i : Nat) : Int) := by omega
  have hs5 : (i : Int) + (s : Int) = ((i + s : Nat) : Int) := by omega
  have hs6 : ((i + s : Nat) : Int) + 1 = ((i + s + 1 : Nat) : Int) := by omega
  have hL82 : L.length ≤ 82 := by omega
  have hxn : x < L.length := by omega
  have hyn : y < L.length := by omega
  have hxy : x < y := by omega
  have hb1 : i + (r + 1) < L.length := by omega
  have hb2 : i + s + 1 < L.length := by omega
  have hb3' : L.length - 1 ≤ 82 := by omega
  have hb4 : L.length - 1 - i ≤ 82 := by omega
  have hb5' : i + 1 + r - i ≤ 82 := by omega
  have hir : i + 1 ≤ 82 := by omega
  have hir2 : r ≤ 82 := by omega
  have hir3 : s ≤ 82 := by omega
  generalize i + 1 + r - i = q3 at *
  generalize i + (r + 1) = k at *
  generalize i + s + 1 = m1 at *
  generalize i + s = mm at *
  generalize L.length - 1 - i = q2 at *
  generalize L.length - 1 = q1 at *
  generalize hnn : L.length = n at *
  have HN := Lib.hid hnn
  clear hnn
  go_enter Try.func7, Try.ntmps7
  go_wp2_with fail
  refine HNu.out.mono ?_
  rintro e v1 ⟨v, rfl, hown, hb1⟩
  have hsz := hb1.size
  go_wp2_with (at_builtin; go_loud (refine append_from _ rfl (.tmp 18) (.tmp 19) 22 rfl w.heap.size 3 (.int .i64 0) 8 Try.underlying22 int_info rfl v pl _ rfl (hown.alloc _) (some ⟨v1.heap.size, 0, none⟩) 2 2 [.int .i64 4, .int .i64 7] rfl rfl (fun e => by cases e) (Blk.new v1 3 [.int .i64 4, .int .i64 7]).lies (by intro u hu; simp at hu; rcases hu with rfl | rfl <;> rfl) (by simp only [maxLen]; omega) (by omega) (by simp; omega) ?_))
  intro v2 v3 hown2 hg2
  rw [HLv.out] at hown2
  have hb3 : Below w.heap.size w v3 := (hb1.alloc hsz _).grown hg2 (by simp; omega) (fun q hq => (hown.lt q hq).1)
  obtain ⟨A3, c3, rfl, _, _, hl3, hn3, _⟩ := own_slice hown2
  have HL3 := Lib.hid hl3
  have HN3 := Lib.hid hn3
  clear hown2 hg2 hown hb1 hl3 hn3 hsz
  go_wp2_with fail
  refine (HP1.out _).mono ?_
  rintro e v4 ⟨rfl, rfl⟩
  go_wp2_with fail
  refine (HP2.out _).mono ?_
  rintro e v4 ⟨rfl, rfl⟩
  go_wp2_with fail
  refine (HP3.out _).mono ?_
  rintro e v4 ⟨rfl, rfl⟩
  go_wp2_with fail
  refine (HT1.out A3 c3 _ HN3.out HL3.out).mono ?_
  rintro e v5 ⟨rfl, hb5⟩
  go_wp2_with fail
  refine (HT2.out A3 c3 _ HN3.out (HL3.out.on hb5)).mono ?_
  rintro e v6 ⟨rfl, hb6⟩
  go_wp2_with fail
  refine (HT3.out A3 c3 _ HN3.out (HL3.out.on (chain hb5 hb6))).mono ?_
  rintro e v7 ⟨rfl, hb7⟩
  obtain ⟨b, o, rfl, hb, hc⟩ := (HL3.out.on (chain (chain hb5 hb6) hb7)).nums (by rw [HN.out]; omega)
  rw [HN.out] at hc
  have hcx := hc x hxn
  have hcy := hc y hyn
  have hB := chain hb3 (chain (chain hb5 hb6) hb7)
  clear hc hb5 hb6 hb7 hb3
  have hyn2 : (y : Int) < (n : Int) := by omega
  have hxn2 : (x : Int) < (n : Int) := by omega
  have hne : ((y : Int) == (x : Int)) = false := by rw [beq_eq_false_iff_ne]; omega
  have hne2 : ((x : Int) == (y : Int)) = false := by rw [beq_eq_false_iff_ne]; omega
  have heq : ∀ u : Int, (u == u) = true := fun u => by simp
  by_cases hf : nth L x < nth L y
  · rw [if_pos hf] at hz
    subst hz
    generalize nth L x = fx at *
    generalize nth L z = fz at *
    go_wp2_with fail
    go_quiet (fail)
    go_wp2_with fail
    go_ret
    exact ⟨rfl, bdN hB _⟩
  · rw [if_neg hf] at hz
    subst hz
    generalize nth L z = fx at *
    generalize nth L y = fy at *
    have hd : decide (fx < fy) = false := by simpa using hf
    clear hf
    go_wp2_with fail
    go_quiet (fail)
    go_wp2_with fail
    go_ret
    exact ⟨rfl, bdN hB _⟩

set_option maxRecDepth 100000 in
theorem lifted (os : Os) (started : os.Started) (H : Type) (enc : TypeId × Value → H) :
    ReturnsInHanded {} Try.checked os 7 .any (Rows.topSplitSpec.pre6 enc Try.prog Try.f7 Rows.topSplitRow.domain false) (Rows.topSplitSpec.post enc Try.prog Try.f7 false true false false) := by
  refine returnsInHanded_of_change_sized (C := Try.checked) own started (by kernel_rfl) Try.func7
    (ChangeSpec.witness6 (enc := enc) (C := Try.checked) false ⟨#[], #[.slice none 0 0, .int .i64 0, .int .i64 0, .int .i64 0], []⟩ 8 (by kernel_rfl) (by kernel_rfl) (by kernel_rfl) (by kernel_rfl)) ?_
  intro W base args ds gs before hval0 hW hcnd hsz0 _
  have hval : ∀ (j : Nat) t v, Try.f7.params[j]? = some t → args[j]? = some v → Value.okWide Try.prog W .any base t v := hval0
  have hW' := hW
  obtain ⟨p, q, hA0, hV, rfl, hfz, hnd⟩ := hW
  have hA : DataW.TrodAll enc Try.prog W 0 (fun _ => true) true Try.f7.params.toList args.toList ds p := hA0
  have hsz : (DataW.weightsEach Try.prog (Try.f7.params.toList ++ Rows.topSplitSpec.plain.varTypes Try.prog) (ds ++ gs)).all (· ≤ reachBytes) = true := hsz0
  rw [Try.params7] at hA hval hsz
  obtain ⟨v0, vs0, d0, ds0, p0, q0, hargs, rfl, rfl, h0, r0⟩ := trodAll_cons hA
  obtain ⟨v1, vs1, d1, ds1, p1, q1, rfl, rfl, rfl, h1, r1⟩ := trodAll_cons r0
  obtain ⟨v2, vs2, d2, ds2, p2, q2, rfl, rfl, rfl, h2, r2⟩ := trodAll_cons r1
  obtain ⟨v3, vs3, d3, ds3, p3, q3, rfl, rfl, rfl, h3, r3⟩ := trodAll_cons r2
  obtain ⟨rfl, rfl, rfl⟩ := trodAll_nil r3
  obtain rfl : args = #[v0, v1, v2, v3] := by cases args; simp_all
  obtain ⟨rfl, rfl⟩ := trodVars_none hV
  obtain ⟨A0, n0, c0, rfl⟩ := okWide_slice Try.underlying22 (hval 0 22 v0 rfl rfl)
  have k0 := h0
  have lt0 : ∀ x ∈ p0, x.block < W.heap.size := by obtain ⟨m, hm⟩ := k0; exact DataW.trod_lt m _ _ _ hm
  obtain ⟨fuel0, hf0⟩ := h0
  obtain ⟨A0_, l0, c0_, hcs0, hle0, hcap0, hnil0, w0⟩ := rd_ints Try.underlying22 Try.underlying3 (by kernel_rfl) (by kernel_rfl) hf0 (weight_arg hsz (j := 0) (t := 22) rfl rfl)
  have hcs0_ : [Value.slice A0 n0 c0] = [.slice A0_ l0.length c0_] := hcs0
  simp only [List.cons.injEq, Value.slice.injEq, and_true] at hcs0_
  obtain ⟨rfl, rfl, rfl⟩ := hcs0_
  clear hcs0
  obtain ⟨a1, rfl, rfl, rfl, w1⟩ := open_int Try.underlying3 (hval 1 3 v1 rfl rfl) h1
  obtain ⟨a2, rfl, rfl, rfl, w2⟩ := open_int Try.underlying3 (hval 2 3 v2 rfl rfl) h2
  obtain ⟨a3, rfl, rfl, rfl, w3⟩ := open_int Try.underlying3 (hval 3 3 v3 rfl rfl) h3
  clear hA0 hval0
  refine (walk A0 l0 c0 a1 a2 a3 W hle0 hcap0 hnil0 w0 w1 w2 w3).mono fun e W' ⟨he, bel⟩ => ?_
  subst he
  exact ⟨_, rfl, _, _, _, [], _, [], hW', trodAll_mk1 (shut_bool Try.underlying4 _), (trodAll_cons_mk (Below.trod laidOut (by kernel_rfl) (of_decide_eq_true (by kernel_rfl)) k0 bel lt0) (trodAll_cons_mk (shut_int Try.underlying3 w1) (trodAll_cons_mk (shut_int Try.underlying3 w2) (trodAll_cons_mk (shut_int Try.underlying3 w3) trodAll_mk0)))), rfl, bel.frame _, fun h => by cases h⟩

theorem over : Rows.topSplitRow.holds Try.pinned (OpenSpec.ofChange Rows.topSplitSpec) :=
  OpenClaim.holds_of_wide 7 Try.f7 rfl rfl rfl rfl rfl rfl rfl ⟨rfl, rfl, rfl, rfl, rfl⟩ rfl rfl rfl rfl rfl (by kernel_rfl) Try.func7 (by kernel_rfl)
    (of_decide_eq_true (by kernel_rfl)) (by unfold Func.isWrapper; first | (rw [if_pos (by decide +kernel)]; kernel_rfl) | (rw [if_neg (by decide +kernel)]; exact ⟨rfl, rfl⟩))
    (fun os started H enc _ => lifted os started H enc)

/-- THE STATEMENT. -/
theorem proved : Rows.TopSplitSaid := over
#print axioms proved
end Go.Proofs.Ytfijlcaiklhpiaa.topSplit
