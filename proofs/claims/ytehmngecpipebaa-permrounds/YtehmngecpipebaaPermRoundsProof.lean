/-
  For every list l and every two numbers size, i: of the order that l stands for, the cycles that Go's perm.Cycles tells hold every number once, and each number of a cycle is followed by the one that the order has at its place.
  No condition.
-/
import Derived.Test.YtehmngecpipebaaRows
import Derived.Test.YtehmngecpipebaaFrame
import Derived.Test.YtehmngecpipebaaPermKp
import Derived.Test.YtehmngecpipebaaPermCs
import Derived.WalkKit
import Derived.ProofKit
import Derived.OpenShut
import Derived.ChangeOld
import Derived.Below
import Derived.Carry
import Derived.SizedLaws
import Derived.Deep.RegionWith
import Derived.Deep.RegionHeld3
namespace Go.Proofs.Ytehmngecpipebaa.permRounds
open Go.ChangeShapes Go.WideShapes Go.ChangeAt Go.RowKit Words
set_option linter.unusedVariables false

theorem own : ownKnob Try.prog.godebug = none := by kernel_rfl
theorem laidOut : laidOutB Try.prog = true := by kernel_rfl
theorem cycs_at {p : List Nat} (h : PermL p) {k : Nat} (hk : k < (cycs p).length) : ∃ i, i < p.length ∧ (cycs p)[k]? = some (cyc p i) ∧ (∀ j, j < per p i → it p j i ∉ ((cycs p).take k).flatten ++ (cyc p i).take j) ∧ ((cycs p).take (k + 1)).flatten = ((cycs p).take k).flatten ++ cyc p i := by
  have hg := List.getElem?_eq_getElem hk
  obtain ⟨i, hi, e⟩ := List.mem_map.1 (List.getElem_mem hk)
  have hi2 := List.mem_range.1 (List.mem_filter.1 hi).1
  rw [← e] at hg
  refine ⟨i, hi2, hg, fun j hj hm => ?_, ?_⟩
  · have hnd := cycs_nodup h
    have sp : (cycs p).flatten = ((cycs p).take k).flatten ++ (cyc p i ++ ((cycs p).drop (k + 1)).flatten) := by
      conv => lhs; rw [← List.take_append_drop k (cycs p), List.drop_eq_getElem_cons hk, ← e, List.flatten_append, List.flatten_cons]
    rw [sp] at hnd
    have hx : it p j i ∈ cyc p i := List.mem_of_getElem? (cyc_get p i j hj)
    rcases List.mem_append.1 hm with h1 | h1
    · exact (List.nodup_append.1 hnd).2.2 _ h1 _ (List.mem_append_left _ hx) rfl
    · rw [cyc_take p i j (Nat.le_of_lt hj)] at h1
      obtain ⟨q, hq, e2⟩ := List.mem_map.1 h1
      exact it_differ h hi2 (List.mem_range.1 hq) hj e2
  · rw [List.take_add_one, hg, List.flatten_append]
    simp
theorem cycs_total {p : List Nat} (h : PermL p) : (((cycs p).take (cycs p).length).flatten).length = p.length := by
  rw [List.take_length]
  have := (cycs_perm h).length_eq
  rwa [List.length_range] at this
theorem flat_le {p : List Nat} (h : PermL p) (k : Nat) : (((cycs p).take k).flatten).length ≤ p.length := by
  have h1 := (cycs_perm h).length_eq
  rw [List.length_range] at h1
  have h2 : ((cycs p).flatten).length = (((cycs p).take k).flatten).length + (((cycs p).drop k).flatten).length := by
    rw [← List.length_append, ← List.flatten_append, List.take_append_drop]
  omega


set_option maxRecDepth 100000 in
set_option maxHeartbeats 4000000 in
/-- The walk: the Go text returns true, and writes nothing that was there. -/
theorem walk (A0 : Option Addr) (l0 : List Int) (c0 : Nat) (a1 : Int) (a2 : Int) (w : World) (hle0 : l0.length ≤ c0) (hcap0 : c0 * 8 ≤ 140737488351232) (hnil0 : A0 = none → c0 = 0) (w0 : Lies w w.heap.size A0 (l0.map (.int .i64)) ∧ ∀ z ∈ l0, (Lit.int .i64 z).wf = true) (w1 : (Lit.int .i64 a1).wf = true) (w2 : (Lit.int .i64 a2).wf = true) :
    Calls Try.prog 13 #[.slice A0 l0.length c0, .int .i64 a1, .int .i64 a2] w fun e w' => e = .returned (.bool true) ∧ Below w.heap.size w w' := by
  have hp1 := pick_lt (n := 60) (by decide) a1
  have HP1 := Lib.hid (pick_any a1 60 · (by decide) (by decide) w1)
  generalize pick 60 a1 = pk at *
  obtain ⟨n, hn⟩ : ∃ n, 1 + pk = n := ⟨_, rfl⟩
  have hk1 : (1 : Int) + (pk : Int) = (n : Int) := by omega
  have hn1 : 1 ≤ n := by omega
  have hn61 : n ≤ 61 := by omega
  clear hn
  have HS0 := Lib.hid (fun W (hW : Below w.heap.size w W) => shuffle_any A0 l0 c0 n W hn1 (by omega) (by omega) w0.2 (w0.1.on hW))
  have hP := shuf_perm l0 n
  have hl := shuf_length l0 n
  generalize shuf l0 n = P at *
  have HCo := Lib.hid (fun A c W h hW => copied_nat A P n c W hl (by omega) h hW)
  have HCy := Lib.hid (fun A c W hW => cycles_ok A P c W hP (by omega) hW)
  rw [hl] at HCy
  have hmk := make_row (P := Try.prog) 54 4 (.bool false) 1 Try.underlying54 pbool_info rfl n (by omega) (by omega)
  have HAt := Lib.hid (fun k (hk : k < (cycs P).length) => cycs_at hP hk)
  have HTot := Lib.hid (cycs_total hP)
  have HFl := Lib.hid (fun k => flat_le hP k)
  have HIt := Lib.hid (fun i (hi : i < P.length) k => it_lt hP hi k)
  have HWr := Lib.hid (fun i (hi : i < P.length) k => it_wrap hP hi k)
  have HPl := Lib.hid (fun i (hi : i < P.length) => per_le hP hi)
  have hTl : (cycs P).length ≤ n := by
    have := cycsTo_length_le P P.length
    rw [← hl]
    exact this
  have HG := Lib.hid (fun (q : List Nat) x (hx : x < n) => markN_get n q x hx)
  have HSet := Lib.hid (fun (q : List Nat) x => markN_set n q x)
  have HM := Lib.hid (show markN n ((cycs P).take 0).flatten = List.replicate n (.bool false) from markN_nil n)
  rw [hl] at HAt HTot HFl HIt HWr HPl
  have HLn := Lib.hid hl
  generalize cycs P = T at *
  clear hP hl w0 hnil0
  unfold GivesCy at HCy
  go_enter Try.func13, Try.ntmps13
  go_wp2_with fail
  refine (HP1.out _).mono ?_
  rintro e w' ⟨rfl, rfl⟩
  go_wp2_with fail
  refine (HS0.out _ (Below.refl _ _)).mono ?_
  rintro e w_1 ⟨Ap, cp, rfl, hlep, hlp, hnp, _, hbp⟩
  have HB1 := Lib.hid hbp
  have HNp := Lib.hid hnp
  have HLp := Lib.hid hlp
  clear hbp hnp hlp
  go_wp2_with fail
  refine (HCo.out Ap cp _ HNp.out HLp.out).mono ?_
  rintro e w_2 ⟨Ak, ck, rfl, hlek, hlk, hnk, _, hbk⟩
  replace HB1 := Lib.hid (chain HB1.out hbk)
  replace HLp := Lib.hid (HLp.out.on hbk)
  have HLk := Lib.hid hlk
  clear hbk hlk hnk hlek
  go_wp2_with fail
  refine (HCy.out Ak ck _ HLk.out).mono ?_
  rintro e w_3 ⟨Ay, rs, cy, rfl, hgy, hty, hny, hley, hby⟩
  replace HB1 := Lib.hid (chain HB1.out hby)
  replace HLp := Lib.hid (HLp.out.on hby)
  have hrl : rs.length = T.length := by
    have := congrArg List.length hty
    simpa using this
  have HRs := Lib.hid (fun (k : Nat) (r : Row) q (h1 : rs[k]? = some r) (h2 : T[k]? = some q) => show r.nums = ofN q by
    have h3 : (rs.map Row.nums)[k]? = some r.nums := by rw [List.getElem?_map, h1]; rfl
    rw [hty, List.getElem?_map, h2] at h3
    exact (Option.some.inj h3).symm)
  have HGy := Lib.hid hgy
  rw [hrl] at hley ⊢
  have HRl := Lib.hid hrl
  clear hgy hty hny hby hrl HLk
  go_wp2_with fail
  have hbz := zeros_blk w_3 (.bool false) n 4
  rw [← HM.out] at hbz
  have HBl := Lib.hid (bnew w_3 (.cells (zeros (.bool false) n) 4))
  generalize w_3.alloc (.cells (zeros (.bool false) n) 4) = w_4 at *
  have HBz := Lib.hid hbz
  clear hbz hmk HM
  generalize hTm : T.length = m at *
  have HTm := Lib.hid hTm
  clear hTm
  go_loopw [12, 13] (fun v u w' => ∃ k a : Nat, k ≤ m ∧ u = .int .i64 k ∧ v = .int .i64 a ∧ a = ((T.take k).flatten).length ∧ Blk w' w_3.heap.size 4 (markN n (T.take k).flatten) ∧ Below w_3.heap.size w_3 w') (fun _ u _ => m - (intOf u).toNat)
  case atStart => exact ⟨0, 0, Nat.zero_le _, rfl, rfl, by simp, HBz.out, HBl.out⟩
  case round =>
    rename World => wo
    obtain ⟨k, a, hk, rfl, rfl, ha, hbk, hbl⟩ := hrel
    have HBk := Lib.hid hbk
    have HB2 := Lib.hid hbl
    have hfl := HFl.out k
    have han : a ≤ n := by omega
    have HA := Lib.hid ha
    clear ha hfl
    by_cases hlt : k < m
    · obtain ⟨i, hi, hTk, hnew, hstep⟩ := HAt.out k hlt
      obtain ⟨by1, oy, r, rfl, hby, hrk, hcr, hLr⟩ := HGy.out.at_ (k := k) (by rw [HRl.out]; exact hlt)
      have hrn := HRs.out k r _ hrk hTk
      have hpl := HPl.out i hi
      have hpp := per_pos P i
      have hrm : r.nums.length = per P i := by rw [hrn, ofN_length, cyc_length]
      have e1 : r.nums.map (Value.int .i64) = natC (cyc P i) := by rw [hrn]; unfold ofN; rw [← natC_map]
      rw [e1] at hLr
      rw [hrm] at hcr
      have HLr := Lib.hid hLr
      have HCl := Lib.hid (cyc_length P i)
      have HCt := Lib.hid (fun j hj => cyc_take_succ P i j hj)
      have HCa := Lib.hid (cyc_take_all P i)
      have HIi := Lib.hid (fun j => HIt.out i hi j)
      have HWi := Lib.hid (fun j => HWr.out i hi j)
      have HCg := Lib.hid (fun j hj => cyc_get P i j hj)
      have HNw := Lib.hid hnew
      have HSp := Lib.hid hstep
      have HIs := Lib.hid (fun j => show it P (j + 1) i = st P (it P j i) from rfl)
      have hfl2 := HFl.out (k + 1)
      rw [hstep, List.length_append, HCl.out, ← HA.out] at hfl2
      have hcro := (bcell hbl by1 (oy + k) hby).trans hcr
      have HCr := Lib.hid hcr
      generalize r.adr = Ar at *
      generalize r.cap = cr at *
      generalize per P i = d at *
      have hapd : a + d ≤ n := hfl2
      clear hbk hbl hTk hnew hstep hrk hrn hrm e1 hLr hcr hfl2
      go_wp2_with fail
      go_loopw [12, 14] (fun v u w' => ∃ j : Nat, j ≤ d ∧ u = .int .i64 j ∧ v = .int .i64 ((a + j : Nat) : Int) ∧ Blk w' w_3.heap.size 4 (markN n ((T.take k).flatten ++ (cyc P i).take j)) ∧ Below w_3.heap.size w_3 w') (fun _ u _ => d - (intOf u).toNat)
      case atStart => exact ⟨0, Nat.zero_le _, rfl, rfl, by rw [List.take_zero, List.append_nil]; exact HBk.out, HB2.out⟩
      case round =>
        obtain ⟨j, hj, rfl, rfl, hbk, hbl⟩ := hrel
        have HBk2 := Lib.hid hbk
        have HB3 := Lib.hid hbl
        have hc1 := (bcell hbl by1 (oy + k) hby).trans HCr.out
        by_cases hjd : j < d
        · have hx := HIi.out j
          have hz := Nat.mod_lt (j + 1) hpp
          have hw := HWi.out (j + 1)
          have hs := HIs.out j
          have hxl := HNw.out j hjd
          obtain ⟨br, or_, rfl, hbr, hcx⟩ := nat_at (HLr.out.below hbl) (k := j) (by rw [HCl.out]; exact hjd)
          obtain ⟨br2, or2, e2, hbr2, hcy⟩ := nat_at (HLr.out.below hbl) (k := (j + 1) % d) (by rw [HCl.out]; exact hz)
          obtain ⟨rfl, rfl⟩ : br = br2 ∧ or_ = or2 := by
            have := Option.some.inj e2
            injection this with h1 h2
            exact ⟨h1, h2⟩
          rw [st_of (HCg.out j hjd)] at hcx
          rw [st_of (HCg.out _ hz), ← hw, hs] at hcy
          obtain ⟨bp, op, rfl, hbp2, hcp⟩ := nat_at (HLp.out.below hbl) (k := it P j i) (by rw [HLn.out]; exact hx)
          have hcs := hbk.cell (it P j i)
          rw [HG.out _ _ hx, decide_eq_false hxl] at hcs
          have hfz := hbk.frozen (it P j i)
          have HTk := Lib.hid (HCt.out j hjd)
          generalize it P j i = x at *
          generalize st P x = y at *
          have HMod := Lib.hid (show ((j : Int) + 1).tmod (d : Int) = (((j + 1) % d : Nat) : Int) by
            rw [show (j : Int) + 1 = ((j + 1 : Nat) : Int) by omega, Int.tmod_eq_emod_of_nonneg (by omega)]
            exact (Int.natCast_emod _ _).symm)
          generalize (j + 1) % d = z at *
          have hwr : IntKind.i64.wrap ((j : Int) + 1) = (j : Int) + 1 := IntWalk.i64_in _ (by omega)
          have hmod := HMod.out
          have hd0 : decide ((x : Int) < 0) = false := by simp
          have hd1 : decide (n ≤ x) = false := by simp; omega
          have hyy : ((y : Int) != (y : Int)) = false := by simp
          have i1 : (x : Int) < (n : Int) := by omega
          have i2 : (z : Int) < (d : Int) := by omega
          have i3 : (k : Int) < (m : Int) := by omega
          have i4 : (j : Int) < (d : Int) := by omega
          have i5 : (0 : Int) < (d : Int) := by omega
          clear hw hs hxl e2 hbk hbl
          go_wp2_with fail
          go_quiet (fail)
          clear hwr hmod hd0 hd1 hyy hcy hcp hcx i2 i4 i5 hc1
          go_wp2_with fail
          go_roundw
          case rel => exact ⟨j + 1, by omega, by go_num, by go_num, by
            rw [HTk.out, ← List.append_assoc, ← HSet.out]
            exact (HBk2.out.drewN _).put x (.bool true), (bdN HB3.out _).setCell (Nat.le_refl _) _⟩
          case measure => simp [intOf]; omega
        · obtain rfl : d = j := by omega
          rw [HCa.out] at hbk
          have HBk3 := Lib.hid hbk
          have HAl := Lib.hid (show a + d = ((T.take (k + 1)).flatten).length by rw [HSp.out, List.length_append, HCl.out, ← HA.out])
          clear hbk hbl
          go_wp2_with fail
          go_roundw
          case rel => exact ⟨k + 1, a + d, by omega, by go_num, rfl, HAl.out, by rw [HSp.out]; exact HBk3.out, HB3.out⟩
          case measure => simp [intOf]; omega
    · obtain rfl : m = k := by omega
      have hat := HTot.out
      rw [← HA.out] at hat
      subst hat
      have hee : ((a : Int) == (a : Int)) = true := by simp
      clear hbk hbl
      go_wp2_with fail
      go_ret
      exact ⟨rfl, chain HB1.out HB2.out⟩

set_option maxRecDepth 100000 in
theorem lifted (os : Os) (started : os.Started) (H : Type) (enc : TypeId × Value → H) :
    ReturnsInHanded {} Try.checked os 13 .any (Rows.permRoundsSpec.pre6 enc Try.prog Try.f13 Rows.permRoundsRow.domain false) (Rows.permRoundsSpec.post enc Try.prog Try.f13 false true false false) := by
  refine returnsInHanded_of_change_sized (C := Try.checked) own started (by kernel_rfl) Try.func13
    (ChangeSpec.witness6 (enc := enc) (C := Try.checked) false ⟨#[], #[.slice none 0 0, .int .i64 0, .int .i64 0], []⟩ 8 (by kernel_rfl) (by kernel_rfl) (by kernel_rfl) (by kernel_rfl)) ?_
  intro W base args ds gs before hval0 hW hcnd hsz0 _
  have hval : ∀ (j : Nat) t v, Try.f13.params[j]? = some t → args[j]? = some v → Value.okWide Try.prog W .any base t v := hval0
  have hW' := hW
  obtain ⟨p, q, hA0, hV, rfl, hfz, hnd⟩ := hW
  have hA : DataW.TrodAll enc Try.prog W 0 (fun _ => true) true Try.f13.params.toList args.toList ds p := hA0
  have hsz : (DataW.weightsEach Try.prog (Try.f13.params.toList ++ Rows.permRoundsSpec.plain.varTypes Try.prog) (ds ++ gs)).all (· ≤ reachBytes) = true := hsz0
  rw [Try.params13] at hA hval hsz
  obtain ⟨v0, vs0, d0, ds0, p0, q0, hargs, rfl, rfl, h0, r0⟩ := trodAll_cons hA
  obtain ⟨v1, vs1, d1, ds1, p1, q1, rfl, rfl, rfl, h1, r1⟩ := trodAll_cons r0
  obtain ⟨v2, vs2, d2, ds2, p2, q2, rfl, rfl, rfl, h2, r2⟩ := trodAll_cons r1
  obtain ⟨rfl, rfl, rfl⟩ := trodAll_nil r2
  obtain rfl : args = #[v0, v1, v2] := by cases args; simp_all
  obtain ⟨rfl, rfl⟩ := trodVars_none hV
  obtain ⟨A0, n0, c0, rfl⟩ := okWide_slice Try.underlying22 (hval 0 22 v0 rfl rfl)
  have k0 := h0
  have lt0 : ∀ x ∈ p0, x.block < W.heap.size := by obtain ⟨m, hm⟩ := k0; exact DataW.trod_lt m _ _ _ hm
  obtain ⟨fuel0, hf0⟩ := h0
  obtain ⟨A0_, l0, c0_, hcs0, hle0, hcap0, hnil0, w0⟩ := rd_ints Try.underlying22 Try.underlying3 (by kernel_rfl) (by kernel_rfl) hf0 (weight_arg hsz (j := 0) (t := 22) rfl rfl)
  have hcs0_ : [Value.slice A0 n0 c0] = [.slice A0_ l0.length c0_] := hcs0
  simp only [List.cons.injEq, Value.slice.injEq, and_true] at hcs0_
  obtain ⟨rfl, rfl, rfl⟩ := hcs0_
  clear hcs0
  obtain ⟨a1, rfl, rfl, rfl, w1⟩ := open_int Try.underlying3 (hval 1 3 v1 rfl rfl) h1
  obtain ⟨a2, rfl, rfl, rfl, w2⟩ := open_int Try.underlying3 (hval 2 3 v2 rfl rfl) h2
  clear hA0 hval0
  refine (walk A0 l0 c0 a1 a2 W hle0 hcap0 hnil0 w0 w1 w2).mono fun e W' ⟨he, bel⟩ => ?_
  subst he
  exact ⟨_, rfl, _, _, _, [], _, [], hW', trodAll_mk1 (shut_bool Try.underlying4 _), (trodAll_cons_mk (Below.trod laidOut (by kernel_rfl) (of_decide_eq_true (by kernel_rfl)) k0 bel lt0) (trodAll_cons_mk (shut_int Try.underlying3 w1) (trodAll_cons_mk (shut_int Try.underlying3 w2) trodAll_mk0))), rfl, bel.frame _, fun h => by cases h⟩

theorem over : Rows.permRoundsRow.holds Try.pinned (OpenSpec.ofChange Rows.permRoundsSpec) :=
  OpenClaim.holds_of_wide 13 Try.f13 rfl rfl rfl rfl rfl rfl rfl ⟨rfl, rfl, rfl, rfl, rfl⟩ rfl rfl rfl rfl rfl (by kernel_rfl) Try.func13 (by kernel_rfl)
    (of_decide_eq_true (by kernel_rfl)) (by unfold Func.isWrapper; first | (rw [if_pos (by decide +kernel)]; kernel_rfl) | (rw [if_neg (by decide +kernel)]; exact ⟨rfl, rfl⟩))
    (fun os started H enc _ => lifted os started H enc)

/-- THE STATEMENT. -/
theorem proved : Rows.PermRoundsSaid := over
#print axioms proved
end Go.Proofs.Ytehmngecpipebaa.permRounds
