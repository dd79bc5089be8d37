/-
  For every list l and every number bound: of the at most 91 numbers that they stand for, the number of a rank is the number at ranks.Make's values, ranks.Find of a number is its rank and of the next number one more, the values rise, and ranks of ranks are the ranks again.
  No condition.
-/
import Derived.Test.YthdkhmmehdgonaaRows
import Derived.Test.YthdkhmmehdgonaaFrame
import Derived.Test.YthdkhmmehdgonaaRnkMk
import Derived.Test.YthdkhmmehdgonaaSameI
import Derived.Test.YthdkhmmehdgonaaSgnK
import Derived.WalkKit
import Derived.ProofKit
import Derived.OpenShut
import Derived.ChangeOld
import Derived.Below
import Derived.Carry
import Derived.SizedLaws
import Derived.Deep.RegionWith
import Derived.Deep.RegionHeld3
namespace Go.Proofs.Ythdkhmmehdgonaa.ranksTrue
open Go.ChangeShapes Go.WideShapes Go.ChangeAt Go.RowKit Words
set_option linter.unusedVariables false

theorem own : ownKnob Try.prog.godebug = none := by kernel_rfl
theorem laidOut : laidOutB Try.prog = true := by kernel_rfl
/-- What is asked of a list's ranks. -/
theorem rank_facts (ns : List Int) : ∀ (i : Nat) (x : Int), ns[i]? = some x → ∃ r : Nat, (rks ns)[i]? = some (r : Int) ∧ r < (dst ns).length ∧ (dst ns)[r]? = some x ∧ cntL (dst ns) x = r ∧ cntL (dst ns) (x + 1) = r + 1 := fun i x h => by
  have hm : x ∈ dst ns := (dst_mem ns x).2 (List.mem_of_getElem? h)
  exact ⟨cntL (dst ns) x, rks_get h, cnt_lt (dst_lt ns) hm, at_cnt (dst_lt ns) hm, rfl, cnt_next (dst_lt ns) hm⟩
theorem dst_up (ns : List Int) : ∀ (i : Nat) (x y : Int), (dst ns)[i]? = some x → (dst ns)[i + 1]? = some y → x < y := fun i x y h1 h2 => by
  obtain ⟨a, e1⟩ := List.getElem?_eq_some_iff.1 h1
  obtain ⟨b, e2⟩ := List.getElem?_eq_some_iff.1 h2
  have := List.pairwise_iff_getElem.1 (dst_lt ns) i (i + 1) a b (by omega)
  rwa [e1, e2] at this


set_option maxRecDepth 100000 in
set_option maxHeartbeats 4000000 in
/-- The walk: the Go text returns true, and writes nothing that was there. -/
theorem walk (A0 : Option Addr) (l0 : List Int) (c0 : Nat) (a1 : Int) (w : World) (hle0 : l0.length ≤ c0) (hcap0 : c0 * 8 ≤ 140737488351232) (hnil0 : A0 = none → c0 = 0) (w0 : Lies w w.heap.size A0 (l0.map (.int .i64)) ∧ ∀ z ∈ l0, (Lit.int .i64 z).wf = true) (w1 : (Lit.int .i64 a1).wf = true) :
    Calls Try.prog 5 #[.slice A0 l0.length c0, .int .i64 a1] w fun e w' => e = .returned (.bool true) ∧ Below w.heap.size w w' := by
  have hp1 := pick_lt (n := 1000) (by decide) a1
  have HP1 := Lib.hid (pick_any a1 1000 · (by decide) (by decide) w1)
  generalize pick 1000 a1 = p at *
  obtain ⟨q, hq⟩ : ∃ q, 1 + p = q := ⟨_, rfl⟩
  have hq1 : (1 : Int) + (p : Int) = (q : Int) := by omega
  have hqb : q ≤ 1000 := by omega
  have HSg := Lib.hid (signed_list A0 l0 c0 90 q w (by decide) (by omega) w0.2 w0.1)
  unfold GivesOwnI at HSg
  have hsl := sgnL_length 90 q l0
  have hsb := sgnL_lim 90 q l0
  clear w0 hnil0 hq
  generalize sgnL 90 q l0 = ss at *
  obtain ⟨ns, hns⟩ : ∃ ns, ss ++ [4] = ns := ⟨_, rfl⟩
  have hnsb : ∀ z ∈ ns, -1001 ≤ z ∧ z ≤ 1001 := fun z hz => by
    rw [← hns, List.mem_append, List.mem_singleton] at hz
    rcases hz with hz | rfl
    · have := hsb z hz; omega
    · omega
  have hnl : ns.length = ss.length + 1 := by rw [← hns, List.length_append]; rfl
  have HCe := Lib.hid (show ss.map (Value.int .i64) ++ [Value.int .i64 4] = ns.map (.int .i64) by rw [← hns, List.map_append]; rfl)
  have hdl := dst_length_le ns
  have hM1 := fun A c W hW => make_ranks A ns c W (by omega) hW
  have hM2 := fun A c W hW => make_ranks A (rks ns) c W (by rw [rks_length]; omega) hW
  rw [dst_rks, rks_rks, rks_length] at hM2
  have hC1 := fun A c W hA hW => copied_any A ns c W (by omega) hA hW
  have hC2 := fun A c W hA hW => copied_any A (rks ns) c W (by rw [rks_length]; omega) hA hW
  have hC3 := fun A c W hA hW => copied_any A (dst ns) c W (by omega) hA hW
  have hS := fun A A2 c c2 W h1 h2 => sameIntsK_eq A A2 (rks ns) c c2 W (by rw [rks_length]; omega) h1 h2
  have hF := fun A c x W hW => find_ok A (dst ns) c x W (by omega) (dst_lt ns) hW
  have HI := Lib.hid (rank_facts ns)
  have HV := Lib.hid (dst_up ns)
  have HU := Lib.hid (fun i h => upto_get (dst ns).length i h)
  have HUl := Lib.hid (upto_length (dst ns).length)
  have HRl := Lib.hid (rks_length ns)
  unfold GivesSlice at hC1 hC2 hC3
  unfold GivesRk at hM1 hM2
  simp only [List.length_map, rks_length, upto_length] at hC1 hC2 hC3 hM1 hM2 hS
  obtain ⟨k, hk⟩ : ∃ k, ss.length = k := ⟨_, rfl⟩
  obtain ⟨n, hnn⟩ : ∃ n, ns.length = n := ⟨_, rfl⟩
  obtain ⟨m, hmm⟩ : ∃ m, (dst ns).length = m := ⟨_, rfl⟩
  rw [hnn] at hnl hdl hC1 hC2 hM1 hM2 hS HRl
  rw [hmm] at hdl hC3 hM1 hM2 hF HI HU HUl
  rw [hk] at hsl hnl HSg
  have HN := Lib.hid hnn
  have HM := Lib.hid hmm
  have HB := Lib.hid hnsb
  generalize rks ns = rs at *
  generalize dst ns = vs at *
  generalize upto m = us at *
  generalize ss.map (Value.int .i64) = sc at *
  have HM1 := Lib.hid hM1
  have HM2 := Lib.hid hM2
  have HC1 := Lib.hid hC1
  have HC2 := Lib.hid hC2
  have HC3 := Lib.hid hC3
  have HS := Lib.hid hS
  have HF := Lib.hid hF
  clear hM1 hM2 hC1 hC2 hC3 hS hF hnsb hsb hns hk hnn hmm
  go_enter Try.func5, Try.ntmps5
  go_wp2_with fail
  refine (HP1.out _).mono ?_
  rintro e w' ⟨rfl, rfl⟩
  go_wp2_with fail
  refine HSg.out.mono ?_
  rintro e w1 ⟨v1, rfl, hown, hb1⟩
  have hs1 := hb1.size
  go_wp2_with (at_builtin; go_loud (refine append_one _ rfl (.tmp 22) (.tmp 23) 22 rfl w.heap.size 3 (.int .i64 0) 8 Try.underlying22 int_info rfl v1 k _ rfl (hown.alloc _) w1.heap.size 1 (.int .i64 4) rfl (by simp) rfl (by simp only [maxLen]; omega) (by omega) (by simp; omega) ?_))
  intro v2 w2 hown2 hg2
  have hb2 : Below w.heap.size w w2 := (hb1.alloc hs1 _).grown hg2 (by simp; omega) (fun q hq => (hown.lt q hq).1)
  rw [HCe.out, ← hnl] at hown2
  have hn91 : n ≤ 91 := by omega
  clear hnl hsl
  obtain ⟨A2, c2, rfl, _, _, hl2, hn2, _⟩ := own_slice hown2
  have HL2 := Lib.hid hl2
  have HN2 := Lib.hid hn2
  have HB2 := Lib.hid hb2
  clear hown hown2 hg2 hb1 hb2 hl2 hn2 hs1
  go_wp2_with fail
  refine (HC1.out A2 c2 _ HN2.out HL2.out).mono ?_
  rintro e w3 ⟨A3, c3, rfl, _, hl3, _, _, hb3⟩
  go_wp2_with fail
  refine (HM1.out A3 c3 _ hl3).mono ?_
  rintro e w4 ⟨Av, cv, Ar, cr, rfl, hlv, hnv, _, hlr, hnr, _, hb4⟩
  go_wp2_with fail
  refine (HC2.out Ar cr _ hnr hlr).mono ?_
  rintro e w5 ⟨A5, c5, rfl, _, hl5, _, _, hb5⟩
  go_wp2_with fail
  refine (HM2.out A5 c5 _ hl5).mono ?_
  rintro e w6 ⟨Au, cu, Ag, cg, rfl, hlu, _, _, hlg, _, _, hb6⟩
  have hrr := (hlr.on hb5).on hb6
  have HSm := Lib.hid (HS.out Ar Ag cr cg w6 hrr hlg)
  have hnn0 : ((n : Int) != (n : Int)) = false := by simp
  have hmm0 : ((m : Int) != (m : Int)) = false := by simp
  have HLV := Lib.hid ((hlv.on hb5).on hb6)
  have HLR := Lib.hid hrr
  have HLU := Lib.hid hlu
  have HLN := Lib.hid ((((HL2.out.on hb3).on hb4).on hb5).on hb6)
  have HNV := Lib.hid hnv
  have HB6 := Lib.hid (chain (chain (chain (chain HB2.out hb3) hb4) hb5) hb6)
  clear hl3 hb3 hlv hnv hlr hnr hb4 hl5 hb5 hlu hlg hb6 hrr
  go_wp2_with fail
  refine HSm.out.mono ?_
  rintro e w7 ⟨rfl, hb7⟩
  have HLV7 := Lib.hid (HLV.out.on hb7)
  have HLR7 := Lib.hid (HLR.out.on hb7)
  have HLU7 := Lib.hid (HLU.out.on hb7)
  have HLN7 := Lib.hid (HLN.out.on hb7)
  have HB7 := Lib.hid (chain HB6.out hb7)
  clear hb7
  go_wp2_with fail
  go_loopw [12] (fun u w' => ∃ i : Nat, i ≤ n ∧ u = .int .i64 i ∧ Below w7.heap.size w7 w') (fun u _ => n - (intOf u).toNat)
  case atStart => exact ⟨0, Nat.zero_le _, rfl, Below.refl _ _⟩
  case round =>
    obtain ⟨i, hi, rfl, hbl⟩ := hrel
    have HBl := Lib.hid hbl
    clear hbl
    by_cases hlt : i < n
    · obtain ⟨b, o, x, rfl, hb, hx, hc⟩ := HLN7.out.at_ (k := i) (by rw [HN.out]; exact hlt)
      obtain ⟨r, hr, hrm, hvr, hr1, hr2⟩ := HI.out i x hx
      obtain ⟨b2, o2, r2, rfl, hb2, hx2, hc2⟩ := HLR7.out.at_ (k := i) (by rw [HRl.out]; exact hlt)
      rw [hr] at hx2
      obtain rfl := Option.some.inj hx2
      obtain ⟨b3, o3, x3, rfl, hb3, hx3, hc3⟩ := HLV7.out.at_ (k := r) (by rw [HM.out]; exact hrm)
      rw [hvr] at hx3
      obtain rfl := Option.some.inj hx3
      obtain ⟨hx4, hx5⟩ := HB.out x (List.mem_of_getElem? hx)
      have HF1 := Lib.hid (fun A c W hW => HF.out A c x W hW)
      have HF2 := Lib.hid (fun A c W hW => HF.out A c (x + 1) W hW)
      rw [hr1] at HF1
      rw [hr2] at HF2
      have hin : (i : Int) < (n : Int) := by omega
      have hrmi : (r : Int) < (m : Int) := by omega
      have hxx : (x != x) = false := by simp
      have hrr : ((r : Int) != (r : Int)) = false := by simp
      have hr1i : ((r + 1 : Nat) : Int) = (r : Int) + 1 := by omega
      rw [hr1i] at HF2
      have hrr1 : ((r : Int) + 1 != (r : Int) + 1) = false := by simp
      have HX := Lib.hid (fun W (h : Below w7.heap.size w7 W) => (bcell h b (o + i) hb).trans hc)
      have HR := Lib.hid (fun W (h : Below w7.heap.size w7 W) => (bcell h b2 (o2 + i) hb2).trans hc2)
      have c1 := HX.out wr HBl.out
      have c2 := HR.out wr HBl.out
      have c3 := (bcell HBl.out b3 (o3 + r) hb3).trans hc3
      clear hr hvr hr1 hr2 hx hx2 hx3 hr1i hc hc2 hc3
      go_wp2_with fail
      go_quiet (fail)
      have HBq := Lib.hid (bdN HBl.out nq)
      have HVq := Lib.hid (HLV7.out.on HBq.out)
      have r0 := HX.out _ HBq.out
      clear c1 c2 c3
      generalize wr.drewN nq = wq at *
      go_wp2_with fail
      go_region_held3 (fun W => W.cell? ⟨b, o + i, none⟩ = some (.int .i64 x))
        (first | exact r0 | exact s0 | exact s1)
        (first
          | (go_at_call 13; go_loud (refine (HC3.out _ cv _ HNV.out ?_).mono ?_); (exact HVq.out.drew); rintro e w8 ⟨A8, c8, rfl, _, hl8, _, _, hb8⟩; have s0 : w8.cell? ⟨b, o + i, none⟩ = some (.int .i64 x) := HX.out _ (HBq.out.drew.trans (hb8.mono (by exact HBq.out.size))))
          | (go_at_call 9; go_loud (refine (HF1.out A8 c8 _ ?_).mono ?_); (exact hl8); rintro e w9 ⟨rfl, d1, rfl⟩; have s1 : (w8.drewN d1).cell? ⟨b, o + i, none⟩ = some (.int .i64 x) := s0))
      have HBz := Lib.hid (bdN (HBq.out.drew.trans (hb8.mono (by exact HBq.out.size))) d1)
      clear r0 s0 s1 hl8 hb8 HVq HBq
      have HVz := Lib.hid (HLV7.out.on HBz.out)
      have r0 := HX.out _ HBz.out
      have hw1 : IntKind.i64.wrap (x + 1) = x + 1 := by rw [IntKind.wrap_i64]; omega
      have hw2 : wrap64 (x + 1) = x + 1 := by unfold wrap64; omega
      generalize w8.drewN d1 = wz at *
      go_wp2_with fail
      go_region_held3 (fun W => W.cell? ⟨b, o + i, none⟩ = some (.int .i64 x))
        (first | exact r0 | exact s0 | exact s1)
        (first
          | (go_at_call 13; go_loud (refine (HC3.out _ cv _ HNV.out ?_).mono ?_); (exact HVz.out.drew); rintro e w8 ⟨A8, c8, rfl, _, hl8, _, _, hb8⟩; have s0 : w8.cell? ⟨b, o + i, none⟩ = some (.int .i64 x) := HX.out _ (HBz.out.drew.trans (hb8.mono (by exact HBz.out.size))))
          | (go_at_call 9; go_loud (refine (HF2.out A8 c8 _ ?_).mono ?_); (exact hl8); rintro e w9 ⟨rfl, d1, rfl⟩; have s1 : (w8.drewN d1).cell? ⟨b, o + i, none⟩ = some (.int .i64 x) := s0))
      have HBy := Lib.hid (bdN (HBz.out.drew.trans (hb8.mono (by exact HBz.out.size))) d1)
      clear r0 s0 s1 hl8 hb8 HVz HBz
      have c4 := HR.out _ HBy.out
      generalize w8.drewN d1 = wy at *
      go_wp2_with fail
      go_roundw
      case rel => exact ⟨i + 1, by omega, by go_num, HBy.out⟩
      case measure => simp [intOf]; omega
    · obtain rfl : n = i := by omega
      have HVr := Lib.hid (HLV7.out.on HBl.out)
      have HUr := Lib.hid (HLU7.out.on HBl.out)
      have HBr := Lib.hid (chain HB7.out HBl.out)
      clear HBl HLV7 HLU7 HLN7 HLR7 HB7
      go_wp2_with fail
      go_loopw [17] (fun u w' => ∃ i d : Nat, i ≤ m ∧ u = .int .i64 i ∧ w' = wr.drewN d) (fun u _ => m - (intOf u).toNat)
      case atStart => exact ⟨0, 0, Nat.zero_le _, rfl, rfl⟩
      case round =>
        rename World => wq
        obtain ⟨i, d, hi, rfl, rfl⟩ := hrel
        by_cases hlt : i < m
        · obtain ⟨b, o, y, rfl, hb, hy, hc⟩ := HUr.out.at_ (k := i) (by rw [HUl.out]; exact hlt)
          rw [HU.out i hlt] at hy
          obtain rfl := Option.some.inj hy
          obtain ⟨b3, o3, x, rfl, hb3, hx, hc3⟩ := HVr.out.at_ (k := i) (by rw [HM.out]; exact hlt)
          have HX := Lib.hid hx
          have hii : ((i : Int) != (i : Int)) = false := by simp
          have him : (i : Int) < (m : Int) := by omega
          clear hx hy
          rcases Nat.eq_zero_or_pos i with h0 | h0
          · subst h0
            rw [Nat.add_zero] at hc hc3
            go_wp2_with fail
            go_quiet (fail)
            go_wp2_with fail
            go_roundw
            case rel => exact ⟨1, _, by omega, by go_num, by first | rfl | (simp only [World.drewN_drewN]; rfl)⟩
            case measure => simp [intOf]; omega
          · obtain ⟨k, hk⟩ : ∃ k, i = k + 1 := ⟨i - 1, by omega⟩
            have hki : (i : Int) - 1 = (k : Int) := by omega
            have hkm : k < m := by omega
            have hkmi : (k : Int) < (m : Int) := by omega
            obtain ⟨b4, o4, z, hA, hb4, hz, hc4⟩ := HVr.out.at_ (k := k) (by rw [HM.out]; exact hkm)
            obtain ⟨rfl, rfl⟩ : b3 = b4 ∧ o3 = o4 := by injection hA with hA; injection hA with h1 h2; exact ⟨h1, h2⟩
            have hzx := HV.out k z x hz (by rw [← hk]; exact HX.out)
            clear hz hA hk
            go_wp2_with fail
            go_quiet (fail)
            go_wp2_with fail
            go_roundw
            case rel => exact ⟨i + 1, _, by omega, by go_num, by first | rfl | (simp only [World.drewN_drewN]; rfl)⟩
            case measure => simp [intOf]; omega
        · obtain rfl : m = i := by omega
          go_wp2_with fail
          go_ret
          exact ⟨rfl, bdN HBr.out d⟩

set_option maxRecDepth 100000 in
theorem lifted (os : Os) (started : os.Started) (H : Type) (enc : TypeId × Value → H) :
    ReturnsInHanded {} Try.checked os 5 .any (Rows.ranksTrueSpec.pre6 enc Try.prog Try.f5 Rows.ranksTrueRow.domain false) (Rows.ranksTrueSpec.post enc Try.prog Try.f5 false true false false) := by
  refine returnsInHanded_of_change_sized (C := Try.checked) own started (by kernel_rfl) Try.func5
    (ChangeSpec.witness6 (enc := enc) (C := Try.checked) false ⟨#[], #[.slice none 0 0, .int .i64 0], []⟩ 8 (by kernel_rfl) (by kernel_rfl) (by kernel_rfl) (by kernel_rfl)) ?_
  intro W base args ds gs before hval0 hW hcnd hsz0 _
  have hval : ∀ (j : Nat) t v, Try.f5.params[j]? = some t → args[j]? = some v → Value.okWide Try.prog W .any base t v := hval0
  have hW' := hW
  obtain ⟨p, q, hA0, hV, rfl, hfz, hnd⟩ := hW
  have hA : DataW.TrodAll enc Try.prog W 0 (fun _ => true) true Try.f5.params.toList args.toList ds p := hA0
  have hsz : (DataW.weightsEach Try.prog (Try.f5.params.toList ++ Rows.ranksTrueSpec.plain.varTypes Try.prog) (ds ++ gs)).all (· ≤ reachBytes) = true := hsz0
  rw [Try.params5] at hA hval hsz
  obtain ⟨v0, vs0, d0, ds0, p0, q0, hargs, rfl, rfl, h0, r0⟩ := trodAll_cons hA
  obtain ⟨v1, vs1, d1, ds1, p1, q1, rfl, rfl, rfl, h1, r1⟩ := trodAll_cons r0
  obtain ⟨rfl, rfl, rfl⟩ := trodAll_nil r1
  obtain rfl : args = #[v0, v1] := by cases args; simp_all
  obtain ⟨rfl, rfl⟩ := trodVars_none hV
  obtain ⟨A0, n0, c0, rfl⟩ := okWide_slice Try.underlying22 (hval 0 22 v0 rfl rfl)
  have k0 := h0
  have lt0 : ∀ x ∈ p0, x.block < W.heap.size := by obtain ⟨m, hm⟩ := k0; exact DataW.trod_lt m _ _ _ hm
  obtain ⟨fuel0, hf0⟩ := h0
  obtain ⟨A0_, l0, c0_, hcs0, hle0, hcap0, hnil0, w0⟩ := rd_ints Try.underlying22 Try.underlying3 (by kernel_rfl) (by kernel_rfl) hf0 (weight_arg hsz (j := 0) (t := 22) rfl rfl)
  have hcs0_ : [Value.slice A0 n0 c0] = [.slice A0_ l0.length c0_] := hcs0
  simp only [List.cons.injEq, Value.slice.injEq, and_true] at hcs0_
  obtain ⟨rfl, rfl, rfl⟩ := hcs0_
  clear hcs0
  obtain ⟨a1, rfl, rfl, rfl, w1⟩ := open_int Try.underlying3 (hval 1 3 v1 rfl rfl) h1
  clear hA0 hval0
  refine (walk A0 l0 c0 a1 W hle0 hcap0 hnil0 w0 w1).mono fun e W' ⟨he, bel⟩ => ?_
  subst he
  exact ⟨_, rfl, _, _, _, [], _, [], hW', trodAll_mk1 (shut_bool Try.underlying4 _), (trodAll_cons_mk (Below.trod laidOut (by kernel_rfl) (of_decide_eq_true (by kernel_rfl)) k0 bel lt0) (trodAll_cons_mk (shut_int Try.underlying3 w1) trodAll_mk0)), rfl, bel.frame _, fun h => by cases h⟩

theorem over : Rows.ranksTrueRow.holds Try.pinned (OpenSpec.ofChange Rows.ranksTrueSpec) :=
  OpenClaim.holds_of_wide 5 Try.f5 rfl rfl rfl rfl rfl rfl rfl ⟨rfl, rfl, rfl, rfl, rfl⟩ rfl rfl rfl rfl rfl (by kernel_rfl) Try.func5 (by kernel_rfl)
    (of_decide_eq_true (by kernel_rfl)) (by unfold Func.isWrapper; first | (rw [if_pos (by decide +kernel)]; kernel_rfl) | (rw [if_neg (by decide +kernel)]; exact ⟨rfl, rfl⟩))
    (fun os started H enc _ => lifted os started H enc)

/-- THE STATEMENT. -/
theorem proved : Rows.RanksTrueSaid := over
#print axioms proved
end Go.Proofs.Ythdkhmmehdgonaa.ranksTrue
