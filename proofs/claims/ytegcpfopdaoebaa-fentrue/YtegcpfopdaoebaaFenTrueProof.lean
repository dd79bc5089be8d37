/-
  For every two lists l, adds and every number i: the tree of the list of at most 81 numbers that l stands for, changed by Go's fen.Add as the first twenty of adds tell, is the tree that fen.Make returns for the list that was changed likewise, and fen.Sum returns the sum of the first numbers of that list.
  No condition.
-/
import Derived.Test.YtegcpfopdaoebaaRows
import Derived.Test.YtegcpfopdaoebaaFrame
import Derived.Test.YtegcpfopdaoebaaKeep8
import Derived.WalkKit
import Derived.ProofKit
import Derived.OpenShut
import Derived.ChangeOld
import Derived.Below
import Derived.Carry
import Derived.SizedLaws
import Derived.Deep.RegionWith
import Derived.Deep.RegionHeld3
namespace Go.Proofs.Ytegcpfopdaoebaa.fenTrue
open Go.ChangeShapes Go.WideShapes Go.ChangeAt Go.RowKit Words
set_option linter.unusedVariables false

theorem own : ownKnob Try.prog.godebug = none := by kernel_rfl
theorem laidOut : laidOutB Try.prog = true := by kernel_rfl
theorem wf_of (z : Int) (h0 : -9223372036854775808 ≤ z) (h1 : z ≤ 9223372036854775807) : (Lit.int .i64 z).wf = true := by
  simp [Lit.wf, IntKind.min, IntKind.max, IntKind.signed, IntKind.bits]
  omega
theorem wf_hundredth {x : Int} (h : (Lit.int .i64 x).wf = true) : (Lit.int .i64 (x.tdiv 100)).wf = true := by
  have hb := bounds_i64 h
  have e := Int.natAbs_tdiv x 100
  have e2 : x.natAbs / 100 ≤ 9223372036854775807 := by omega
  have e3 : (x.tdiv 100).natAbs ≤ 9223372036854775807 := by rw [e]; exact e2
  exact wf_of _ (by omega) (by omega)

theorem hundredth {x : Int} (h : (Lit.int .i64 x).wf = true) : -4611686018427387904 ≤ x.tdiv 100 ∧ x.tdiv 100 ≤ 4611686018427387904 := by
  have hb := bounds_i64 h
  have e := Int.natAbs_tdiv x 100
  have e2 : x.natAbs / 100 ≤ 4611686018427387904 := by omega
  have e3 : (x.tdiv 100).natAbs ≤ 4611686018427387904 := by rw [e]; exact e2
  omega


set_option maxRecDepth 100000 in
set_option maxHeartbeats 4000000 in
/-- The walk: the Go text returns true, and writes nothing that was there. -/
theorem walk (A0 : Option Addr) (l0 : List Int) (c0 : Nat) (A1 : Option Addr) (l1 : List Int) (c1 : Nat) (a2 : Int) (w : World) (hle0 : l0.length ≤ c0) (hcap0 : c0 * 8 ≤ 140737488351232) (hnil0 : A0 = none → c0 = 0) (w0 : Lies w w.heap.size A0 (l0.map (.int .i64)) ∧ ∀ z ∈ l0, (Lit.int .i64 z).wf = true) (hle1 : l1.length ≤ c1) (hcap1 : c1 * 8 ≤ 140737488351232) (hnil1 : A1 = none → c1 = 0) (w1 : Lies w w.heap.size A1 (l1.map (.int .i64)) ∧ ∀ z ∈ l1, (Lit.int .i64 z).wf = true) (w2 : (Lit.int .i64 a2).wf = true) :
    Calls Try.prog 7 #[.slice A0 l0.length c0, .slice A1 l1.length c1, .int .i64 a2] w fun e w' => e = .returned (.bool true) ∧ Below w.heap.size w w' := by
  have HSi := Lib.hid (signed_any A0 l0 c0 80 1000 w (by decide) (by decide) w0.2 w0.1)
  have hlm := sgn_lim 80 1000 l0
  have hpl := picks_length 80 (2 * 1000 + 1) l0
  unfold GivesF at HSi
  have HWF := Lib.hid w1.2
  have HAd := Lib.hid w1.1
  clear w0 w1 hnil0 hle0 hcap0
  generalize (picks 80 (2 * 1000 + 1) l0).length = m at *
  have HCe := Lib.hid (cells_snoc (sgn 80 1000 l0) m 5)
  have hLf : Lim 1000 (snoc (sgn 80 1000 l0) m 5) (m + 1) := hlm.snoc 5 (by decide)
  clear hlm
  generalize snoc (sgn 80 1000 l0) m 5 = f at *
  generalize sgn 80 1000 l0 = f0 at *
  obtain ⟨n, hn⟩ : ∃ n, m + 1 = n := ⟨_, rfl⟩
  have hn1 : n ≤ 81 := by omega
  have hn0 : 0 < n := by omega
  rw [hn] at HCe hLf
  have hr := pick_lt (n := n + 1) (by omega) a2
  have HPr := Lib.hid (pick_any a2 (n + 1) · (by omega) (by omega) w2)
  have hnp : (n : Int) + 1 = ((n + 1 : Nat) : Int) := by omega
  generalize pick (n + 1) a2 = r at *
  have hrn : r ≤ n := by omega
  generalize hqq : n + 1 = n1 at *
  have hn1b : n1 ≤ 82 := by omega
  clear hqq
  have HCo := Lib.hid (fun f A c W a b => copied_fun A f n c W (by omega) a b)
  have HMk := Lib.hid (fun f A c W (h : Lim 5000 f n) a b => fmk_fun A f n c W (by omega) (h.wide (by decide)) a b)
  have HSu := Lib.hid (fun f A c W (h : Lim 5000 f n) b => fsum_tr A f n c r 5000 W (by omega) h (by decide) (by decide) hrn b)
  have HAa := Lib.hid (fun f A c p d W (h : Lim 5000 f n) hp hd a b => fadd_fun A (tr f) n c p d _ W (by omega) (h.tree (by omega) (by decide)) (by decide) hp hd a b)
  have HS2 := Lib.hid (fun f A A2 c c2 W a b => same_fun A A2 (tr f) n c c2 W (by omega) a b)
  have HPk := Lib.hid (fun x h W => pick_any x n W hn0 (by omega) h)
  have HPb := Lib.hid (fun x h W => pick_any x 401 W (by decide) (by decide) h)
  unfold GivesT at HMk HAa
  generalize hml : l1.length = q at *
  have HQ := Lib.hid hml
  have hqb : q ≤ 17592186044416 := by omega
  clear hml
  have hnn : ((n : Int) != (n : Int)) = false := by simp
  go_enter Try.func7, Try.ntmps7
  go_wp2_with fail
  refine HSi.out.mono ?_
  rintro e v1 ⟨A1_, c1_, rfl, hown, hb1⟩
  have hsz := hb1.size
  go_wp2_with (at_builtin; go_loud (refine append_one _ rfl (.tmp 23) (.tmp 24) 22 rfl w.heap.size 3 (.int .i64 0) 8 Try.underlying22 fint_info rfl (.slice A1_ m c1_) m _ rfl (hown.alloc _) v1.heap.size 1 (.int .i64 5) rfl (by simp) rfl (by simp only [maxLen]; omega) (by omega) (by simp; omega) ?_))
  intro v2 v3 hown2 hg2
  have hb3 : Below w.heap.size w v3 := (hb1.alloc hsz _).grown hg2 (by simp; omega) (fun q hq => (hown.lt q hq).1)
  rw [HCe.out] at hown2
  obtain ⟨A3, c3, rfl, _, _, hl3, hn3, _⟩ := own_slice hown2
  obtain ⟨g, rfl, hgw⟩ := own_at hown2 hn0
  have hg3 : g < v3.heap.size := (hown2.lt g rfl).2
  have HO3 := Lib.hid hown2
  have HL3 := Lib.hid hl3
  clear hown2 hg2 hown hb1 hl3 hn3 hsz hn hpl HSi HCe
  go_wp2_with fail
  refine (HCo.out f (some ⟨g, 0, none⟩) c3 _ (fun e => by cases e) HL3.out).mono ?_
  rintro e v4 ⟨A4, c4, rfl, hl4, hn4, hb4⟩
  go_wp2_with fail
  refine (HMk.out f A4 c4 _ (hLf.wide (by decide)) hn4 hl4).mono ?_
  rintro e v5 ⟨A5, c5, rfl, hl5, hn5, hw5, hb5⟩
  have hg4 : g < v4.heap.size := Nat.lt_of_lt_of_le hg3 hb4.size
  have HO5 := Lib.hid (own_stay (own_stay HO3.out hb4 (Nat.le_refl _)) hb5 (Nat.le_refl _))
  have HL5 := Lib.hid hl5
  have HN5 := Lib.hid hn5
  have HW5 := Lib.hid hw5
  have HLf := Lib.hid hLf
  have hb35 := chain (chain hb3 hb4) hb5
  clear hl5 hn5 hw5 hl4 hn4 HO3 HL3 hLf
  go_wp2_with fail
  go_loopw [8, 10] (fun t a w' => ∃ (k : Nat) (f : Nat → Int) (At : Option Addr) (ct : Nat), k ≤ 20 ∧ k ≤ q ∧ Lim (1000 + 200 * k) f n ∧ t = .slice At n ct ∧ a = .int .i64 k ∧ w'.ownsRow w.heap.size 3 1 (.slice (some ⟨g, 0, none⟩) n c3) n (cellsOf f n) ∧ Lies w' w'.heap.size At (cellsOf (tr f) n) ∧ (At = none → ct = 0) ∧ New v4.heap.size At ∧ v4.heap.size ≤ w'.heap.size ∧ Below w.heap.size w w') (fun _ a _ => 20 - (intOf a).toNat)
  case atStart => exact ⟨0, f, A5, c5, by omega, Nat.zero_le _, by simpa using HLf.out, rfl, rfl, HO5.out, HL5.out, HN5.out, HW5.out, hb5.size, hb35⟩
  case round =>
    clear HO5 HL5 HN5 HW5 HLf
    obtain ⟨k, f, At, ct, hk20, hkq, hLk, rfl, rfl, ho, hl, hna, hnw, hz4, hbl⟩ := hrel
    have hL5 : Lim 5000 f n := hLk.wide (by omega)
    have hsz4 := hz4
    clear hz4
    have HLk := Lib.hid hLk
    have HL5k := Lib.hid hL5
    clear hLk hL5
    by_cases hgo : k < q ∧ k < 20
    · obtain ⟨hlq, hl20⟩ := hgo
      obtain ⟨b, o, x, rfl, hb, hx, hc⟩ := (HAd.out.on hbl).at_ (k := k) (by rw [HQ.out]; exact hlq)
      have hwx := HWF.out x (List.mem_of_getElem? hx)
      have HP1 := Lib.hid (fun W => HPk.out x hwx W)
      have HP2 := Lib.hid (fun W => HPb.out (x.tdiv 100) (wf_hundredth hwx) W)
      have hp := pick_lt (n := n) hn0 x
      have hd := pick_lt (n := 401) (by decide) (x.tdiv 100)
      obtain ⟨hz1, hz2⟩ := hundredth hwx
      clear hx hwx
      generalize pick n x = p at *
      generalize pick 401 (x.tdiv 100) = d0 at *
      generalize hz : x.tdiv 100 = z at *
      obtain ⟨d, hdd⟩ : ∃ d : Int, (d0 : Int) - 200 = d := ⟨_, rfl⟩
      have hd1 : -200 ≤ d := by omega
      have hd2 : d ≤ 200 := by omega
      have HAd2 := Lib.hid (fun W a b => HAa.out f At ct p d W HL5k.out hp (by omega) a b)
      rw [cellsOf_congr (f := added (tr f) p d) (g := tr (upd f p (f p + d))) n fun j _ => (tr_upd f p d j).symm] at HAd2
      have HLu := Lib.hid (HLk.out.upd (d := d) p hp 200 (by omega) (by decide))
      obtain ⟨f1, f2⟩ := HL5k.out p hp
      have hkn : (k : Int) < (q : Int) := by omega
      have hpn : (p : Int) < (n : Int) := by omega
      have hkz : decide ((k : Int) < 20) = true := decide_eq_true (by omega)
      have HO := Lib.hid ho
      have HL := Lib.hid hl
      clear ho hl
      go_wp2_with fail
      refine (HP1.out _).mono ?_
      rintro e v6 ⟨rfl, rfl⟩
      go_wp2_with fail
      refine (HP2.out _).mono ?_
      rintro e v6 ⟨rfl, rfl⟩
      go_wp2_with fail
      refine (HAd2.out _ hna HL.out).mono ?_
      rintro e v6 ⟨A6, c6, rfl, hl6, hn6, hw6, hb6⟩
      have ho6 := own_stay HO.out hb6 (Nat.le_refl _)
      have hcp := own_cell ho6 (cellsOf_get f n p hp)
      have hfz := own_frozen ho6
      have HPu := Lib.hid (own_put ho6 p (.int .i64 (f p + d)))
      rw [cellsOf_set] at HPu
      have hgt : ∀ u : Value, Lies (v6.setCell ⟨g, p, none⟩ u) (v6.setCell ⟨g, p, none⟩ u).heap.size A6 (cellsOf (tr (upd f p (f p + d))) n) := fun u => by
        rw [show (v6.setCell ⟨g, p, none⟩ u).heap.size = v6.heap.size by simp]
        exact hl6.setCell hw6 (Nat.lt_of_lt_of_le hg4 (by have := hsz4; omega)) u
      have HGT := Lib.hid hgt
      clear hgt hl6 ho6
      go_wp2_with fail
      go_roundw
      case rel => exact ⟨k + 1, upd f p (f p + d), A6, c6, by omega, by omega, by have := HLu.out; rw [show (1000 + 200 * ((k + 1 : Nat) : Int)) = 1000 + 200 * (k : Int) + 200 by omega]; exact this, rfl, by go_num, HPu.out, HGT.out _, hn6, hw6.mono hsz4, (by rw [World.size_setCell]; have := hb6.size; omega), (chain hbl hb6).setCell (by show w.heap.size ≤ g; exact hgw) _⟩
      case measure => simp [intOf]; omega
    · have HO := Lib.hid ho
      have HL := Lib.hid hl
      have hst : ¬ k < q ∨ (k < q ∧ ¬ k < 20) := by omega
      clear ho hl hgo
      rcases hst with hst | ⟨hst, hst2⟩
      all_goals
        go_wp2_with fail
        refine (HPr.out _).mono ?_
        rintro e v6 ⟨rfl, rfl⟩
        go_wp2_with fail
        go_loopw [16, 17] (fun s a w' => ∃ j : Nat, j ≤ r ∧ s = .int .i64 (S f j) ∧ a = .int .i64 j ∧ w' = wr) (fun _ a _ => r - (intOf a).toNat)
        case atStart => exact ⟨0, Nat.zero_le _, rfl, rfl, rfl⟩
        case round =>
          obtain ⟨j, hj, rfl, rfl, rfl⟩ := hrel
          by_cases hlt : j < r
          · have hcj := own_cell HO.out (cellsOf_get f n j (by omega))
            obtain ⟨f1, f2⟩ := HL5k.out j (by omega)
            obtain ⟨s1, s2⟩ := S_300 (f := f) j 5000 (by decide) (by omega) fun c hc => HL5k.out c (by omega)
            have HSt := Lib.hid (S_succ f j)
            generalize S f j = s at *
            generalize f j = y at *
            go_wp2_with fail
            go_roundw
            case rel => exact ⟨j + 1, by omega, by rw [HSt.out], by go_num, trivial⟩
            case measure => simp [intOf]; omega
          · obtain rfl : r = j := by omega
            have HSr := Lib.hid (fun W h => HSu.out f At ct W HL5k.out h)
            have HMr := Lib.hid (fun A c W a b => HMk.out f A c W HL5k.out a b)
            have hss : (S f r == S f r) = true := by simp
            unfold Tells8 at HSr
            generalize S f r = s at *
            go_wp2_with fail
            refine (HSr.out _ HL.out).mono ?_
            rintro e v7 ⟨rfl, hb7⟩
            have ho7 := own_stay HO.out hb7 (Nat.le_refl _)
            have hl7 := HL.out.on hb7
            go_wp2_with fail
            refine (HCo.out f (some ⟨g, 0, none⟩) c3 _ (fun e => by cases e) (own_slice_lies ho7)).mono ?_
            rintro e v8 ⟨A8, c8, rfl, hl8, hn8, hb8⟩
            have hl7b := hl7.on hb8
            clear hl7 ho7
            go_wp2_with fail
            refine (HMr.out A8 c8 _ hn8 hl8).mono ?_
            rintro e v9 ⟨A9, c9, rfl, hl9, hn9, hw9, hb9⟩
            have hl7 := hl7b.on hb9
            clear hl7b hl8
            go_wp2_with fail
            refine (HS2.out f At A9 ct c9 _ hl7 hl9).mono ?_
            rintro e va ⟨rfl, hba⟩
            go_wp2_with fail
            go_ret
            exact ⟨rfl, chain (chain (chain (chain hbl hb7) hb8) hb9) hba⟩

set_option maxRecDepth 100000 in
theorem lifted (os : Os) (started : os.Started) (H : Type) (enc : TypeId × Value → H) :
    ReturnsInHanded {} Try.checked os 7 .any (Rows.fenTrueSpec.pre6 enc Try.prog Try.f7 Rows.fenTrueRow.domain false) (Rows.fenTrueSpec.post enc Try.prog Try.f7 false true false false) := by
  refine returnsInHanded_of_change_sized (C := Try.checked) own started (by kernel_rfl) Try.func7
    (ChangeSpec.witness6 (enc := enc) (C := Try.checked) false ⟨#[], #[.slice none 0 0, .slice none 0 0, .int .i64 0], []⟩ 8 (by kernel_rfl) (by kernel_rfl) (by kernel_rfl) (by kernel_rfl)) ?_
  intro W base args ds gs before hval0 hW hcnd hsz0 _
  have hval : ∀ (j : Nat) t v, Try.f7.params[j]? = some t → args[j]? = some v → Value.okWide Try.prog W .any base t v := hval0
  have hW' := hW
  obtain ⟨p, q, hA0, hV, rfl, hfz, hnd⟩ := hW
  have hA : DataW.TrodAll enc Try.prog W 0 (fun _ => true) true Try.f7.params.toList args.toList ds p := hA0
  have hsz : (DataW.weightsEach Try.prog (Try.f7.params.toList ++ Rows.fenTrueSpec.plain.varTypes Try.prog) (ds ++ gs)).all (· ≤ reachBytes) = true := hsz0
  rw [Try.params7] at hA hval hsz
  obtain ⟨v0, vs0, d0, ds0, p0, q0, hargs, rfl, rfl, h0, r0⟩ := trodAll_cons hA
  obtain ⟨v1, vs1, d1, ds1, p1, q1, rfl, rfl, rfl, h1, r1⟩ := trodAll_cons r0
  obtain ⟨v2, vs2, d2, ds2, p2, q2, rfl, rfl, rfl, h2, r2⟩ := trodAll_cons r1
  obtain ⟨rfl, rfl, rfl⟩ := trodAll_nil r2
  obtain rfl : args = #[v0, v1, v2] := by cases args; simp_all
  obtain ⟨rfl, rfl⟩ := trodVars_none hV
  obtain ⟨A0, n0, c0, rfl⟩ := okWide_slice Try.underlying22 (hval 0 22 v0 rfl rfl)
  have k0 := h0
  have lt0 : ∀ x ∈ p0, x.block < W.heap.size := by obtain ⟨m, hm⟩ := k0; exact DataW.trod_lt m _ _ _ hm
  obtain ⟨fuel0, hf0⟩ := h0
  obtain ⟨A0_, l0, c0_, hcs0, hle0, hcap0, hnil0, w0⟩ := rd_ints Try.underlying22 Try.underlying3 (by kernel_rfl) (by kernel_rfl) hf0 (weight_arg hsz (j := 0) (t := 22) rfl rfl)
  have hcs0_ : [Value.slice A0 n0 c0] = [.slice A0_ l0.length c0_] := hcs0
  simp only [List.cons.injEq, Value.slice.injEq, and_true] at hcs0_
  obtain ⟨rfl, rfl, rfl⟩ := hcs0_
  clear hcs0
  obtain ⟨A1, n1, c1, rfl⟩ := okWide_slice Try.underlying22 (hval 1 22 v1 rfl rfl)
  have k1 := h1
  have lt1 : ∀ x ∈ p1, x.block < W.heap.size := by obtain ⟨m, hm⟩ := k1; exact DataW.trod_lt m _ _ _ hm
  obtain ⟨fuel1, hf1⟩ := h1
  obtain ⟨A1_, l1, c1_, hcs1, hle1, hcap1, hnil1, w1⟩ := rd_ints Try.underlying22 Try.underlying3 (by kernel_rfl) (by kernel_rfl) hf1 (weight_arg hsz (j := 1) (t := 22) rfl rfl)
  have hcs1_ : [Value.slice A1 n1 c1] = [.slice A1_ l1.length c1_] := hcs1
  simp only [List.cons.injEq, Value.slice.injEq, and_true] at hcs1_
  obtain ⟨rfl, rfl, rfl⟩ := hcs1_
  clear hcs1
  obtain ⟨a2, rfl, rfl, rfl, w2⟩ := open_int Try.underlying3 (hval 2 3 v2 rfl rfl) h2
  clear hA0 hval0
  refine (walk A0 l0 c0 A1 l1 c1 a2 W hle0 hcap0 hnil0 w0 hle1 hcap1 hnil1 w1 w2).mono fun e W' ⟨he, bel⟩ => ?_
  subst he
  exact ⟨_, rfl, _, _, _, [], _, [], hW', trodAll_mk1 (shut_bool Try.underlying4 _), (trodAll_cons_mk (Below.trod laidOut (by kernel_rfl) (of_decide_eq_true (by kernel_rfl)) k0 bel lt0) (trodAll_cons_mk (Below.trod laidOut (by kernel_rfl) (of_decide_eq_true (by kernel_rfl)) k1 bel lt1) (trodAll_cons_mk (shut_int Try.underlying3 w2) trodAll_mk0))), rfl, bel.frame _, fun h => by cases h⟩

theorem over : Rows.fenTrueRow.holds Try.pinned (OpenSpec.ofChange Rows.fenTrueSpec) :=
  OpenClaim.holds_of_wide 7 Try.f7 rfl rfl rfl rfl rfl rfl rfl ⟨rfl, rfl, rfl, rfl, rfl⟩ rfl rfl rfl rfl rfl (by kernel_rfl) Try.func7 (by kernel_rfl)
    (of_decide_eq_true (by kernel_rfl)) (by unfold Func.isWrapper; first | (rw [if_pos (by decide +kernel)]; kernel_rfl) | (rw [if_neg (by decide +kernel)]; exact ⟨rfl, rfl⟩))
    (fun os started H enc _ => lifted os started H enc)

/-- THE STATEMENT. -/
theorem proved : Rows.FenTrueSaid := over
#print axioms proved
end Go.Proofs.Ytegcpfopdaoebaa.fenTrue
