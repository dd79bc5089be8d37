/-
  For every list l and every four numbers i, k, a, b: in the tree of the list of at most 81 numbers that they stand for, what Go's fen.Add adds and takes away is undone, and it does not matter what is added first.
  No condition.
-/
import Derived.Test.YtegcpfopdaoebaaRows
import Derived.Test.YtegcpfopdaoebaaFrame
import Derived.Test.YtegcpfopdaoebaaKeep8
import Derived.WalkKit
import Derived.ProofKit
import Derived.OpenShut
import Derived.ChangeOld
import Derived.Below
import Derived.Carry
import Derived.SizedLaws
import Derived.Deep.RegionWith
import Derived.Deep.RegionHeld3
namespace Go.Proofs.Ytegcpfopdaoebaa.fenUndone
open Go.ChangeShapes Go.WideShapes Go.ChangeAt Go.RowKit Words
set_option linter.unusedVariables false

theorem own : ownKnob Try.prog.godebug = none := by kernel_rfl
theorem laidOut : laidOutB Try.prog = true := by kernel_rfl
theorem added_swap (g : Nat → Int) (p q : Nat) (x y : Int) (j : Nat) : added (added g p x) q y j = added (added g q y) p x j := by unfold added; omega
theorem added_back (g : Nat → Int) (p : Nat) (x : Int) (j : Nat) : added (added g p x) p (-x) j = g j := by
  unfold added
  by_cases e : Cov p j
  · rw [if_pos e, if_pos e]; omega
  · rw [if_neg e, if_neg e]; omega


set_option maxRecDepth 100000 in
set_option maxHeartbeats 4000000 in
/-- The walk: the Go text returns true, and writes nothing that was there. -/
theorem walk (A0 : Option Addr) (l0 : List Int) (c0 : Nat) (a1 : Int) (a2 : Int) (a3 : Int) (a4 : Int) (w : World) (hle0 : l0.length ≤ c0) (hcap0 : c0 * 8 ≤ 140737488351232) (hnil0 : A0 = none → c0 = 0) (w0 : Lies w w.heap.size A0 (l0.map (.int .i64)) ∧ ∀ z ∈ l0, (Lit.int .i64 z).wf = true) (w1 : (Lit.int .i64 a1).wf = true) (w2 : (Lit.int .i64 a2).wf = true) (w3 : (Lit.int .i64 a3).wf = true) (w4 : (Lit.int .i64 a4).wf = true) :
    Calls Try.prog 9 #[.slice A0 l0.length c0, .int .i64 a1, .int .i64 a2, .int .i64 a3, .int .i64 a4] w fun e w' => e = .returned (.bool true) ∧ Below w.heap.size w w' := by
  have HSi := Lib.hid (signed_any A0 l0 c0 80 1000 w (by decide) (by decide) w0.2 w0.1)
  have hlm := sgn_lim 80 1000 l0
  have hpl := picks_length 80 (2 * 1000 + 1) l0
  unfold GivesF at HSi
  clear w0 hnil0 hle0 hcap0
  generalize (picks 80 (2 * 1000 + 1) l0).length = m at *
  have HCe := Lib.hid (cells_snoc (sgn 80 1000 l0) m 5)
  have hLf : Lim 1000 (snoc (sgn 80 1000 l0) m 5) (m + 1) := hlm.snoc 5 (by decide)
  clear hlm
  generalize snoc (sgn 80 1000 l0) m 5 = f at *
  generalize sgn 80 1000 l0 = f0 at *
  obtain ⟨n, hn⟩ : ∃ n, m + 1 = n := ⟨_, rfl⟩
  have hn1 : n ≤ 81 := by omega
  have hn0 : 0 < n := by omega
  rw [hn] at HCe hLf
  have hp := pick_lt (n := n) hn0 a1
  have HP := Lib.hid (pick_any a1 n · hn0 (by omega) w1)
  generalize pick n a1 = p at *
  have hq := pick_lt (n := n) hn0 a2
  have HQ := Lib.hid (pick_any a2 n · hn0 (by omega) w2)
  generalize pick n a2 = q at *
  have hx := pick_lt (n := 2001) (by decide) a3
  have HX := Lib.hid (pick_any a3 2001 · (by decide) (by decide) w3)
  generalize pick 2001 a3 = x0 at *
  have hy := pick_lt (n := 2001) (by decide) a4
  have HY := Lib.hid (pick_any a4 2001 · (by decide) (by decide) w4)
  generalize pick 2001 a4 = y0 at *
  obtain ⟨x, hxx⟩ : ∃ x : Int, (x0 : Int) - 1000 = x := ⟨_, rfl⟩
  obtain ⟨y, hyy⟩ : ∃ y : Int, (y0 : Int) - 1000 = y := ⟨_, rfl⟩
  have hx1 : -1000 ≤ x ∧ x ≤ 1000 := by omega
  have hy1 : -1000 ≤ y ∧ y ≤ 1000 := by omega
  have hT := hLf.tree (by omega) (by decide)
  have h1 := hT.added p 1000 hx1 (by decide)
  have h3 := hT.added q 1000 hy1 (by decide)
  have HCo := Lib.hid (fun A c W a b => copied_fun A f n c W (by omega) a b)
  have HMk := Lib.hid (fun A c W a b => fmk_fun A f n c W (by omega) (hLf.wide (by decide)) a b)
  have HA1 := Lib.hid (fun A c W a b => fadd_fun A (tr f) n c p x _ W (by omega) hT (by decide) hp hx1 a b)
  have HA2 := Lib.hid (fun A c W a b => fadd_fun A (added (tr f) p x) n c q y _ W (by omega) h1 (by decide) hq hy1 a b)
  have HA3 := Lib.hid (fun A c W a b => fadd_fun A (tr f) n c q y _ W (by omega) hT (by decide) hq hy1 a b)
  have HA4 := Lib.hid (fun A c W a b => fadd_fun A (added (tr f) q y) n c p x _ W (by omega) h3 (by decide) hp hx1 a b)
  have HA5 := Lib.hid (fun A c W a b => fadd_fun A (added (tr f) p x) n c p (-x) _ W (by omega) h1 (by decide) hp (by omega) a b)
  have HS1 := Lib.hid (fun A A2 c c2 W a b => same_fun A A2 (added (added (tr f) q y) p x) n c c2 W (by omega) a b)
  have HS2 := Lib.hid (fun A A2 c c2 W a b => same_fun A A2 (tr f) n c c2 W (by omega) a b)
  have HE1 := Lib.hid (cellsOf_congr (f := added (added (tr f) p x) q y) (g := added (added (tr f) q y) p x) n fun j _ => added_swap (tr f) p q x y j)
  have HE2 := Lib.hid (cellsOf_congr (f := added (added (tr f) p x) p (-x)) (g := tr f) n fun j _ => added_back (tr f) p x j)
  unfold GivesT at HMk HA1 HA2 HA3 HA4 HA5
  rw [HE1.out] at HA2
  rw [HE2.out] at HA5
  clear h1 h3 hT hLf HE1 HE2
  generalize cellsOf (added (added (tr f) q y) p x) n = C1 at *
  generalize cellsOf (added (tr f) p x) n = C2 at *
  generalize cellsOf (added (tr f) q y) n = C3 at *
  generalize cellsOf (tr f) n = C4 at *
  have hx2 : -1000 ≤ x := hx1.1
  have hx3 : x ≤ 1000 := hx1.2
  clear hx1 hy1
  have hnn : ((n : Int) == (n : Int)) = true := by simp
  go_enter Try.func9, Try.ntmps9
  go_wp2_with fail
  refine HSi.out.mono ?_
  rintro e v1 ⟨A1, c1, rfl, hown, hb1⟩
  have hsz := hb1.size
  go_wp2_with (at_builtin; go_loud (refine append_one _ rfl (.tmp 29) (.tmp 30) 22 rfl w.heap.size 3 (.int .i64 0) 8 Try.underlying22 fint_info rfl (.slice A1 m c1) m _ rfl (hown.alloc _) v1.heap.size 1 (.int .i64 5) rfl (by simp) rfl (by simp only [maxLen]; omega) (by omega) (by simp; omega) ?_))
  intro v2 v3 hown2 hg2
  have hb3 : Below w.heap.size w v3 := (hb1.alloc hsz _).grown hg2 (by simp; omega) (fun q hq => (hown.lt q hq).1)
  rw [HCe.out] at hown2
  obtain ⟨A3, c3, rfl, _, _, hl3, hn3, _⟩ := own_slice hown2
  have HL3 := Lib.hid hl3
  have HN3 := Lib.hid hn3
  clear hown2 hg2 hown hb1 hl3 hn3 hsz hn hpl
  go_wp2_with fail
  refine (HP.out _).mono ?_
  rintro e v4 ⟨rfl, rfl⟩
  go_wp2_with fail
  refine (HQ.out _).mono ?_
  rintro e v4 ⟨rfl, rfl⟩
  go_wp2_with fail
  refine (HX.out _).mono ?_
  rintro e v4 ⟨rfl, rfl⟩
  go_wp2_with fail
  refine (HY.out _).mono ?_
  rintro e v4 ⟨rfl, rfl⟩
  go_wp2_with fail
  refine (HCo.out A3 c3 _ HN3.out HL3.out).mono ?_
  rintro e v4 ⟨A4, c4, rfl, hl4, hn4, hb4⟩
  go_wp2_with fail
  refine (HMk.out A4 c4 _ hn4 hl4).mono ?_
  rintro e v5 ⟨A5, c5, rfl, hl5, hn5, _, hb5⟩
  go_wp2_with fail
  refine (HA1.out A5 c5 _ hn5 hl5).mono ?_
  rintro e v6 ⟨A6, c6, rfl, hl6, hn6, _, hb6⟩
  have hl5b := hl5.on hb6
  clear hl5 hl4 hn4
  go_wp2_with fail
  refine (HA2.out A6 c6 _ hn6 hl6).mono ?_
  rintro e v7 ⟨A7, c7, rfl, hl7, hn7, _, hb7⟩
  have hl5 := hl5b.on hb7
  have hl6b := hl6.on hb7
  clear hl5b hl6
  go_wp2_with fail
  refine (HA3.out A5 c5 _ hn5 hl5).mono ?_
  rintro e v8 ⟨A8, c8, rfl, hl8, hn8, _, hb8⟩
  have hl5b := hl5.on hb8
  have hl6 := hl6b.on hb8
  have hl7b := hl7.on hb8
  clear hl5 hl6b hl7
  go_wp2_with fail
  refine (HA4.out A8 c8 _ hn8 hl8).mono ?_
  rintro e v9 ⟨A9, c9, rfl, hl9, hn9, _, hb9⟩
  have hl5 := hl5b.on hb9
  have hl6b := hl6.on hb9
  have hl7 := hl7b.on hb9
  clear hl5b hl6 hl7b
  go_wp2_with fail
  refine (HA5.out A6 c6 _ hn6 hl6b).mono ?_
  rintro e va ⟨Aa, ca, rfl, hla, hna, _, hba⟩
  have hl5b := hl5.on hba
  have hl7b := hl7.on hba
  have hl9b := hl9.on hba
  clear hl5 hl7 hl9
  go_wp2_with fail
  refine (HS1.out A7 A9 c7 c9 _ hl7b hl9b).mono ?_
  rintro e vb ⟨rfl, hbb⟩
  have hl5 := hl5b.on hbb
  have hlab := hla.on hbb
  clear hl5b hla hl7b hl9b
  go_wp2_with fail
  refine (HS2.out Aa A5 ca c5 _ hlab hl5).mono ?_
  rintro e vc ⟨rfl, hbc⟩
  go_wp2_with fail
  go_ret
  exact ⟨rfl, chain (chain (chain (chain (chain (chain (chain (chain (chain (chain hb3 hb4) hb5) hb6) hb7) hb8) hb9) hba) hbb) hbc) (Below.refl _ _)⟩

set_option maxRecDepth 100000 in
theorem lifted (os : Os) (started : os.Started) (H : Type) (enc : TypeId × Value → H) :
    ReturnsInHanded {} Try.checked os 9 .any (Rows.fenUndoneSpec.pre6 enc Try.prog Try.f9 Rows.fenUndoneRow.domain false) (Rows.fenUndoneSpec.post enc Try.prog Try.f9 false true false false) := by
  refine returnsInHanded_of_change_sized (C := Try.checked) own started (by kernel_rfl) Try.func9
    (ChangeSpec.witness6 (enc := enc) (C := Try.checked) false ⟨#[], #[.slice none 0 0, .int .i64 0, .int .i64 0, .int .i64 0, .int .i64 0], []⟩ 8 (by kernel_rfl) (by kernel_rfl) (by kernel_rfl) (by kernel_rfl)) ?_
  intro W base args ds gs before hval0 hW hcnd hsz0 _
  have hval : ∀ (j : Nat) t v, Try.f9.params[j]? = some t → args[j]? = some v → Value.okWide Try.prog W .any base t v := hval0
  have hW' := hW
  obtain ⟨p, q, hA0, hV, rfl, hfz, hnd⟩ := hW
  have hA : DataW.TrodAll enc Try.prog W 0 (fun _ => true) true Try.f9.params.toList args.toList ds p := hA0
  have hsz : (DataW.weightsEach Try.prog (Try.f9.params.toList ++ Rows.fenUndoneSpec.plain.varTypes Try.prog) (ds ++ gs)).all (· ≤ reachBytes) = true := hsz0
  rw [Try.params9] at hA hval hsz
  obtain ⟨v0, vs0, d0, ds0, p0, q0, hargs, rfl, rfl, h0, r0⟩ := trodAll_cons hA
  obtain ⟨v1, vs1, d1, ds1, p1, q1, rfl, rfl, rfl, h1, r1⟩ := trodAll_cons r0
  obtain ⟨v2, vs2, d2, ds2, p2, q2, rfl, rfl, rfl, h2, r2⟩ := trodAll_cons r1
  obtain ⟨v3, vs3, d3, ds3, p3, q3, rfl, rfl, rfl, h3, r3⟩ := trodAll_cons r2
  obtain ⟨v4, vs4, d4, ds4, p4, q4, rfl, rfl, rfl, h4, r4⟩ := trodAll_cons r3
  obtain ⟨rfl, rfl, rfl⟩ := trodAll_nil r4
  obtain rfl : args = #[v0, v1, v2, v3, v4] := by cases args; simp_all
  obtain ⟨rfl, rfl⟩ := trodVars_none hV
  obtain ⟨A0, n0, c0, rfl⟩ := okWide_slice Try.underlying22 (hval 0 22 v0 rfl rfl)
  have k0 := h0
  have lt0 : ∀ x ∈ p0, x.block < W.heap.size := by obtain ⟨m, hm⟩ := k0; exact DataW.trod_lt m _ _ _ hm
  obtain ⟨fuel0, hf0⟩ := h0
  obtain ⟨A0_, l0, c0_, hcs0, hle0, hcap0, hnil0, w0⟩ := rd_ints Try.underlying22 Try.underlying3 (by kernel_rfl) (by kernel_rfl) hf0 (weight_arg hsz (j := 0) (t := 22) rfl rfl)
  have hcs0_ : [Value.slice A0 n0 c0] = [.slice A0_ l0.length c0_] := hcs0
  simp only [List.cons.injEq, Value.slice.injEq, and_true] at hcs0_
  obtain ⟨rfl, rfl, rfl⟩ := hcs0_
  clear hcs0
  obtain ⟨a1, rfl, rfl, rfl, w1⟩ := open_int Try.underlying3 (hval 1 3 v1 rfl rfl) h1
  obtain ⟨a2, rfl, rfl, rfl, w2⟩ := open_int Try.underlying3 (hval 2 3 v2 rfl rfl) h2
  obtain ⟨a3, rfl, rfl, rfl, w3⟩ := open_int Try.underlying3 (hval 3 3 v3 rfl rfl) h3
  obtain ⟨a4, rfl, rfl, rfl, w4⟩ := open_int Try.underlying3 (hval 4 3 v4 rfl rfl) h4
  clear hA0 hval0
  refine (walk A0 l0 c0 a1 a2 a3 a4 W hle0 hcap0 hnil0 w0 w1 w2 w3 w4).mono fun e W' ⟨he, bel⟩ => ?_
  subst he
  exact ⟨_, rfl, _, _, _, [], _, [], hW', trodAll_mk1 (shut_bool Try.underlying4 _), (trodAll_cons_mk (Below.trod laidOut (by kernel_rfl) (of_decide_eq_true (by kernel_rfl)) k0 bel lt0) (trodAll_cons_mk (shut_int Try.underlying3 w1) (trodAll_cons_mk (shut_int Try.underlying3 w2) (trodAll_cons_mk (shut_int Try.underlying3 w3) (trodAll_cons_mk (shut_int Try.underlying3 w4) trodAll_mk0))))), rfl, bel.frame _, fun h => by cases h⟩

theorem over : Rows.fenUndoneRow.holds Try.pinned (OpenSpec.ofChange Rows.fenUndoneSpec) :=
  OpenClaim.holds_of_wide 9 Try.f9 rfl rfl rfl rfl rfl rfl rfl ⟨rfl, rfl, rfl, rfl, rfl⟩ rfl rfl rfl rfl rfl (by kernel_rfl) Try.func9 (by kernel_rfl)
    (of_decide_eq_true (by kernel_rfl)) (by unfold Func.isWrapper; first | (rw [if_pos (by decide +kernel)]; kernel_rfl) | (rw [if_neg (by decide +kernel)]; exact ⟨rfl, rfl⟩))
    (fun os started H enc _ => lifted os started H enc)

/-- THE STATEMENT. -/
theorem proved : Rows.FenUndoneSaid := over
#print axioms proved
end Go.Proofs.Ytegcpfopdaoebaa.fenUndone
