/-
  For every list l and every number bound: all of the first 100 numbers, each brought below a bound of at most 2^40, fit into the width that Go's pack.Wide returns, and not into a smaller one.
  No condition.
-/
import Derived.Test.YtpehbagcbkpnnaaRows
import Derived.Test.YtpehbagcbkpnnaaFrame
import Derived.Test.YtpehbagcbkpnnaaPackMk
import Derived.Test.YtpehbagcbkpnnaaKeep3
import Derived.WalkKit
import Derived.ProofKit
import Derived.OpenShut
import Derived.ChangeOld
import Derived.Below
import Derived.Carry
import Derived.SizedLaws
import Derived.Deep.RegionWith
import Derived.Deep.RegionHeld3
namespace Go.Proofs.Ytpehbagcbkpnnaa.packWide
open Go.ChangeShapes Go.WideShapes Go.ChangeAt Go.RowKit Words
set_option linter.unusedVariables false

theorem own : ownKnob Try.prog.godebug = none := by kernel_rfl
theorem laidOut : laidOutB Try.prog = true := by kernel_rfl
theorem wide_aux (l : List Int) : ∀ m : Nat, m ≤ l.foldl (fun m z => max m (Lib.bitLen z.toNat)) m ∧ (∀ z ∈ l, Lib.bitLen z.toNat ≤ l.foldl (fun m z => max m (Lib.bitLen z.toNat)) m) ∧ (l.foldl (fun m z => max m (Lib.bitLen z.toNat)) m = m ∨ ∃ z ∈ l, Lib.bitLen z.toNat = l.foldl (fun m z => max m (Lib.bitLen z.toNat)) m) := by
  induction l with
  | nil => intro m; exact ⟨Nat.le_refl _, (fun z hz => by cases hz), .inl rfl⟩
  | cons a l ih =>
    intro m
    obtain ⟨h1, h2, h3⟩ := ih (max m (Lib.bitLen a.toNat))
    simp only [List.foldl_cons]
    refine ⟨by omega, fun z hz => ?_, ?_⟩
    · rcases List.mem_cons.1 hz with rfl | hz
      · omega
      · exact h2 z hz
    · rcases h3 with h3 | ⟨z, hz, h3⟩
      · by_cases h : Lib.bitLen a.toNat ≤ m
        · left; rw [h3]; omega
        · right
          exact ⟨a, List.mem_cons_self, by rw [h3]; omega⟩
      · exact .inr ⟨z, List.mem_cons_of_mem _ hz, h3⟩

theorem fit_len (z : Int) (h : Fit 62 z) (d : Nat) : Fit d z ↔ Lib.bitLen z.toNat ≤ d := by
  have h2 : z < 4611686018427387904 := h.2
  have h1 := h.1
  obtain ⟨x, rfl⟩ := Int.eq_ofNat_of_zero_le h1
  rw [show ((x : Nat) : Int).toNat = x from rfl, bitLen_lt x (by omega)]
  constructor
  · intro h; exact_mod_cast h.2
  · intro h; exact ⟨h1, by exact_mod_cast h⟩

theorem wide_fit (l : List Int) (h : ∀ z ∈ l, Fit 62 z) : ∀ z ∈ l, Fit (wideOf l) z := fun z hz => (fit_len z (h z hz) _).2 ((wide_aux l 0).2.1 z hz)
theorem wide_le (l : List Int) (h : ∀ z ∈ l, Fit 62 z) : wideOf l ≤ 62 := by
  rcases (wide_aux l 0).2.2 with e | ⟨z, hz, e⟩
  · unfold wideOf; omega
  · have := bitLen_62 (h z hz)
    unfold wideOf; omega
theorem wide_tight (l : List Int) (h : ∀ z ∈ l, Fit 62 z) (h0 : 0 < wideOf l) : ¬ ∀ z ∈ l, Fit (wideOf l - 1) z := by
  intro hf
  rcases (wide_aux l 0).2.2 with e | ⟨z, hz, e⟩
  · unfold wideOf at h0; omega
  · have h1 := (fit_len z (h z hz) _).1 (hf z hz)
    have h2 : Lib.bitLen z.toNat = wideOf l := e
    omega

theorem eight : wideAns [8] = (4, 0) := by decide


set_option maxHeartbeats 1000000 in
/-- The walk: the Go text returns true, and writes nothing that was there. -/
theorem walk (A0 : Option Addr) (l0 : List Int) (c0 : Nat) (a1 : Int) (w : World) (hle0 : l0.length ≤ c0) (hcap0 : c0 * 8 ≤ 140737488351232) (hnil0 : A0 = none → c0 = 0) (w0 : Lies w w.heap.size A0 (l0.map (.int .i64)) ∧ ∀ z ∈ l0, (Lit.int .i64 z).wf = true) (w1 : (Lit.int .i64 a1).wf = true) :
    Calls Try.prog 8 #[.slice A0 l0.length c0, .int .i64 a1] w fun e w' => e = .returned (.bool true) ∧ Below w.heap.size w w' := by
  have hP0 := pick_lt (n := 1099511627776) (by decide) a1
  have HP := Lib.hid (pick_any a1 1099511627776 · (by decide) (by decide) w1)
  generalize pick 1099511627776 a1 = q at *
  have HNum := Lib.hid (numbers_any A0 l0 c0 100 (1 + q) w (by decide) (by omega) (by omega) w0.2 w0.1)
  have hplen := picks_length 100 (1 + q) l0
  have hpin := picks_lt (n := 1 + q) (by omega) 100 l0
  generalize picks 100 (1 + q) l0 = ns at *
  have hfit : ∀ z ∈ ns, Fit 62 z := fun z hz => ⟨(hpin z hz).1, by have := (hpin z hz).2; show z < 4611686018427387904; omega⟩
  have hwf : ∀ z ∈ ns, (Lit.int .i64 z).wf = true := fun z hz => wf_small z (hpin z hz).1 (by have := (hpin z hz).2; omega)
  have HCo := Lib.hid (fun A c W h1 h2 => copied_any A ns c W (by omega) h1 h2)
  have hWd : ∀ A c W, Lies W W.heap.size A (ns.map (.int .i64)) → Calls Try.prog 16 #[.slice A ns.length c] W fun e w' => e = .returned (.tuple #[.int .i64 (wideOf ns : Nat), .int .i64 0]) ∧ W = w' := fun A c W h => by
    have := wide_any A ns c W (by omega) hwf h
    rw [wideAns_good (fun i z hi hz => hfit z (List.mem_of_getElem? hz))] at this
    exact this
  have hW8 : ∀ A c W, Lies W W.heap.size A [.int .i64 8] → Calls Try.prog 16 #[.slice A 1 c] W fun e w' => e = .returned (.tuple #[.int .i64 4, .int .i64 0]) ∧ W = w' := fun A c W h => by
    have := wide_any A [8] c W (by decide) (by decide) h
    rw [eight] at this
    exact this
  have hle62 := wide_le ns hfit
  have HMk := Lib.hid (fun A c W h => pmake_any (wideOf ns) A ns c W (by omega) hle62 hwf h (wide_fit ns hfit))
  have hMk2 : ∀ A c W, Lies W W.heap.size A (ns.map (.int .i64)) → Calls Try.prog 9 #[.int .i64 ((wideOf ns : Int) - 1), .slice A ns.length c] W (NoPacked W 2) := fun A c W h => by
    by_cases h0 : wideOf ns = 0
    · exact pmake_width _ A ns.length c W (by omega) (by omega)
    · rw [show ((wideOf ns : Nat) : Int) - 1 = ((wideOf ns - 1 : Nat) : Int) by omega]
      exact pmake_bad (wideOf ns - 1) A ns c W (by omega) (by omega) hwf h (wide_tight ns hfit (by omega))
  have HMk2 := Lib.hid hMk2
  have HWd := Lib.hid hWd
  have HW8 := Lib.hid hW8
  have hlm : (ns.map (Value.int .i64)).length = ns.length := by simp
  clear hMk2 hWd hW8 hfit hwf hpin w0 hnil0 w1
  generalize packWords (wideOf ns) (natsOf ns) = ws at *
  generalize wideOf ns = d at *
  have hd0 : decide ((0 : Int) ≤ (d : Int)) = true := by simp
  go_enter Try.func8, Try.ntmps8
  go_wp2_with fail
  refine (HP.out _).mono ?_
  rintro e w' ⟨rfl, rfl⟩
  go_wp2_with fail
  refine HNum.out.mono ?_
  rintro e w1 ⟨A1, c1, rfl, hle1, hl1, hn1, _, hb1⟩
  rw [hlm]
  rw [hlm] at hle1
  have HL1 := Lib.hid hl1
  have HN1 := Lib.hid hn1
  clear hl1 hn1
  go_wp2_with fail
  refine (HCo.out A1 c1 _ HN1.out HL1.out).mono ?_
  rintro e w2 ⟨A2, c2, rfl, hle2, hl2, hn2, _, hb2⟩
  rw [hlm]
  have HL2 := Lib.hid hl2
  clear hl2 hn2 hle2
  go_wp2_with fail
  refine (HWd.out A2 c2 _ HL2.out).mono ?_
  rintro e w3 ⟨rfl, rfl⟩
  go_wp2_with fail
  refine (HCo.out A1 c1 _ HN1.out (by exact HL1.out.on hb2)).mono ?_
  rintro e w3 ⟨A3, c3, rfl, hle3, hl3, hn3, _, hb3⟩
  rw [hlm]
  have HL3 := Lib.hid hl3
  clear hl3 hn3 hle3
  go_wp2_with fail
  refine (HMk.out A3 c3 _ HL3.out).mono ?_
  rintro e w4 ⟨A4, c4, rfl, _, _, hb4⟩
  go_wp2_with fail
  refine (HCo.out A1 c1 _ HN1.out (by exact (((HL1.out.on hb2).on hb3).on hb4).alloc _)).mono ?_
  rintro e w5 ⟨A5, c5, rfl, hle5, hl5, hn5, _, hb5⟩
  rw [hlm]
  have HL5 := Lib.hid hl5
  clear hl5 hn5 hle5 hlm
  go_wp2_with fail
  refine (HMk2.out A5 c5 _ HL5.out).mono ?_
  rintro e w6 ⟨rfl, hb6⟩
  go_wp2_with fail
  refine (HW8.out (some ⟨_, 0, none⟩) 1 _ ?_).mono ?_
  · simpa using (Blk.new (w6.alloc (.cells #[.int .i64 0, .int .i64 0, .slice none 0 0] 25)) 3 [.int .i64 8]).lies
  rintro e w7 ⟨rfl, rfl⟩
  have HB := Lib.hid (chain (chain (chain (chain (chain (chain (chain (chain hb1 hb2) hb3) hb4) (bnew _ _)) hb5) hb6) (bnew _ (.cells #[.int .i64 0, .int .i64 0, .slice none 0 0] 25))) (bnew _ (.cells #[.int .i64 8] 3)))
  clear hb1 hb2 hb3 hb4 hb5 hb6
  by_cases h0 : d = 0
  · have hz : ((d : Int) == 0) = true := by simp; omega
    clear h0
    go_wp2
    go_ret
    exact ⟨rfl, HB.out⟩
  · have hz : ((d : Int) == 0) = false := by simp; omega
    clear h0
    go_wp2
    go_ret
    exact ⟨rfl, HB.out⟩

set_option maxRecDepth 100000 in
theorem lifted (os : Os) (started : os.Started) (H : Type) (enc : TypeId × Value → H) :
    ReturnsInHanded {} Try.checked os 8 .any (Rows.packWideSpec.pre6 enc Try.prog Try.f8 Rows.packWideRow.domain false) (Rows.packWideSpec.post enc Try.prog Try.f8 false true false false) := by
  refine returnsInHanded_of_change_sized (C := Try.checked) own started (by kernel_rfl) Try.func8
    (ChangeSpec.witness6 (enc := enc) (C := Try.checked) false ⟨#[], #[.slice none 0 0, .int .i64 0], []⟩ 8 (by kernel_rfl) (by kernel_rfl) (by kernel_rfl) (by kernel_rfl)) ?_
  intro W base args ds gs before hval0 hW hcnd hsz0 _
  have hval : ∀ (j : Nat) t v, Try.f8.params[j]? = some t → args[j]? = some v → Value.okWide Try.prog W .any base t v := hval0
  have hW' := hW
  obtain ⟨p, q, hA0, hV, rfl, hfz, hnd⟩ := hW
  have hA : DataW.TrodAll enc Try.prog W 0 (fun _ => true) true Try.f8.params.toList args.toList ds p := hA0
  have hsz : (DataW.weightsEach Try.prog (Try.f8.params.toList ++ Rows.packWideSpec.plain.varTypes Try.prog) (ds ++ gs)).all (· ≤ reachBytes) = true := hsz0
  rw [Try.params8] at hA hval hsz
  obtain ⟨v0, vs0, d0, ds0, p0, q0, hargs, rfl, rfl, h0, r0⟩ := trodAll_cons hA
  obtain ⟨v1, vs1, d1, ds1, p1, q1, rfl, rfl, rfl, h1, r1⟩ := trodAll_cons r0
  obtain ⟨rfl, rfl, rfl⟩ := trodAll_nil r1
  obtain rfl : args = #[v0, v1] := by cases args; simp_all
  obtain ⟨rfl, rfl⟩ := trodVars_none hV
  obtain ⟨A0, n0, c0, rfl⟩ := okWide_slice Try.underlying22 (hval 0 22 v0 rfl rfl)
  have k0 := h0
  have lt0 : ∀ x ∈ p0, x.block < W.heap.size := by obtain ⟨m, hm⟩ := k0; exact DataW.trod_lt m _ _ _ hm
  obtain ⟨fuel0, hf0⟩ := h0
  obtain ⟨A0_, l0, c0_, hcs0, hle0, hcap0, hnil0, w0⟩ := rd_ints Try.underlying22 Try.underlying3 (by kernel_rfl) (by kernel_rfl) hf0 (weight_arg hsz (j := 0) (t := 22) rfl rfl)
  have hcs0_ : [Value.slice A0 n0 c0] = [.slice A0_ l0.length c0_] := hcs0
  simp only [List.cons.injEq, Value.slice.injEq, and_true] at hcs0_
  obtain ⟨rfl, rfl, rfl⟩ := hcs0_
  clear hcs0
  obtain ⟨a1, rfl, rfl, rfl, w1⟩ := open_int Try.underlying3 (hval 1 3 v1 rfl rfl) h1
  clear hA0 hval0
  refine (walk A0 l0 c0 a1 W hle0 hcap0 hnil0 w0 w1).mono fun e W' ⟨he, bel⟩ => ?_
  subst he
  exact ⟨_, rfl, _, _, _, [], _, [], hW', trodAll_mk1 (shut_bool Try.underlying4 _), (trodAll_cons_mk (Below.trod laidOut (by kernel_rfl) (of_decide_eq_true (by kernel_rfl)) k0 bel lt0) (trodAll_cons_mk (shut_int Try.underlying3 w1) trodAll_mk0)), rfl, bel.frame _, fun h => by cases h⟩

theorem over : Rows.packWideRow.holds Try.pinned (OpenSpec.ofChange Rows.packWideSpec) :=
  OpenClaim.holds_of_wide 8 Try.f8 rfl rfl rfl rfl rfl rfl rfl ⟨rfl, rfl, rfl, rfl, rfl⟩ rfl rfl rfl rfl rfl (by kernel_rfl) Try.func8 (by kernel_rfl)
    (of_decide_eq_true (by kernel_rfl)) (by unfold Func.isWrapper; first | (rw [if_pos (by decide +kernel)]; kernel_rfl) | (rw [if_neg (by decide +kernel)]; exact ⟨rfl, rfl⟩))
    (fun os started H enc _ => lifted os started H enc)

/-- THE STATEMENT. -/
theorem proved : Rows.PackWideSaid := over
#print axioms proved
end Go.Proofs.Ytpehbagcbkpnnaa.packWide
