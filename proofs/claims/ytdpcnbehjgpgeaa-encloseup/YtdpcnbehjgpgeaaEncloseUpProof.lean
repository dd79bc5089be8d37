/-
  For every list l and every number i: in a pair of parentheses around a balanced text of at most 60 pairs, Go's paren.Enclose leads from each place outwards, from '(' to '(', in as many steps as pairs enclose the place's pair, and then returns ErrNone.
  No condition.
-/
import Derived.Test.YtdpcnbehjgpgeaaRows
import Derived.Test.YtdpcnbehjgpgeaaFrame
import Derived.Test.YtdpcnbehjgpgeaaParPr
import Derived.Test.YtdpcnbehjgpgeaaParMid
import Derived.Test.YtdpcnbehjgpgeaaKeep7
import Derived.WalkKit
import Derived.ProofKit
import Derived.OpenShut
import Derived.ChangeOld
import Derived.Below
import Derived.Carry
import Derived.SizedLaws
import Derived.Deep.RegionWith
import Derived.Deep.RegionHeld3
namespace Go.Proofs.Ytdpcnbehjgpgeaa.encloseUp
open Go.ChangeShapes Go.WideShapes Go.ChangeAt Go.RowKit Words
set_option linter.unusedVariables false

theorem own : ownKnob Try.prog.godebug = none := by kernel_rfl
theorem laidOut : laidOutB Try.prog = true := by kernel_rfl
theorem wrap_txt (b : List Bool) : ByteArray.mk #[40] ++ txtP b ++ ByteArray.mk #[41] = txtP (true :: (b ++ [false])) := by
  have h1 : ByteArray.mk #[40] = txtP [true] := rfl
  have h2 : ByteArray.mk #[41] = txtP [false] := rfl
  rw [h1, h2, txtP_append, txtP_append]
  rfl
/-- Where a pair is open, what encloses it. -/
theorem enc_pos {l : List Bool} {a : Nat} (ha : a ≤ l.length) (hd : 0 < dp l a) : ∃ q, enc l a = some q := by
  obtain ⟨q, hq⟩ := Bal.enc ha hd
  exact ⟨q, (enc_iff ha).2 hq⟩


set_option maxRecDepth 100000 in
set_option maxHeartbeats 4000000 in
/-- The walk: the Go text returns true, and writes nothing that was there. -/
theorem walk (A0 : Option Addr) (l0 : List Int) (c0 : Nat) (a1 : Int) (w : World) (hle0 : l0.length ≤ c0) (hcap0 : c0 * 8 ≤ 140737488351232) (hnil0 : A0 = none → c0 = 0) (w0 : Lies w w.heap.size A0 (l0.map (.int .i64)) ∧ ∀ z ∈ l0, (Lit.int .i64 z).wf = true) (w1 : (Lit.int .i64 a1).wf = true) :
    Calls Try.prog 10 #[.slice A0 l0.length c0, .int .i64 a1] w fun e w' => e = .returned (.bool true) ∧ Below w.heap.size w w' := by
  have HBr := Lib.hid (brackets_any A0 l0 c0 60 w (by decide) (by omega) w0.2 w0.1)
  clear w0 hnil0
  go_enter Try.func10, Try.ntmps10
  go_wp2_with fail
  refine HBr.out.mono ?_
  rintro e v1 ⟨⟨t, hbt, hot, rfl⟩, rfl⟩
  have hl2 := hbt.two
  have hbal := hbt.wrap
  have hwr := wrap_txt t
  have hts : (txtP t).size ≤ 120 := by rw [txtP_size]; omega
  have hL : (true :: (t ++ [false])).length = t.length + 2 := by simp
  have hL2 : (true :: (t ++ [false])).length ≤ 122 := by omega
  have hL3 : 0 < (true :: (t ++ [false])).length := by omega
  clear hbt hot hl2 hL
  generalize txtP t = T at *
  generalize true :: (t ++ [false]) = L at *
  have hsz := txtP_size L
  have hp1 := pick_lt (n := L.length) hL3 a1
  have HP := Lib.hid (pick_any a1 L.length · hL3 (by omega) w1)
  generalize pick L.length a1 = k at *
  have HBal := Lib.hid hbal
  have HE := Lib.hid (fun i a b (hc : IsClose L a b) (hi : i = a ∨ i = b) W => penc_any L i a b W (by omega) hbal hc hi)
  have HAt := Lib.hid (fun j x (h1 : L[j]? = some x) (h2 : j < (txtP L).size) => txtP_at h1 h2)
  clear hbal
  generalize txtP L = S at *
  go_wp2_with fail
  refine (HP.out _).mono ?_
  rintro e v2 ⟨rfl, rfl⟩
  clear HP HBr
  go_wp2_with fail
  go_loop [7, 8] (fun d s => ∃ j : Nat, j ≤ k ∧ d = .int .i64 (dp L j) ∧ s = .int .i64 j) (fun _ s => k - (intOf s).toNat)
  case atStart => exact ⟨0, Nat.zero_le _, rfl, rfl⟩
  case round =>
    obtain ⟨j, hj, rfl, rfl⟩ := hrel
    have d1 := dp_le L j
    have d2 := dp_ge L j
    by_cases hlt : j < k
    · have hjs : j < S.size := by omega
      have hjI : (j : Int) < (S.size : Int) := by omega
      rcases get_or (show j < L.length by omega) with hb | hb
      · have hbj : (S[j]'hjs).toNat = 40 := HAt.out j true hb hjs
        have HU := Lib.hid (dp_up hb)
        clear hb
        generalize dp L j = x at *
        go_wp2_with fail
        go_round
        case rel => exact ⟨j + 1, by omega, by rw [HU.out], by go_num⟩
        case measure => simp [intOf]; omega
      · have hbj : (S[j]'hjs).toNat = 41 := HAt.out j false hb hjs
        have HU := Lib.hid (dp_down hb)
        clear hb
        generalize dp L j = x at *
        go_wp2_with fail
        go_round
        case rel => exact ⟨j + 1, by omega, by rw [HU.out], by go_num⟩
        case measure => simp [intOf]; omega
    · obtain rfl : j = k := by omega
      have hjs : j < S.size := by omega
      have hjI : (j : Int) < (S.size : Int) := by omega
      obtain ⟨a, b, hc, hia, hdd⟩ : ∃ a b, IsClose L a b ∧ (j = a ∨ j = b) ∧ ((L[j]? = some true ∧ dp L j = dp L a) ∨ (L[j]? = some false ∧ dp L j - 1 = dp L a)) := by
        rcases get_or (show j < L.length by omega) with hb | hb
        · obtain ⟨b, hc⟩ := HBal.out.close hb
          exact ⟨j, b, hc, .inl rfl, .inl ⟨hb, rfl⟩⟩
        · obtain ⟨a, hc⟩ := HBal.out.opened hb
          exact ⟨a, j, hc, .inr rfl, .inr ⟨hb, by rw [← hc.back, dp_down hb]⟩⟩
      have hnn := HBal.out.nn a (Nat.le_of_lt (get_lt hc.opens))
      obtain ⟨D, hD⟩ := Int.eq_ofNat_of_zero_le hnn
      have HD := Lib.hid hD
      have HCa := Lib.hid hc
      have HIA := Lib.hid hia
      have hD2 : D ≤ 122 := by
        have := dp_le L a
        have := get_lt hc.opens
        omega
      have HNN := Lib.hid (fun i h => HBal.out.nn i h)
      clear hnn hc hia
      rcases hdd with ⟨hb, he⟩ | ⟨hb, he⟩
      all_goals
        first
          | have hbj : (S[j]'hjs).toNat = 40 := HAt.out j true hb hjs
          | have hbj : (S[j]'hjs).toNat = 41 := HAt.out j false hb hjs
        rw [hD] at he
        clear hb hD
        first
          | (generalize dp L j = x at *; subst he)
          | (obtain ⟨x, hx⟩ : ∃ x, dp L j = x := ⟨_, rfl⟩; rw [hx] at he d1 d2 ⊢; clear hx)
        go_wp2_with fail
        go_loopw [9, 10] (fun p s w' => ∃ (n q a b : Nat), n ≤ D ∧ q < L.length ∧ s = .int .i64 n ∧ p = .int .i64 q ∧ IsClose L a b ∧ (q = a ∨ q = b) ∧ dp L a = ((D - n : Nat) : Int) ∧ Below w.heap.size w w') (fun _ s _ => D - (intOf s).toNat)
        case atStart => exact ⟨0, j, a, b, Nat.zero_le _, by omega, rfl, rfl, HCa.out, HIA.out, by rw [HD.out]; rfl, Below.refl _ _⟩
        case round =>
          obtain ⟨n, q, a, b, hn, hq, rfl, rfl, hc, hqa, hda, hbel⟩ := hrel
          have hal := get_lt hc.opens
          by_cases hlt : n < D
          · obtain ⟨u, hu⟩ := enc_pos (Nat.le_of_lt hal) (by omega : 0 < dp L a)
            obtain ⟨hua, huo, hud, c, huc⟩ := enc_step HBal.out hc hu
            have e1 : encV L a = (u : Nat) := by unfold encV; rw [hu]
            have e2 : encE L a = 0 := by unfold encE; rw [hu]
            have hE := HE.out q a b hc hqa
            rw [e1, e2] at hE
            have HEa := Lib.hid hE
            have huq : u < q := by
              have := hc.lt
              rcases hqa with h | h <;> omega
            have hus : u < S.size := by omega
            have huI : (u : Int) < (S.size : Int) := by omega
            have hbu : (S[u]'hus).toNat = 40 := HAt.out u true huo hus
            have hdu : dp L u = ((D - (n + 1) : Nat) : Int) := by omega
            have HDu := Lib.hid hdu
            have HUC := Lib.hid huc
            have hd3 : decide (q ≤ u) = false := by simp; omega
            clear hE e1 e2 hu huo hud huc hc hqa hda hdu
            go_wp2_with fail
            refine (HEa.out _).mono ?_
            rintro e w3 ⟨rfl, hb3⟩
            go_wp2_with fail
            go_roundw
            case rel => exact ⟨n + 1, u, u, c, by omega, by omega, by go_num, rfl, HUC.out, .inl rfl, HDu.out, chain hbel hb3⟩
            case measure => simp [intOf]; omega
          · obtain rfl : n = D := by omega
            have hu : enc L a = none := (enc_none_iff HBal.out (Nat.le_of_lt hal)).2 (by rw [hda, Nat.sub_self]; rfl)
            have e1 : encV L a = 0 := by unfold encV; rw [hu]
            have e2 : encE L a = 7 := by unfold encE; rw [hu]
            have hE := HE.out q a b hc hqa
            rw [e1, e2] at hE
            have HEa := Lib.hid hE
            clear hE e1 e2 hu hc hqa hda
            go_wp2_with fail
            refine (HEa.out _).mono ?_
            rintro e w3 ⟨rfl, hb3⟩
            go_wp2_with fail
            go_ret
            exact ⟨rfl, chain hbel hb3⟩

set_option maxRecDepth 100000 in
theorem lifted (os : Os) (started : os.Started) (H : Type) (enc : TypeId × Value → H) :
    ReturnsInHanded {} Try.checked os 10 .any (Rows.encloseUpSpec.pre6 enc Try.prog Try.f10 Rows.encloseUpRow.domain false) (Rows.encloseUpSpec.post enc Try.prog Try.f10 false true false false) := by
  refine returnsInHanded_of_change_sized (C := Try.checked) own started (by kernel_rfl) Try.func10
    (ChangeSpec.witness6 (enc := enc) (C := Try.checked) false ⟨#[], #[.slice none 0 0, .int .i64 0], []⟩ 8 (by kernel_rfl) (by kernel_rfl) (by kernel_rfl) (by kernel_rfl)) ?_
  intro W base args ds gs before hval0 hW hcnd hsz0 _
  have hval : ∀ (j : Nat) t v, Try.f10.params[j]? = some t → args[j]? = some v → Value.okWide Try.prog W .any base t v := hval0
  have hW' := hW
  obtain ⟨p, q, hA0, hV, rfl, hfz, hnd⟩ := hW
  have hA : DataW.TrodAll enc Try.prog W 0 (fun _ => true) true Try.f10.params.toList args.toList ds p := hA0
  have hsz : (DataW.weightsEach Try.prog (Try.f10.params.toList ++ Rows.encloseUpSpec.plain.varTypes Try.prog) (ds ++ gs)).all (· ≤ reachBytes) = true := hsz0
  rw [Try.params10] at hA hval hsz
  obtain ⟨v0, vs0, d0, ds0, p0, q0, hargs, rfl, rfl, h0, r0⟩ := trodAll_cons hA
  obtain ⟨v1, vs1, d1, ds1, p1, q1, rfl, rfl, rfl, h1, r1⟩ := trodAll_cons r0
  obtain ⟨rfl, rfl, rfl⟩ := trodAll_nil r1
  obtain rfl : args = #[v0, v1] := by cases args; simp_all
  obtain ⟨rfl, rfl⟩ := trodVars_none hV
  obtain ⟨A0, n0, c0, rfl⟩ := okWide_slice Try.underlying28 (hval 0 28 v0 rfl rfl)
  have k0 := h0
  have lt0 : ∀ x ∈ p0, x.block < W.heap.size := by obtain ⟨m, hm⟩ := k0; exact DataW.trod_lt m _ _ _ hm
  obtain ⟨fuel0, hf0⟩ := h0
  obtain ⟨A0_, l0, c0_, hcs0, hle0, hcap0, hnil0, w0⟩ := rd_ints Try.underlying28 Try.underlying3 (by kernel_rfl) (by kernel_rfl) hf0 (weight_arg hsz (j := 0) (t := 28) rfl rfl)
  have hcs0_ : [Value.slice A0 n0 c0] = [.slice A0_ l0.length c0_] := hcs0
  simp only [List.cons.injEq, Value.slice.injEq, and_true] at hcs0_
  obtain ⟨rfl, rfl, rfl⟩ := hcs0_
  clear hcs0
  obtain ⟨a1, rfl, rfl, rfl, w1⟩ := open_int Try.underlying3 (hval 1 3 v1 rfl rfl) h1
  clear hA0 hval0
  refine (walk A0 l0 c0 a1 W hle0 hcap0 hnil0 w0 w1).mono fun e W' ⟨he, bel⟩ => ?_
  subst he
  exact ⟨_, rfl, _, _, _, [], _, [], hW', trodAll_mk1 (shut_bool Try.underlying4 _), (trodAll_cons_mk (Below.trod laidOut (by kernel_rfl) (of_decide_eq_true (by kernel_rfl)) k0 bel lt0) (trodAll_cons_mk (shut_int Try.underlying3 w1) trodAll_mk0)), rfl, bel.frame _, fun h => by cases h⟩

theorem over : Rows.encloseUpRow.holds Try.pinned (OpenSpec.ofChange Rows.encloseUpSpec) :=
  OpenClaim.holds_of_wide 10 Try.f10 rfl rfl rfl rfl rfl rfl rfl ⟨rfl, rfl, rfl, rfl, rfl⟩ rfl rfl rfl rfl rfl (by kernel_rfl) Try.func10 (by kernel_rfl)
    (of_decide_eq_true (by kernel_rfl)) (by unfold Func.isWrapper; first | (rw [if_pos (by decide +kernel)]; kernel_rfl) | (rw [if_neg (by decide +kernel)]; exact ⟨rfl, rfl⟩))
    (fun os started H enc _ => lifted os started H enc)

/-- THE STATEMENT. -/
theorem proved : Rows.EncloseUpSaid := over
#print axioms proved
end Go.Proofs.Ytdpcnbehjgpgeaa.encloseUp
