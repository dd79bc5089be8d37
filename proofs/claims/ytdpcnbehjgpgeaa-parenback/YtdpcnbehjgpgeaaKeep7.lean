/-
  The small functions of the seventh chapter's statements: contracts, walked over the translated text. No condition but what each theorem names.
-/
import Derived.Test.YtdpcnbehjgpgeaaParChk
import Derived.Test.YtdpcnbehjgpgeaaParBld
import Derived.Test.YtdpcnbehjgpgeaaKeep3
namespace Go.Proofs.Ytdpcnbehjgpgeaa
open Go.RowKit Words

/-- Not yet closed: o are open. -/
structure PreB (b : List Bool) (o : Nat) : Prop where
  nn : ∀ i, i ≤ b.length → 0 ≤ dp b i
  last : dp b b.length = (o : Nat)

theorem PreB.nil : PreB [] 0 := ⟨fun i h => Bal.nil.nn i h, rfl⟩
theorem PreB.up {b : List Bool} {o : Nat} (h : PreB b o) : PreB (b ++ [true]) (o + 1) := by
  have e : dp (b ++ [true]) (b.length + 1) = o + 1 := by rw [dp_right, h.last]; rfl
  refine ⟨fun i hi => ?_, by rw [List.length_append]; show dp _ (b.length + 1) = _; rw [e]; rfl⟩
  rw [List.length_append] at hi
  have hi2 : i ≤ b.length + 1 := hi
  by_cases h1 : i ≤ b.length
  · rw [dp_left h1]; exact h.nn i h1
  · rw [show i = b.length + 1 by omega, e]; omega
theorem PreB.down {b : List Bool} {o : Nat} (h : PreB b (o + 1)) : PreB (b ++ [false]) o := by
  have e : dp (b ++ [false]) (b.length + 1) = o := by
    rw [dp_right, h.last]
    show ((o + 1 : Nat) : Int) + -1 = o
    omega
  refine ⟨fun i hi => ?_, by rw [List.length_append]; show dp _ (b.length + 1) = _; exact e⟩
  rw [List.length_append] at hi
  have hi2 : i ≤ b.length + 1 := hi
  by_cases h1 : i ≤ b.length
  · rw [dp_left h1]; exact h.nn i h1
  · rw [show i = b.length + 1 by omega, e]; omega
theorem PreB.bal {b : List Bool} (h : PreB b 0) : Bal b := ⟨h.nn, h.last⟩
theorem PreB.two {b : List Bool} {o : Nat} (h : PreB b o) : b.length + o = 2 * oc b := by
  have h1 := cntO_dp (l := b) b.length (Nat.le_refl _)
  rw [h.last] at h1
  unfold oc
  omega
theorem oc_up (b : List Bool) : oc (b ++ [true]) = oc b + 1 := by rw [oc_append]; rfl
theorem oc_down (b : List Bool) : oc (b ++ [false]) = oc b := by rw [oc_append]; rfl
theorem txtP_up (b : List Bool) : txtP b ++ ByteArray.mk #[40] = txtP (b ++ [true]) := txtP_append b [true]
theorem txtP_down (b : List Bool) : txtP b ++ ByteArray.mk #[41] = txtP (b ++ [false]) := txtP_append b [false]

set_option maxHeartbeats 2000000 in
/-- damaskkeep.Brackets: a balanced text of at most n pairs. -/
theorem brackets_any (A : Option Addr) (l : List Int) (c n : Nat) (w : World) (hn : n ≤ 100) (hcap : l.length ≤ 17592186044416) (hwf : ∀ z ∈ l, (Lit.int .i64 z).wf = true) (hL : Lies w w.heap.size A (l.map (.int .i64))) :
    Calls Try.prog 22 #[.slice A l.length c, .int .i64 n] w fun e w' => (∃ b, Bal b ∧ oc b ≤ n ∧ e = .returned (.string (txtP b))) ∧ w = w' := by
  have HL := Lib.hid hL
  have HWF := Lib.hid hwf
  clear hL hwf
  generalize hmm : l.length = m at *
  have HM := Lib.hid hmm
  clear hmm
  go_enter Try.func22, Try.ntmps22
  go_wp2_with fail
  go_loop [5, 6, 7, 8] (fun s a b i => ∃ (t : List Bool) (o k j : Nat), j ≤ m ∧ k ≤ n ∧ o ≤ k ∧ PreB t o ∧ oc t = k ∧ s = .string (txtP t) ∧ a = .int .i64 o ∧ b = .int .i64 k ∧ i = .int .i64 j) (fun _ _ _ i => m - (intOf i).toNat)
  case atStart => exact ⟨[], 0, 0, 0, Nat.zero_le _, Nat.zero_le _, Nat.le_refl _, PreB.nil, rfl, rfl, rfl, rfl, rfl⟩
  case round =>
    obtain ⟨t, o, k, j, hj, hk, hok, hpre, hoc, rfl, rfl, rfl, rfl⟩ := hrel
    have HPre := Lib.hid hpre
    have HOc := Lib.hid hoc
    have hlen : (txtP t).size ≤ 200 := by rw [txtP_size]; have := hpre.two; omega
    have HUp := Lib.hid (txtP_up t)
    have HDn := Lib.hid (txtP_down t)
    clear hpre hoc
    by_cases hgo : j < m ∧ k < n
    · obtain ⟨hjm, hkn⟩ := hgo
      obtain ⟨b, o1, x, rfl, hb, hx, hc⟩ := HL.out.at_ (k := j) (by rw [HM.out]; exact hjm)
      have HP := Lib.hid (pick_any x 5 · (by decide) (by decide) (HWF.out x (List.mem_of_getElem? hx)))
      have hjI : (j : Int) < (m : Int) := by omega
      clear hx
      generalize pick 5 x = y at *
      rcases Nat.eq_zero_or_pos o with rfl | ho
      · generalize txtP t = S at *
        go_wp2_with fail
        go_round
        case rel => exact ⟨t ++ [true], 1, k + 1, j + 1, by omega, by omega, by omega, HPre.out.up, by rw [oc_up, HOc.out], by rw [HUp.out], by go_num, by go_num, by go_num⟩
        case measure => simp [intOf]; omega
      · obtain ⟨o', rfl⟩ : ∃ o', o = o' + 1 := ⟨o - 1, by omega⟩
        have hsub : ((o' + 1 : Nat) : Int) - 1 = (o' : Int) := by omega
        generalize txtP t = S at *
        by_cases hy : y < 2
        · go_wp2_with (go_at_call 24; refine (HP.out _).mono ?_; rintro e w' ⟨rfl, rfl⟩)
          go_round
          case rel => exact ⟨t ++ [false], o', k, j + 1, by omega, by omega, by omega, HPre.out.down, by rw [oc_down, HOc.out], by rw [HDn.out], by first | rfl | (congr 1; omega), rfl, by go_num⟩
          case measure => simp [intOf]; omega
        · go_wp2_with (go_at_call 24; refine (HP.out _).mono ?_; rintro e w' ⟨rfl, rfl⟩)
          go_round
          case rel => exact ⟨t ++ [true], o' + 1 + 1, k + 1, j + 1, by omega, by omega, by omega, HPre.out.up, by rw [oc_up, HOc.out], by rw [HUp.out], by go_num, by go_num, by go_num⟩
          case measure => simp [intOf]; omega
    · have hst : decide (j < m) = false ∨ (j < m ∧ decide (k < n) = false) := by
        by_cases h : j < m
        · exact .inr ⟨h, by simp; omega⟩
        · exact .inl (by simpa using h)
      clear hgo
      rcases hst with h1 | ⟨h1, h2⟩
      all_goals
        generalize hS : txtP t = S at *
        have HS := Lib.hid hS
        clear hS
        go_wp2_with fail
        go_loop [5, 6] (fun s a => ∃ (u : List Bool) (p : Nat), p ≤ n ∧ PreB u p ∧ oc u ≤ n ∧ s = .string (txtP u) ∧ a = .int .i64 p) (fun _ a => (intOf a).toNat)
        case atStart => exact ⟨t, o, by omega, HPre.out, by rw [HOc.out]; exact hk, by rw [HS.out], rfl⟩
        case round =>
          obtain ⟨u, p, hp, hpre, hou, rfl, rfl⟩ := hrel
          have HPu := Lib.hid hpre
          have hlu : (txtP u).size ≤ 200 := by rw [txtP_size]; have := hpre.two; omega
          have HDu := Lib.hid (txtP_down u)
          clear hpre
          rcases Nat.eq_zero_or_pos p with rfl | hp0
          · generalize hS : txtP u = S5 at *
            have HS5 := Lib.hid hS
            clear hS
            go_wp2_with fail
            go_ret
            exact ⟨⟨u, HPu.out.bal, hou, by rw [HS5.out]; rfl⟩, rfl⟩
          · obtain ⟨p', rfl⟩ : ∃ p', p = p' + 1 := ⟨p - 1, by omega⟩
            have hsub : ((p' + 1 : Nat) : Int) - 1 = (p' : Int) := by omega
            generalize txtP u = S5 at *
            go_wp2_with fail
            go_round
            case rel => exact ⟨u ++ [false], p', by omega, HPu.out.down, by rw [oc_down]; exact hou, by rw [HDu.out], by first | rfl | (congr 1; omega)⟩
            case measure => first | (simp [intOf]; omega) | simp [intOf]
end Go.Proofs.Ytdpcnbehjgpgeaa
