/-
  What the document's functions of chapter 8 return: contracts, walked over the translated text. No condition but what each theorem names.
-/
import Derived.Test.YtegcpfopdaoebaaFenTr
namespace Go.Proofs.Ytegcpfopdaoebaa
open Go.RowKit Words

set_option maxHeartbeats 1000000 in
/-- damaskref.fenFrom. -/
theorem from_any (i : Nat) (w : World) (hi : i ≤ 1000) :
    Calls Try.prog 27 #[.int .i64 i] w fun e w' => e = .returned (.int .i64 (frm i : Nat)) ∧ w = w' := by
  have HE := Lib.hid (fun k => low_end k i)
  generalize frm i = r at *
  go_enter Try.func27, Try.ntmps27
  go_wp2_with fail
  go_loop [3] (fun a => ∃ k p : Nat, p = 2 ^ k ∧ 0 < p ∧ p ≤ i + 1 ∧ (i + 1) % p = 0 ∧ a = .int .i64 p) (fun a => 2000 - (intOf a).toNat)
  case atStart => exact ⟨0, 1, rfl, by omega, by omega, by omega, rfl⟩
  case round =>
    obtain ⟨k, p, hp, h0, h1, h2, rfl⟩ := hrel
    have HP := Lib.hid hp
    have H2 := Lib.hid h2
    obtain ⟨q, hq⟩ : ∃ q, q = 2 * p := ⟨_, rfl⟩
    have hq2 : 2 * (p : Int) = (q : Int) := by omega
    have hq3 : (p : Int) * 2 = (q : Int) := by omega
    have hqb : q ≤ 4000 := by omega
    have hqp : 0 < q := by omega
    have hs : (i : Int) + 1 = ((i + 1 : Nat) : Int) := by omega
    obtain ⟨m, hm⟩ : ∃ m, m = (i + 1) % q := ⟨_, rfl⟩
    have hmi : ((i + 1 : Nat) : Int).tmod (q : Int) = (m : Int) := by rw [hm, Int.tmod_eq_emod_of_nonneg (by omega)]; rfl
    have hmi2 : ((i + 1 : Nat) : Int) % (q : Int) = (m : Int) := by rw [hm]; rfl
    have HQ := Lib.hid hq
    have HM := Lib.hid hm
    clear hp h2 hq hm
    by_cases hz : m = 0
    · subst hz
      have hle : q ≤ i + 1 := Nat.le_of_dvd (by omega) (Nat.dvd_of_mod_eq_zero HM.out.symm)
      generalize hss : i + 1 = s at *
      have HSS := Lib.hid hss
      clear hss
      go_wp2_with fail
      go_round
      case rel => exact ⟨k + 1, q, by rw [HQ.out, HP.out, Nat.pow_succ, Nat.mul_comm], hqp, hle, HM.out.symm, rfl⟩
      case measure => simp [intOf]; omega
    · have hr := HE.out k (by rw [← HP.out]; exact H2.out) (by rw [← HP.out, ← HQ.out, ← HM.out]; exact hz)
      rw [← HP.out] at hr
      have hri : ((i + 1 : Nat) : Int) - (p : Int) = (r : Int) := by omega
      generalize hss : i + 1 = s at *
      clear hss
      have hne : ((m : Int) == 0) = false := by simpa using hz
      go_wp2_with fail
      go_ret
      exact ⟨rfl, rfl⟩

theorem win_none (L : Int) : Win L [] := fun x h => by cases h
theorem win_take {L : Int} {l : List Int} {i : Nat} {x : Int} (h : Win L (l.take i)) (hx : l[i]? = some x) (hi : In L x) : Win L (l.take (i + 1)) := by
  rw [List.take_add_one, hx]
  intro y hy
  rcases List.mem_append.1 hy with h1 | h1
  · exact h y h1
  · obtain rfl : y = x := by simpa using h1
    exact hi

set_option maxHeartbeats 1000000 in
/-- damaskref.fenMay. -/
theorem rmay_any (A : Option Addr) (l : List Int) (c : Nat) (w : World) (hn : l.length ≤ 17592186044416) (hL : Lies w w.heap.size A (l.map (.int .i64))) :
    Calls Try.prog 30 #[.slice A l.length c] w fun e w' => e = .returned (.bool (decide (Valid l))) ∧ w = w' := by
  obtain ⟨r, hr⟩ : ∃ r, r = decide (Valid l) := ⟨_, rfl⟩
  rw [← hr]
  have HR := Lib.hid hr
  have HL := Lib.hid hL
  clear hL hr
  generalize hk : l.length = n at *
  have HN := Lib.hid hk
  clear hk
  go_enter Try.func30, Try.ntmps30
  go_wp2_with fail
  go_loop [7] (fun a => ∃ i : Nat, i ≤ n ∧ Win 1099511627776 (l.take i) ∧ a = .int .i64 i) (fun a => n - (intOf a).toNat)
  case atStart => exact ⟨0, Nat.zero_le _, win_none _, rfl⟩
  case round =>
    obtain ⟨i, hi, hW, rfl⟩ := hrel
    have HW := Lib.hid hW
    clear hW
    by_cases hlt : i < n
    · obtain ⟨b, o, x, rfl, hb, hx, hc⟩ := HL.out.at_ (k := i) (by rw [HN.out]; exact hlt)
      have HX := Lib.hid hx
      clear hx
      by_cases h1 : x < -1099511627776
      · have hre : r = false := by
          rw [HR.out]; exact decide_eq_false fun h => by have := (h.2 x (List.mem_of_getElem? HX.out)).1; omega
        subst hre
        go_wp2_with fail
        go_ret
        exact ⟨rfl, rfl⟩
      · by_cases h2 : 1099511627776 < x
        · have hre : r = false := by
            rw [HR.out]; exact decide_eq_false fun h => by have := (h.2 x (List.mem_of_getElem? HX.out)).2; omega
          subst hre
          go_wp2_with fail
          go_ret
          exact ⟨rfl, rfl⟩
        · have HI := Lib.hid (show In 1099511627776 x from ⟨by omega, by omega⟩)
          go_wp2_with fail
          go_round
          case rel => exact ⟨i + 1, by omega, win_take HW.out HX.out HI.out, by go_num⟩
          case measure => simp [intOf]; omega
    · obtain rfl : n = i := by omega
      have hre : r = decide (n ≤ 300) := by
        rw [HR.out]
        have h := HW.out
        rw [List.take_of_length_le (by rw [HN.out]; omega)] at h
        exact Bool.eq_iff_iff.2 (by simp only [decide_eq_true_eq]; exact ⟨fun h => by have := h.1; rw [HN.out] at this; exact this, fun h2 => ⟨by rw [HN.out]; exact h2, h⟩⟩)
      by_cases h3 : n ≤ 300
      · rw [decide_eq_true h3] at hre
        subst hre
        clear HR
        have e3 : decide ((n : Int) ≤ 300) = true := decide_eq_true (by omega)
        go_wp2_with fail
        go_ret
        exact ⟨rfl, rfl⟩
      · rw [decide_eq_false h3] at hre
        subst hre
        clear HR
        have e3 : decide ((n : Int) ≤ 300) = false := decide_eq_false (by omega)
        go_wp2_with fail
        go_ret
        exact ⟨rfl, rfl⟩

theorem rfmk_size (A : Option Addr) (n c : Nat) (w : World) (h : 300 < n) (hn : n ≤ 17592186044416) :
    Calls Try.prog 11 #[.slice A n c] w (NoT w 1) := by
  go_enter Try.func11, Try.ntmps11
  go_wp2_with fail
  go_ret2
  exact ⟨rfl, Below.refl _ _⟩

set_option maxHeartbeats 1000000 in
theorem rfmk_range (A : Option Addr) (l : List Int) (c : Nat) (w : World) (hn : l.length ≤ 300) (hx : ¬ Win 1048576 l) (hL : Lies w w.heap.size A (l.map (.int .i64))) :
    Calls Try.prog 11 #[.slice A l.length c] w (NoT w 2) := by
  have HNW := Lib.hid hx
  have HL := Lib.hid hL
  clear hL hx
  generalize hk : l.length = n at *
  have HN := Lib.hid hk
  clear hk
  go_enter Try.func11, Try.ntmps11
  go_wp2_with fail
  go_loop [15] (fun a => ∃ i : Nat, i ≤ n ∧ Win 1048576 (l.take i) ∧ a = .int .i64 i) (fun a => n - (intOf a).toNat)
  case atStart => exact ⟨0, Nat.zero_le _, win_none _, rfl⟩
  case round =>
    obtain ⟨i, hi, hW, rfl⟩ := hrel
    have HW := Lib.hid hW
    clear hW
    by_cases hlt : i < n
    · obtain ⟨b, o, x, rfl, hb, hx, hc⟩ := HL.out.at_ (k := i) (by rw [HN.out]; exact hlt)
      have HX := Lib.hid hx
      clear hx
      by_cases h1 : x < -1048576
      · go_wp2_with fail
        go_ret2
        exact ⟨rfl, Below.refl _ _⟩
      · by_cases h2 : 1048576 < x
        · go_wp2_with fail
          go_ret2
          exact ⟨rfl, Below.refl _ _⟩
        · have HI := Lib.hid (show In 1048576 x from ⟨by omega, by omega⟩)
          go_wp2_with fail
          go_round
          case rel => exact ⟨i + 1, by omega, win_take HW.out HX.out HI.out, by go_num⟩
          case measure => simp [intOf]; omega
    · exfalso
      have h := HW.out
      rw [List.take_of_length_le (by rw [HN.out]; omega)] at h
      exact HNW.out h

set_option maxHeartbeats 2000000 in
/-- The document's FenMake. -/
theorem rfmk_any (A : Option Addr) (l : List Int) (c : Nat) (w : World) (hn : l.length ≤ 300) (hx : Win 1048576 l) (hL : Lies w w.heap.size A (l.map (.int .i64))) :
    Calls Try.prog 11 #[.slice A l.length c] w (GivesT w (tr (at0 l)) l.length) := by
  have HXW := Lib.hid (fun j h => hx.at0 j h)
  have HG := Lib.hid (at0_get l)
  have HL := Lib.hid hL
  have HFr := Lib.hid (fun i (hi : i ≤ 1000) W => from_any i W hi)
  have HB := Lib.hid (fun i (hi : i ≤ l.length) => S_300 (f := at0 l) i 1048576 (by decide) (by omega) fun c hc => hx.at0 c (by omega))
  clear hL hx
  generalize hk : l.length = n at *
  have HN := Lib.hid hk
  clear hk
  go_enter Try.func11, Try.ntmps11
  go_wp2_with fail
  go_loop [15] (fun a => ∃ i : Nat, i ≤ n ∧ a = .int .i64 i) (fun a => n - (intOf a).toNat)
  case atStart => exact ⟨0, Nat.zero_le _, rfl⟩
  case round =>
    obtain ⟨i, hi, rfl⟩ := hrel
    by_cases hlt : i < n
    · obtain ⟨b, o, x, rfl, hb, hx, hc⟩ := HL.out.at_ (k := i) (by rw [HN.out]; exact hlt)
      obtain ⟨hx1, hx2⟩ := HXW.out i hlt
      rw [HG.out i x hx] at hx1 hx2
      clear hx
      go_wp2_with fail
      go_round
      case rel => exact ⟨i + 1, by omega, by go_num⟩
      case measure => simp [intOf]; omega
    · obtain rfl : n = i := by omega
      clear hlt hi
      go_wp2_with fail
      go_loopw [6, 28] (fun v a w' => ∃ j : Nat, j ≤ n ∧ a = .int .i64 j ∧ w'.ownsRow w.heap.size 3 1 v j (cellsOf (tr (at0 l)) j) ∧ Below w.heap.size w w') (fun _ a _ => n - (intOf a).toNat)
      case atStart => exact ⟨0, Nat.zero_le _, rfl, World.ownsRow_nil _ _ _ _, Below.refl _ _⟩
      case round =>
        obtain ⟨j, hj, rfl, hown, hbl⟩ := hrel
        by_cases hlt : j < n
        · have HLr := Lib.hid (HL.out.on hbl)
          have HK := Lib.hid (fun W => HFr.out j (by omega) W)
          have hfl := frm_le j
          have HX := Lib.hid (show cellsOf (tr (at0 l)) (j + 1) = cellsOf (tr (at0 l)) j ++ [.int .i64 (tr (at0 l) j)] by unfold cellsOf; rw [vals_succ, List.map_append]; rfl)
          have HT := Lib.hid (show tr (at0 l) j = S (at0 l) (j + 1) - S (at0 l) (frm j) from rfl)
          obtain ⟨f1, f2⟩ := HB.out (frm j) (by omega)
          generalize tr (at0 l) j = y at *
          generalize frm j = q at *
          generalize hss : S (at0 l) q = sq at *
          have HSQ := Lib.hid hss
          clear hss
          have hsz := hbl.size
          go_wp2_with (go_at_call 27; refine (HK.out _).mono ?_; rintro e w' ⟨rfl, rfl⟩)
          go_loop [8, 9] (fun s a => ∃ k : Nat, q ≤ k ∧ k ≤ j + 1 ∧ s = .int .i64 (S (at0 l) k - sq) ∧ a = .int .i64 k) (fun _ a => j + 1 - (intOf a).toNat)
          case atStart => exact ⟨q, Nat.le_refl _, by omega, by rw [HSQ.out]; simp, rfl⟩
          case round =>
            obtain ⟨k, hk1, hk2, rfl, rfl⟩ := hrel
            obtain ⟨k1, k2⟩ := HB.out k (by omega)
            by_cases hle : k ≤ j
            · obtain ⟨b, o, x, rfl, hb, hx, hc⟩ := HLr.out.at_ (k := k) (by rw [HN.out]; omega)
              obtain ⟨hx1, hx2⟩ := HXW.out k (by omega)
              have hxe := HG.out k x hx
              rw [hxe] at hx1 hx2
              have HSt := Lib.hid (show S (at0 l) k - sq + x = S (at0 l) (k + 1) - sq by rw [S_succ, hxe]; omega)
              clear hx hxe
              have hkn : (k : Int) < (n : Int) := by omega
              generalize S (at0 l) k = s at *
              go_wp2_with fail
              go_round
              case rel => exact ⟨k + 1, by omega, by omega, by rw [← HSt.out], by go_num⟩
              case measure => simp [intOf]; omega
            · obtain rfl : k = j + 1 := by omega
              rw [← HT.out]
              clear k1 k2
              go_wp2_with (at_builtin; go_loud (refine append_one _ rfl (.tmp 44) (.tmp 46) 22 rfl w.heap.size 3 (.int .i64 0) 8 Try.underlying22 fint_info rfl u6 j _ rfl (hown.alloc _) wr.heap.size 1 (.int .i64 y) rfl (by simp) rfl (by simp only [maxLen]; omega) (by omega) (by simp; omega) ?_))
              intro v1 w2 hown1 hg1
              go_wp2_with fail
              go_roundw
              case rel => exact ⟨j + 1, by omega, by go_num, by rw [HX.out]; exact hown1, (hbl.alloc hsz _).grown hg1 (by simp; omega) (fun q hq => (hown.lt q hq).1)⟩
              case measure => simp [intOf]; omega
        · obtain rfl : n = j := by omega
          obtain ⟨A3, c3, rfl, _, _, hl3, hn3, _⟩ := own_slice hown
          have HR := Lib.hid hown
          clear hown hl3 hn3
          go_wp2_with fail
          go_ret2
          exact own_gives HR.out hbl
end Go.Proofs.Ytegcpfopdaoebaa
