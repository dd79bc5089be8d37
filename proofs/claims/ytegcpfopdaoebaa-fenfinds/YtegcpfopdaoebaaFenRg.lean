/-
  What the document's fenNumbers, FenAdd, FenSum and FenFind return: contracts, walked over the translated text. No condition but what each theorem names.
-/
import Derived.Test.YtegcpfopdaoebaaFenRf
import Derived.RegionTactic
import Derived.BigRegion
import Derived.Deep.RegionWith
namespace Go.Proofs.Ytegcpfopdaoebaa
open Go.RowKit Words

theorem cellsOf_succ (f : Nat → Int) (n : Nat) : cellsOf f (n + 1) = cellsOf f n ++ [.int .i64 (f n)] := by unfold cellsOf; rw [vals_succ, List.map_append]; rfl

set_option maxHeartbeats 2000000 in
/-- damaskref.fenNumbers. -/
theorem rnums_any (A : Option Addr) (l : List Int) (c : Nat) (w : World) (hv : Valid l) (hL : Lies w w.heap.size A (l.map (.int .i64))) :
    Calls Try.prog 32 #[.slice A l.length c] w (GivesF w (num (at0 l)) l.length) := by
  have hn := hv.1
  have HXW := Lib.hid (fun j h => hv.2.at0 j h)
  have HNB := Lib.hid (fun j h => num_bound (at0 l) l.length hv.1 1099511627776 (by decide) (fun c hc => hv.2.at0 c hc) j h)
  have HG := Lib.hid (at0_get l)
  have HL := Lib.hid hL
  have HFr := Lib.hid (fun i (hi : i ≤ 1000) W => from_any i W hi)
  have HB := Lib.hid (fun i h => num_300 l hv i h)
  have HAh := Lib.hid (num_ahead (at0 l))
  clear hL hv
  generalize at0 l = t at *
  generalize hk : l.length = n at *
  have HN := Lib.hid hk
  clear hk
  unfold GivesF
  go_enter Try.func32, Try.ntmps32
  go_wp2_with fail
  go_loopw [3, 9] (fun v a w' => ∃ j : Nat, j ≤ n ∧ a = .int .i64 j ∧ w'.ownsRow w.heap.size 3 1 v j (cellsOf (num t) j) ∧ Below w.heap.size w w') (fun _ a _ => n - (intOf a).toNat)
  case atStart => exact ⟨0, Nat.zero_le _, rfl, World.ownsRow_nil _ _ _ _, Below.refl _ _⟩
  case round =>
    obtain ⟨j, hj, rfl, hown, hbl⟩ := hrel
    obtain ⟨A3, c3, rfl, hc3, _, _, _, _⟩ := own_slice hown
    by_cases hlt : j < n
    · obtain ⟨b, o, x, rfl, hb, hx, hc⟩ := (HL.out.on hbl).at_ (k := j) (by rw [HN.out]; exact hlt)
      obtain ⟨hx1, hx2⟩ := HXW.out j hlt
      have hxe := HG.out j x hx
      rw [hxe] at hx1 hx2
      have HK := Lib.hid (fun W => HFr.out j (by omega) W)
      have hfl := frm_le j
      have HX := Lib.hid (cellsOf_succ (num t) j)
      have HT := Lib.hid (HAh.out j)
      rw [hxe] at HT
      clear hx hxe
      obtain ⟨f1, f2⟩ := HB.out (frm j) (by omega)
      generalize num t j = y at *
      generalize frm j = q at *
      generalize hss : S (num t) q = sq at *
      have HSQ := Lib.hid hss
      clear hss
      have hsz := hbl.size
      have HOwn := Lib.hid hown
      clear hown
      go_wp2_with (go_at_call 27; refine (HK.out _).mono ?_; rintro e w' ⟨rfl, rfl⟩)
      go_loop [5, 6] (fun s a => ∃ k : Nat, q ≤ k ∧ k ≤ j ∧ s = .int .i64 (x - (S (num t) k - sq)) ∧ a = .int .i64 k) (fun _ a => j - (intOf a).toNat)
      case atStart => exact ⟨q, Nat.le_refl _, hfl, by rw [HSQ.out]; simp, rfl⟩
      case round =>
        obtain ⟨k, hk1, hk2, rfl, rfl⟩ := hrel
        by_cases hle : k < j
        · obtain ⟨g, rfl, _⟩ := own_at HOwn.out (by omega)
          have hck := own_cell HOwn.out (cellsOf_get (num t) j k hle)
          obtain ⟨k1, k2⟩ := HB.out k (by omega)
          obtain ⟨k3, k4⟩ := HNB.out k (by omega)
          have HSt := Lib.hid (show x - (S (num t) k - sq) - num t k = x - (S (num t) (k + 1) - sq) by rw [S_succ]; omega)
          generalize num t k = z at *
          generalize S (num t) k = s at *
          generalize hdd : x - (s - sq) = d at *
          have d1 : -300000000000000000 ≤ d := by omega
          have d2 : d ≤ 300000000000000000 := by omega
          clear hdd
          have hkn : (k : Int) < (j : Int) := by omega
          go_wp2_with fail
          go_round
          case rel => exact ⟨k + 1, by omega, by omega, by rw [← HSt.out], by go_num⟩
          case measure => simp [intOf]; omega
        · obtain rfl : k = j := by omega
          rw [← HT.out]
          go_wp2_with (at_builtin; go_loud (refine append_one _ rfl (.tmp 27) (.tmp 29) 22 rfl w.heap.size 3 (.int .i64 0) 8 Try.underlying22 fint_info rfl (.slice A3 k c3) k _ rfl (HOwn.out.alloc _) wr.heap.size 1 (.int .i64 y) rfl (by simp) rfl (by simp only [maxLen]; omega) (by omega) (by simp; omega) ?_))
          intro v1 w2 hown1 hg1
          go_wp2_with fail
          go_roundw
          case rel => exact ⟨k + 1, by omega, by go_num, by rw [HX.out]; exact hown1, (hbl.alloc hsz _).grown hg1 (by simp; omega) (fun q hq => (HOwn.out.lt q hq).1)⟩
          case measure => simp [intOf]; omega
    · obtain rfl : n = j := by omega
      have HR := Lib.hid hown
      clear hown
      go_wp2_with fail
      go_ret
      exact ⟨A3, c3, rfl, HR.out, hbl⟩

/-- The document's FenAdd of a tree that is not valid. -/
theorem rfadd_form (A : Option Addr) (l : List Int) (c : Nat) (i d : Int) (w : World) (hn : l.length ≤ 17592186044416) (hv : ¬ Valid l) (hL : Lies w w.heap.size A (l.map (.int .i64))) :
    Calls Try.prog 14 #[.slice A l.length c, .int .i64 i, .int .i64 d] w (NoT w 4) := by
  have H := Lib.hid (rmay_any A l c w hn hL)
  rw [decide_eq_false hv] at H
  clear hv hL
  generalize l.length = n at *
  go_enter Try.func14, Try.ntmps14
  go_wp2_with fail
  refine H.out.mono ?_
  rintro e w1 ⟨rfl, rfl⟩
  go_wp2_with fail
  go_ret2
  exact ⟨rfl, Below.refl _ _⟩

set_option maxHeartbeats 1000000 in
/-- .. of an index or a number out of range. -/
theorem rfadd_range (A : Option Addr) (l : List Int) (c : Nat) (i d : Int) (w : World) (hv : Valid l) (hr : i < 0 ∨ (l.length : Int) ≤ i ∨ ¬ In 1048576 d) (hL : Lies w w.heap.size A (l.map (.int .i64))) :
    Calls Try.prog 14 #[.slice A l.length c, .int .i64 i, .int .i64 d] w (NoT w 2) := by
  have hn := hv.1
  have H := Lib.hid (rmay_any A l c w (by omega) hL)
  rw [decide_eq_true hv] at H
  clear hv hL
  generalize l.length = n at *
  by_cases h0 : i < 0
  · go_enter Try.func14, Try.ntmps14
    go_wp2_with fail
    refine H.out.mono ?_
    rintro e w1 ⟨rfl, rfl⟩
    go_wp2_with fail
    go_ret2
    exact ⟨rfl, Below.refl _ _⟩
  · by_cases h1 : (n : Int) ≤ i
    · go_enter Try.func14, Try.ntmps14
      go_wp2_with fail
      refine H.out.mono ?_
      rintro e w1 ⟨rfl, rfl⟩
      go_wp2_with fail
      go_ret2
      exact ⟨rfl, Below.refl _ _⟩
    · have h2 : ¬ In 1048576 d := by rcases hr with h | h | h; exact absurd h h0; exact absurd h h1; exact h
      have h4 : d < -1048576 ∨ 1048576 < d := by unfold In at h2; omega
      clear hr h2
      obtain ⟨k, rfl⟩ := Int.eq_ofNat_of_zero_le (a := i) (by omega)
      have h3 : k < n := by omega
      clear h0 h1
      by_cases h5 : d < -1048576
      · go_enter Try.func14, Try.ntmps14
        go_wp2_with fail
        refine H.out.mono ?_
        rintro e w1 ⟨rfl, rfl⟩
        go_wp2_with fail
        go_ret2
        exact ⟨rfl, Below.refl _ _⟩
      · have h6 : 1048576 < d := by omega
        clear h4
        go_enter Try.func14, Try.ntmps14
        go_wp2_with fail
        refine H.out.mono ?_
        rintro e w1 ⟨rfl, rfl⟩
        go_wp2_with fail
        go_ret2
        exact ⟨rfl, Below.refl _ _⟩

set_option maxHeartbeats 2000000 in
/-- The document's FenAdd. -/
theorem rfadd_both (A : Option Addr) (l : List Int) (c p : Nat) (d : Int) (w : World) (hv : Valid l) (hp : p < l.length) (hd : In 1048576 d) (hL : Lies w w.heap.size A (l.map (.int .i64))) :
    Calls Try.prog 14 #[.slice A l.length c, .int .i64 p, .int .i64 d] w (fun e w' => (Valid (vals (added (at0 l) p d) l.length) ∧ GivesT w (added (at0 l) p d) l.length e w') ∨ (¬ Valid (vals (added (at0 l) p d) l.length) ∧ NoT w 1 e w')) := by
  have hn := hv.1
  have H := Lib.hid (rmay_any A l c w (by omega) hL)
  rw [decide_eq_true hv] at H
  have HL := Lib.hid hL
  have HG := Lib.hid (at0_get l)
  have HXW := Lib.hid (fun j h => hv.2.at0 j h)
  have HFr := Lib.hid (fun i (hi : i ≤ 1000) W => from_any i W hi)
  have HV := Lib.hid (fun A c W hW => rmay_any A (vals (added (at0 l) p d) l.length) c W (by rw [vals_length]; omega) hW)
  rw [vals_length] at HV
  have hd1 : -1048576 ≤ d := hd.1
  have hd2 : d ≤ 1048576 := hd.2
  clear hv hL hd
  generalize at0 l = t at *
  generalize hk : l.length = n at *
  have HN := Lib.hid hk
  clear hk
  have e1 : decide ((p : Int) < 0) = false := by simp
  have e2 : decide (n ≤ p) = false := by simp; omega
  have e3 : decide (d < -1048576) = false := by simp; omega
  have e4 : decide (1048576 < d) = false := by simp; omega
  go_enter Try.func14, Try.ntmps14
  go_wp2_with fail
  refine H.out.mono ?_
  rintro e w1 ⟨rfl, rfl⟩
  go_wp2_with fail
  go_loopw [8, 32] (fun v a w' => ∃ j : Nat, j ≤ n ∧ a = .int .i64 j ∧ w'.ownsRow w.heap.size 3 1 v j (cellsOf (added t p d) j) ∧ Below w.heap.size w w') (fun _ a _ => n - (intOf a).toNat)
  case atStart => exact ⟨0, Nat.zero_le _, rfl, World.ownsRow_nil _ _ _ _, Below.refl _ _⟩
  case round =>
    obtain ⟨j, hj, rfl, hown, hbl⟩ := hrel
    obtain ⟨A3, c3, rfl, hc3, _, hl3, hn3, hw3⟩ := own_slice hown
    by_cases hlt : j < n
    · obtain ⟨b, o, x, rfl, hb, hx, hc⟩ := (HL.out.on hbl).at_ (k := j) (by rw [HN.out]; exact hlt)
      obtain ⟨hx1, hx2⟩ := HXW.out j hlt
      have hxe := HG.out j x hx
      rw [hxe] at hx1 hx2
      have HK := Lib.hid (fun W => HFr.out j (by omega) W)
      have HX := Lib.hid (cellsOf_succ (added t p d) j)
      have hsz := hbl.size
      have HOwn := Lib.hid hown
      clear hx hown hl3 hn3 hw3
      by_cases hcov : Cov p j
      · have hy : added t p d j = x + d := by unfold added; rw [if_pos hcov, hxe]
        rw [hy] at HX
        have c1 : frm j ≤ p := hcov.1
        have c2 : p ≤ j := hcov.2
        clear hcov hy hxe
        generalize frm j = q at *
        go_wp2_with (first
          | (go_at_call 27; refine (HK.out _).mono ?_; rintro e w' ⟨rfl, rfl⟩)
          | (at_builtin; go_loud (refine append_one _ rfl (.tmp 49) (.tmp 51) 22 rfl w.heap.size 3 (.int .i64 0) 8 Try.underlying22 fint_info rfl (.slice A3 j c3) j _ rfl (HOwn.out.alloc _) wr.heap.size 1 (.int .i64 (x + d)) rfl (by simp) rfl (by simp only [maxLen]; omega) (by omega) (by simp; omega) ?_)))
        intro v1 w2 hown1 hg1
        go_wp2_with fail
        go_roundw
        case rel => exact ⟨j + 1, by omega, by go_num, by rw [HX.out]; exact hown1, (hbl.alloc hsz _).grown hg1 (by simp; omega) (fun q hq => (HOwn.out.lt q hq).1)⟩
        case measure => simp [intOf]; omega
      · have hy : added t p d j = x := by unfold added; rw [if_neg hcov, hxe]; omega
        rw [hy] at HX
        have c1 : frm j ≤ p → j < p := fun h => by unfold Cov at hcov; omega
        clear hcov hy hxe
        generalize frm j = q at *
        by_cases c2 : q ≤ p
        · have c3' := c1 c2
          clear c1
          go_wp2_with (first
            | (go_at_call 27; refine (HK.out _).mono ?_; rintro e w' ⟨rfl, rfl⟩)
            | (at_builtin; go_loud (refine append_one _ rfl (.tmp 49) (.tmp 51) 22 rfl w.heap.size 3 (.int .i64 0) 8 Try.underlying22 fint_info rfl (.slice A3 j c3) j _ rfl (HOwn.out.alloc _) wr.heap.size 1 (.int .i64 x) rfl (by simp) rfl (by simp only [maxLen]; omega) (by omega) (by simp; omega) ?_)))
          intro v1 w2 hown1 hg1
          go_wp2_with fail
          go_roundw
          case rel => exact ⟨j + 1, by omega, by go_num, by rw [HX.out]; exact hown1, (hbl.alloc hsz _).grown hg1 (by simp; omega) (fun q hq => (HOwn.out.lt q hq).1)⟩
          case measure => simp [intOf]; omega
        · clear c1
          go_wp2_with (first
            | (go_at_call 27; refine (HK.out _).mono ?_; rintro e w' ⟨rfl, rfl⟩)
            | (at_builtin; go_loud (refine append_one _ rfl (.tmp 49) (.tmp 51) 22 rfl w.heap.size 3 (.int .i64 0) 8 Try.underlying22 fint_info rfl (.slice A3 j c3) j _ rfl (HOwn.out.alloc _) wr.heap.size 1 (.int .i64 x) rfl (by simp) rfl (by simp only [maxLen]; omega) (by omega) (by simp; omega) ?_)))
          intro v1 w2 hown1 hg1
          go_wp2_with fail
          go_roundw
          case rel => exact ⟨j + 1, by omega, by go_num, by rw [HX.out]; exact hown1, (hbl.alloc hsz _).grown hg1 (by simp; omega) (fun q hq => (HOwn.out.lt q hq).1)⟩
          case measure => simp [intOf]; omega
    · obtain rfl : n = j := by omega
      have HL3 := Lib.hid hl3
      have HN3 := Lib.hid hn3
      have HW3 := Lib.hid hw3
      clear hown hl3 hn3 hw3
      by_cases hV : Valid (vals (added t p d) n)
      · rw [decide_eq_true hV] at HV
        go_wp2_with fail
        refine (HV.out A3 c3 _ HL3.out).mono ?_
        rintro e w4 ⟨rfl, rfl⟩
        go_wp2_with fail
        go_ret2
        refine .inl ⟨hV, ?_⟩
        exact ⟨A3, c3, rfl, HL3.out, HN3.out, HW3.out, hbl⟩
      · rw [decide_eq_false hV] at HV
        go_wp2_with fail
        refine (HV.out A3 c3 _ HL3.out).mono ?_
        rintro e w4 ⟨rfl, rfl⟩
        go_wp2_with fail
        go_ret2
        refine .inr ⟨hV, ?_⟩
        exact ⟨rfl, hbl⟩
end Go.Proofs.Ytegcpfopdaoebaa
