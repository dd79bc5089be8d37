/-
  What fen.Make, fen.Add and fen.Sum return: contracts, walked over the translated text. No condition but what each theorem names.
-/
import Derived.Test.YtegcpfopdaoebaaFenMk
namespace Go.Proofs.Ytegcpfopdaoebaa
open Go.RowKit Words

theorem fmk_size (A : Option Addr) (n c : Nat) (w : World) (h : 300 < n) (hn : n ≤ 17592186044416) :
    Calls Try.prog 10 #[.slice A n c] w (NoT w 1) := by
  go_enter Try.func10, Try.ntmps10
  go_wp2_with fail
  go_ret2
  exact ⟨rfl, Below.refl _ _⟩
theorem fmk_range (A : Option Addr) (l : List Int) (c : Nat) (w : World) (hn : l.length ≤ 300) (hx : ¬ Win 1048576 l) (hL : Lies w w.heap.size A (l.map (.int .i64))) :
    Calls Try.prog 10 #[.slice A l.length c] w (NoT w 2) := by
  have H := Lib.hid (allWithin_any A l c 1048576 w (by omega) (by decide) (by decide) hL)
  rw [decide_eq_false hx] at H
  clear hx hL
  generalize l.length = n at *
  go_enter Try.func10, Try.ntmps10
  go_wp2_with fail
  refine H.out.mono ?_
  rintro e w1 ⟨rfl, hb⟩
  go_wp2_with fail
  go_ret2
  exact ⟨rfl, hb⟩

set_option maxHeartbeats 1000000 in
/-- fen.Make. -/
theorem fmk_any (A : Option Addr) (l : List Int) (c : Nat) (w : World) (hn : l.length ≤ 300) (hx : Win 1048576 l) (hnone : A = none → c = 0) (hL : Lies w w.heap.size A (l.map (.int .i64))) :
    Calls Try.prog 10 #[.slice A l.length c] w (GivesT w (tr (at0 l)) l.length) := by
  have H := Lib.hid (allWithin_any A l c 1048576 w (by omega) (by decide) (by decide) hL)
  rw [decide_eq_true hx] at H
  have HC := Lib.hid (fun W hL => clone_any A l c W (by omega) hnone hL)
  have HL := Lib.hid hL
  have HB := Lib.hid (fun i j (hi : i ≤ l.length) (hj : j < l.length) => U_bound (at0 l) l.length hn 629145600 1048576 (by decide) (fun c hc => hx.at0 c hc) (fun c hc => tr_bound (at0 l) l.length hn 1048576 (by decide) (fun c hc => hx.at0 c hc) c hc) i j hi hj)
  have HA := Lib.hid (fun i (hi : i ≤ 1000000) W => around_any i W hi)
  unfold GivesF at HC
  clear hx hL hnone
  generalize at0 l = f at *
  generalize l.length = n at *
  go_enter Try.func10, Try.ntmps10
  go_wp2_with fail
  refine H.out.mono ?_
  rintro e w1 ⟨rfl, hb1⟩
  go_wp2_with fail
  refine (HC.out _ (HL.out.on hb1)).mono ?_
  rintro e w2 ⟨A2, c2, rfl, hown, hb2⟩
  have hb12 := chain hb1 hb2
  clear H HC HL
  go_wp2_with fail
  go_loopw [18] (fun a w' => ∃ i : Nat, i ≤ n ∧ a = .int .i64 i ∧ w'.ownsRow w1.heap.size 3 1 (.slice A2 n c2) n (cellsOf (U f i) n) ∧ Below w.heap.size w w') (fun a _ => n - (intOf a).toNat)
  case atStart => exact ⟨0, Nat.zero_le _, rfl, by rw [cellsOf_congr n fun j _ => U_zero f j]; exact hown, hb12⟩
  case round =>
    obtain ⟨i, hi, rfl, hr, hbl⟩ := hrel
    by_cases hlt : i < n
    · obtain ⟨g, rfl, hg⟩ := own_at hr (by omega)
      have hci := own_cell hr (cellsOf_get (U f i) n i hlt)
      have hfz := own_frozen hr
      have hsz := hb1.size
      have HAi := Lib.hid (fun W => HA.out i (by omega) W)
      have hgt := aro_gt i
      have hle := aro_le i
      obtain ⟨hb3, hb4⟩ := HB.out i i hi hlt
      by_cases hup : aro i < n
      · have hca := own_cell hr (cellsOf_get (U f i) n (aro i) hup)
        obtain ⟨hb5, hb6⟩ := HB.out i (aro i) hi hup
        have HP := Lib.hid (own_put hr (aro i) (.int .i64 (U f i (aro i) + U f i i)))
        rw [cellsOf_set, cellsOf_congr (g := U f (i + 1)) n fun j _ => by rw [U_step]; rfl] at HP
        clear hr
        generalize U f i (aro i) = x at *
        generalize U f i i = y at *
        generalize aro i = k at *
        go_wp2_with (go_at_call 26; refine (HAi.out _).mono ?_; rintro e w' ⟨rfl, rfl⟩)
        go_roundw
        case rel => exact ⟨i + 1, by omega, by go_num, HP.out, hbl.setCell (by show w.heap.size ≤ g; omega) _⟩
        case measure => simp [intOf]; omega
      · have HR := Lib.hid hr
        rw [cellsOf_congr (g := U f (i + 1)) n fun j hj => by rw [U_step, if_neg (by omega)]] at HR
        clear hr
        generalize U f i i = y at *
        generalize aro i = k at *
        go_wp2_with (go_at_call 26; refine (HAi.out _).mono ?_; rintro e w' ⟨rfl, rfl⟩)
        go_roundw
        case rel => exact ⟨i + 1, by omega, by go_num, HR.out, hbl⟩
        case measure => simp [intOf]; omega
    · obtain rfl : n = i := by omega
      have HR := Lib.hid hr
      rw [cellsOf_congr (g := tr f) n fun j hj => U_all f n j (by omega)] at HR
      have hsz := hb1.size
      clear hr
      go_wp2_with fail
      go_ret2
      exact own_gives (own_lower HR.out hsz) hbl

/-- What an increase by d at index p makes of a tree. -/
def added (t : Nat → Int) (p : Nat) (d : Int) (j : Nat) : Int := t j + if Cov p j then d else 0
theorem went_bound (t : Nat → Int) (p q : Nat) (d : Int) (j : Nat) (B : Int) (h : -B ≤ t j ∧ t j ≤ B) (hd : In 1048576 d) : -(B + 1048576) ≤ went t p q d j ∧ went t p q d j ≤ B + 1048576 := by
  unfold went
  have hd' : -1048576 ≤ d ∧ d ≤ 1048576 := hd
  by_cases e : Cov p j ∧ ¬ Cov q j
  · rw [if_pos e]; omega
  · rw [if_neg e]; omega

/-- fen.Add of a tree that is not valid. -/
theorem fadd_form (A : Option Addr) (l : List Int) (c : Nat) (i d : Int) (w : World) (hn : l.length ≤ 17592186044416) (hv : ¬ Valid l) (hL : Lies w w.heap.size A (l.map (.int .i64))) :
    Calls Try.prog 13 #[.slice A l.length c, .int .i64 i, .int .i64 d] w (NoT w 4) := by
  have H := Lib.hid (valid_any A l c w hn hL)
  rw [decide_eq_false hv] at H
  clear hv hL
  generalize l.length = n at *
  go_enter Try.func13, Try.ntmps13
  go_wp2_with fail
  refine H.out.mono ?_
  rintro e w1 ⟨rfl, hb⟩
  go_wp2_with fail
  go_ret2
  exact ⟨rfl, hb⟩

set_option maxHeartbeats 1000000 in
/-- fen.Add of an index or a number out of range. -/
theorem fadd_range (A : Option Addr) (l : List Int) (c : Nat) (i d : Int) (w : World) (hv : Valid l) (hr : i < 0 ∨ (l.length : Int) ≤ i ∨ ¬ In 1048576 d) (hL : Lies w w.heap.size A (l.map (.int .i64))) :
    Calls Try.prog 13 #[.slice A l.length c, .int .i64 i, .int .i64 d] w (NoT w 2) := by
  have hn := hv.1
  have H := Lib.hid (valid_any A l c w (by omega) hL)
  rw [decide_eq_true hv] at H
  have HW := Lib.hid (fun W => within_any d 1048576 W (by decide) (by decide))
  clear hv hL
  generalize l.length = n at *
  by_cases h0 : i < 0
  · go_enter Try.func13, Try.ntmps13
    go_wp2_with fail
    refine H.out.mono ?_
    rintro e w1 ⟨rfl, hb⟩
    go_wp2_with fail
    go_ret2
    exact ⟨rfl, hb⟩
  · by_cases h1 : (n : Int) ≤ i
    · go_enter Try.func13, Try.ntmps13
      go_wp2_with fail
      refine H.out.mono ?_
      rintro e w1 ⟨rfl, hb⟩
      go_wp2_with fail
      go_ret2
      exact ⟨rfl, hb⟩
    · have h2 : ¬ In 1048576 d := by rcases hr with h | h | h; exact absurd h h0; exact absurd h h1; exact h
      rw [decide_eq_false h2] at HW
      clear hr h2
      obtain ⟨k, rfl⟩ := Int.eq_ofNat_of_zero_le (a := i) (by omega)
      have h3 : k < n := by omega
      clear h0 h1
      go_enter Try.func13, Try.ntmps13
      go_wp2_with fail
      refine H.out.mono ?_
      rintro e w1 ⟨rfl, hb⟩
      go_wp2_with fail
      refine (HW.out _).mono ?_
      rintro e w2 ⟨rfl, rfl⟩
      go_wp2_with fail
      go_ret2
      exact ⟨rfl, hb⟩

set_option maxHeartbeats 2000000 in
/-- fen.Add. -/
theorem fadd_both (A : Option Addr) (l : List Int) (c p : Nat) (d : Int) (w : World) (hv : Valid l) (hp : p < l.length) (hd : In 1048576 d) (hnone : A = none → c = 0) (hL : Lies w w.heap.size A (l.map (.int .i64))) :
    Calls Try.prog 13 #[.slice A l.length c, .int .i64 p, .int .i64 d] w (fun e w' => (Valid (vals (added (at0 l) p d) l.length) ∧ GivesT w (added (at0 l) p d) l.length e w') ∨ (¬ Valid (vals (added (at0 l) p d) l.length) ∧ NoT w 1 e w')) := by
  have hn := hv.1
  have H := Lib.hid (valid_any A l c w (by omega) hL)
  rw [decide_eq_true hv] at H
  have HW := Lib.hid (fun W => within_any d 1048576 W (by decide) (by decide))
  rw [decide_eq_true hd] at HW
  have HC := Lib.hid (fun W hL => clone_any A l c W (by omega) hnone hL)
  have HL := Lib.hid hL
  have HB := Lib.hid (fun q j (hj : j < l.length) => went_bound (at0 l) p q d j _ (hv.2.at0 j hj) hd)
  have HA := Lib.hid (fun i (hi : i ≤ 1000000) W => around_any i W hi)
  have HV := Lib.hid (fun A c W hW => valid_any A (vals (added (at0 l) p d) l.length) c W (by rw [vals_length]; omega) hW)
  rw [vals_length] at HV
  have hd1 : -1048576 ≤ d := hd.1
  have hd2 : d ≤ 1048576 := hd.2
  unfold GivesF at HC
  clear hv hL hnone hd
  generalize at0 l = t at *
  generalize l.length = n at *
  go_enter Try.func13, Try.ntmps13
  go_wp2_with fail
  refine H.out.mono ?_
  rintro e w1 ⟨rfl, hb1⟩
  go_wp2_with fail
  refine (HW.out _).mono ?_
  rintro e w1 ⟨rfl, rfl⟩
  go_wp2_with fail
  refine (HC.out _ (HL.out.on hb1)).mono ?_
  rintro e w2 ⟨A2, c2, rfl, hown, hb2⟩
  have hb12 := chain hb1 hb2
  clear H HC HL HW
  go_wp2_with fail
  go_loopw [1] (fun a w' => ∃ q : Nat, Cov p q ∧ q ≤ 601 ∧ a = .int .i64 q ∧ w'.ownsRow w1.heap.size 3 1 (.slice A2 n c2) n (cellsOf (went t p q d) n) ∧ Below w.heap.size w w') (fun a _ => n - (intOf a).toNat)
  case atStart => exact ⟨p, cov_self p, by omega, rfl, by rw [cellsOf_congr n fun j _ => went_start t p d j]; exact hown, hb12⟩
  case round =>
    obtain ⟨q, hcov, hq, rfl, hr, hbl⟩ := hrel
    by_cases hlt : q < n
    · obtain ⟨g, rfl, hg⟩ := own_at hr (by omega)
      have hci := own_cell hr (cellsOf_get (went t p q d) n q hlt)
      have hfz := own_frozen hr
      have hsz := hb1.size
      have HAi := Lib.hid (fun W => HA.out q (by omega) W)
      have hgt := aro_gt q
      have hle := aro_le q
      obtain ⟨hb3, hb4⟩ := HB.out q q hlt
      have HP := Lib.hid (own_put hr q (.int .i64 (went t p q d q + d)))
      rw [cellsOf_set, cellsOf_congr (g := went t p (aro q) d) n fun j _ => by rw [went_step t p q d hcov]; rfl] at HP
      have HCv := Lib.hid (cov_up p q hcov)
      clear hr
      generalize went t p q d q = x at *
      generalize aro q = k at *
      go_wp2_with (go_at_call 26; refine (HAi.out _).mono ?_; rintro e w' ⟨rfl, rfl⟩)
      go_roundw
      case rel => exact ⟨k, HCv.out, by omega, rfl, HP.out, hbl.setCell (by show w.heap.size ≤ g; omega) _⟩
      case measure => simp [intOf]; omega
    · have HR := Lib.hid hr
      rw [cellsOf_congr (g := added t p d) n fun j hj => went_end t p q n d (by omega) j hj] at HR
      obtain ⟨A3, c3, e3, _, _, hl3, hn3, hw3⟩ := own_slice HR.out
      injection e3 with e4 _ e5
      subst e4 e5
      have HW3 := Lib.hid (hw3.mono hb1.size)
      have HL3 := Lib.hid hl3
      have HN3 := Lib.hid hn3
      clear hr HR hl3 hn3 hw3
      by_cases hV : Valid (vals (added t p d) n)
      · rw [decide_eq_true hV] at HV
        go_wp2_with fail
        refine (HV.out A2 c2 _ HL3.out).mono ?_
        rintro e w4 ⟨rfl, hb4⟩
        go_wp2_with fail
        go_ret2
        refine .inl ⟨hV, ?_⟩
        exact ⟨A2, c2, rfl, HL3.out.on hb4, HN3.out, HW3.out, chain hbl hb4⟩
      · rw [decide_eq_false hV] at HV
        go_wp2_with fail
        refine (HV.out A2 c2 _ HL3.out).mono ?_
        rintro e w4 ⟨rfl, hb4⟩
        go_wp2_with fail
        go_ret2
        refine .inr ⟨hV, ?_⟩
        exact ⟨rfl, chain hbl hb4⟩

/-- A number and OK; 0 and an error. -/
def Tells8 (w : World) (x r : Int) (e : Ending) (w' : World) : Prop := e = .returned (.tuple #[.int .i64 x, .int .i64 r]) ∧ Below w.heap.size w w'

theorem fsum_form (A : Option Addr) (l : List Int) (c : Nat) (i : Int) (w : World) (hn : l.length ≤ 17592186044416) (hv : ¬ Valid l) (hL : Lies w w.heap.size A (l.map (.int .i64))) :
    Calls Try.prog 15 #[.slice A l.length c, .int .i64 i] w (Tells8 w 0 4) := by
  have H := Lib.hid (valid_any A l c w hn hL)
  rw [decide_eq_false hv] at H
  clear hv hL
  generalize l.length = n at *
  go_enter Try.func15, Try.ntmps15
  go_wp2_with fail
  refine H.out.mono ?_
  rintro e w1 ⟨rfl, hb⟩
  go_wp2_with fail
  go_ret2
  exact ⟨rfl, hb⟩
theorem fsum_range (A : Option Addr) (l : List Int) (c : Nat) (i : Int) (w : World) (hv : Valid l) (hr : i < 0 ∨ (l.length : Int) < i) (hL : Lies w w.heap.size A (l.map (.int .i64))) :
    Calls Try.prog 15 #[.slice A l.length c, .int .i64 i] w (Tells8 w 0 2) := by
  have hn := hv.1
  have H := Lib.hid (valid_any A l c w (by omega) hL)
  rw [decide_eq_true hv] at H
  clear hv hL
  generalize l.length = n at *
  by_cases h0 : i < 0
  · go_enter Try.func15, Try.ntmps15
    go_wp2_with fail
    refine H.out.mono ?_
    rintro e w1 ⟨rfl, hb⟩
    go_wp2_with fail
    go_ret2
    exact ⟨rfl, hb⟩
  · have h1 : (n : Int) < i := by omega
    go_enter Try.func15, Try.ntmps15
    go_wp2_with fail
    refine H.out.mono ?_
    rintro e w1 ⟨rfl, hb⟩
    go_wp2_with fail
    go_ret2
    exact ⟨rfl, hb⟩

theorem num_300 (l : List Int) (hv : Valid l) (i : Nat) (hi : i ≤ l.length) : -100000000000000000 ≤ S (num (at0 l)) i ∧ S (num (at0 l)) i ≤ 100000000000000000 := by
  have h := S_300 (f := num (at0 l)) i 330953001644326 (by decide) (by have := hv.1; omega) fun c hc => by
    have := num_bound (at0 l) l.length hv.1 1099511627776 (by decide) (fun c hc => hv.2.at0 c hc) c (by omega)
    omega
  omega

set_option maxHeartbeats 1000000 in
/-- fen.Sum. -/
theorem fsum_any (A : Option Addr) (l : List Int) (c i : Nat) (w : World) (hv : Valid l) (hi : i ≤ l.length) (hL : Lies w w.heap.size A (l.map (.int .i64))) :
    Calls Try.prog 15 #[.slice A l.length c, .int .i64 i] w (Tells8 w (S (num (at0 l)) i) 0) := by
  have hn := hv.1
  have H := Lib.hid (valid_any A l c w (by omega) hL)
  rw [decide_eq_true hv] at H
  have HL := Lib.hid hL
  have HB := Lib.hid (fun i h => num_300 l hv i h)
  have HX := Lib.hid (fun j h => hv.2.at0 j h)
  have HSt := Lib.hid (fun i (hi : i ≤ 1000000) W => start_any i W hi)
  have HS := Lib.hid (S_tree (at0 l))
  have HG := Lib.hid (at0_get l)
  obtain ⟨r, hr⟩ : ∃ r, r = S (num (at0 l)) i := ⟨_, rfl⟩
  obtain ⟨hr1, hr2⟩ := num_300 l hv i hi
  rw [← hr] at hr1 hr2 ⊢
  have HR := Lib.hid hr
  clear hv hL hr
  generalize hk : l.length = n at *
  have HN := Lib.hid hk
  clear hk
  have hd0 : decide ((i : Int) < 0) = false := by simp
  have hd1 : decide (n < i) = false := by simp; omega
  go_enter Try.func15, Try.ntmps15
  go_wp2_with fail
  refine H.out.mono ?_
  rintro e w1 ⟨rfl, hb⟩
  have HL1 := Lib.hid (HL.out.on hb)
  clear H HL
  go_wp2_with fail
  go_loopw [1, 6] (fun a s w' => ∃ k d : Nat, k ≤ n ∧ a = .int .i64 k ∧ s = .int .i64 (r - S (num (at0 l)) k) ∧ w' = w1.drewN d) (fun a _ _ => (intOf a).toNat)
  case atStart => exact ⟨i, 0, hi, rfl, by rw [HR.out]; simp, rfl⟩
  case round =>
    obtain ⟨k, d, hk, rfl, rfl, rfl⟩ := hrel
    by_cases h0 : 0 < k
    · obtain ⟨k, rfl⟩ : ∃ j, k = j + 1 := ⟨k - 1, by omega⟩
      obtain ⟨b, o, x, rfl, hbb, hx, hc⟩ := HL1.out.at_ (k := k) (by rw [HN.out]; omega)
      have hxv := HG.out k x hx
      have hst := HS.out k
      obtain ⟨x1, x2⟩ := HX.out k (by omega)
      rw [hxv] at hst x1 x2
      have hfl := frm_le k
      obtain ⟨b1, b2⟩ := HB.out (k + 1) hk
      have HK := Lib.hid (fun W => HSt.out k (by omega) W)
      have HRel := Lib.hid (show r - S (num (at0 l)) (k + 1) + x = r - S (num (at0 l)) (frm k) by omega)
      have hkn : (k : Int) < (n : Int) := by omega
      have hkk : ((k + 1 : Nat) : Int) - 1 = (k : Int) := by omega
      clear hst hxv hx
      have hqk : frm k ≤ n := by omega
      generalize S (num (at0 l)) (k + 1) = s1 at *
      generalize frm k = q at *
      generalize hs : r - s1 = s at *
      have hs1 : -200000000000000000 ≤ s := by omega
      have hs2 : s ≤ 200000000000000000 := by omega
      clear hs
      go_wp2_with (go_at_call 31; refine (HK.out _).mono ?_; rintro e w' ⟨rfl, rfl⟩)
      go_roundw
      case rel => exact ⟨q, _, by omega, rfl, by rw [← HRel.out], by first | rfl | (simp only [World.drewN_drewN]; rfl)⟩
      case measure => simp [intOf]; omega
    · obtain rfl : k = 0 := by omega
      have hz : r - S (num (at0 l)) 0 = r := by simp [S]
      rw [hz]
      go_wp2_with fail
      go_ret2
      exact ⟨rfl, bdN hb _⟩
end Go.Proofs.Ytegcpfopdaoebaa
