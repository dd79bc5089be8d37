/-
  What perm.orders, perm.Number and the document's PermNumber return: contracts, walked over the translated text. No condition but what each theorem names.
-/
import Derived.Test.YtehmngecpipebaaPermSw
namespace Go.Proofs.Ytehmngecpipebaa
open Go.RowKit Words

theorem fact_top {n : Nat} (h : n ≤ 20) : fact n ≤ 2432902008176640000 := by
  have h1 := fact_mono h
  rw [fact_20] at h1
  exact h1

set_option maxHeartbeats 1000000 in
/-- perm.orders. -/
theorem orders_any (n : Nat) (w : World) (hn : n ≤ 20) :
    Calls Try.prog 50 #[.int .i64 n] w fun e w' => e = .returned (.int .i64 (fact n : Nat)) ∧ w = w' := by
  have HS := Lib.hid (fun k => show fact (k + 1) = (k + 1) * fact k from rfl)
  have HT := Lib.hid (fun k (h : k ≤ 20) => fact_top h)
  have H1 := Lib.hid (show fact 1 = 1 from rfl)
  have H0 := Lib.hid (show n = 0 → fact n = 1 from fun e => by rw [e]; rfl)
  go_enter Try.func50, Try.ntmps50
  go_wp2_with fail
  go_loop [3, 4] (fun v u => ∃ k : Nat, 1 ≤ k ∧ k ≤ n + 1 ∧ (k = 1 ∨ k ≤ n) ∧ u = .int .i64 ((k + 1 : Nat) : Int) ∧ v = .int .i64 (fact k : Nat)) (fun _ u => n + 1 - (intOf u).toNat)
  case atStart => exact ⟨1, Nat.le_refl _, by omega, .inl rfl, rfl, by rw [H1.out]; rfl⟩
  case round =>
    obtain ⟨k, h1, hk, hd, rfl, rfl⟩ := hrel
    by_cases hlt : k + 1 ≤ n
    · have hs := HS.out k
      have ht := HT.out (k + 1) (by omega)
      generalize hf : fact k = f at *
      generalize hf2 : fact (k + 1) = g at *
      have HF2 := Lib.hid hf2
      clear hf hf2
      have hmul : (f : Int) * ((k + 1 : Nat) : Int) = (g : Int) := by rw [hs, Nat.mul_comm]; simp
      generalize hkk : k + 1 = kk at *
      have hk1 : 1 ≤ kk := by omega
      clear hs hkk
      go_wp2_with fail
      go_round
      case rel => exact ⟨kk, hk1, by omega, .inr (by omega), by go_num, by rw [HF2.out]⟩
      case measure => simp [intOf]; omega
    · have HF : Hid (fact k = fact n) := by
        rcases hd with h | h
        · subst h
          by_cases e : n = 0
          · rw [H1.out, H0.out e]
            exact rfl
          · rw [show n = 1 by omega]
            exact rfl
        · rw [show k = n by omega]
          exact rfl
      rw [HF.out]
      generalize hkk : k + 1 = kk at *
      clear hkk hd
      go_wp2_with fail
      go_ret
      exact ⟨rfl, rfl⟩

set_option maxHeartbeats 1000000 in
/-- The document's orders. -/
theorem rorders_any : ∀ (n : Nat) (w : World), n ≤ 20 →
    Calls Try.prog 51 #[.int .i64 n] w fun e w' => e = .returned (.int .i64 (fact n : Nat)) ∧ w = w' := by
  intro n
  induction n with
  | zero =>
    intro w _
    go_enter Try.func51, Try.ntmps51
    go_wp2_with fail
    go_ret
    exact ⟨rfl, rfl⟩
  | succ n ih =>
    intro w hn
    have HI := Lib.hid (fun w => ih w (by omega))
    have ht := fact_top hn
    have hs : fact (n + 1) = (n + 1) * fact n := rfl
    generalize fact (n + 1) = g at *
    generalize fact n = f at *
    have hmul : ((n + 1 : Nat) : Int) * (f : Int) = (g : Int) := by rw [hs]; simp
    have hsub : ((n + 1 : Nat) : Int) - 1 = (n : Int) := by omega
    have hne : (((n + 1 : Nat) : Int) == 0) = false := by simp; omega
    have hz : 0 < n + 1 := by omega
    generalize n + 1 = k at *
    clear hs ih
    go_enter Try.func51, Try.ntmps51
    go_wp2_with fail
    refine (HI.out _).mono ?_
    rintro e w' ⟨rfl, rfl⟩
    go_wp2_with fail
    go_ret
    exact ⟨rfl, rfl⟩

theorem numL_top {p : List Nat} (h : p.length ≤ 20) : numL p ≤ 2432902008176640000 := by
  have h1 := numL_lt p
  have h2 := fact_top h
  omega
theorem fact_top2 {n k : Nat} (h : n ≤ 20) (hk : k ≤ n) : fact k ≤ 2432902008176640000 := fact_top (Nat.le_trans hk h)

set_option maxHeartbeats 1000000 in
/-- perm.Number of what is none. -/
theorem number_err (A : Option Addr) (n c : Nat) (r : Int) (w : World) (hr : r ≠ 0) (h : Calls Try.prog 18 #[.slice A n c] w (Says w r)) :
    Calls Try.prog 30 #[.slice A n c] w (TellsN w 0 r) := by
  have H := Lib.hid h
  have hne : (r != 0) = true := by simpa using hr
  clear h hr
  go_enter Try.func30, Try.ntmps30
  go_wp2_with fail
  refine H.out.mono ?_
  rintro e w1 ⟨rfl, hb1⟩
  go_wp2_with fail
  go_ret2
  exact ⟨rfl, hb1⟩

/-- .. of too many. -/
theorem number_range (A : Option Addr) (p : List Nat) (c : Nat) (w : World) (hp : PermL p) (hn : p.length ≤ 300) (h20 : 20 < p.length) (hL : Lies w w.heap.size A (natC p)) :
    Calls Try.prog 30 #[.slice A p.length c] w (TellsN w 0 2) := by
  have HC := Lib.hid (check_ok A p c w hp hn hL)
  clear hp hL
  generalize p.length = n at *
  go_enter Try.func30, Try.ntmps30
  go_wp2_with fail
  refine HC.out.mono ?_
  rintro e w1 ⟨rfl, hb1⟩
  go_wp2_with fail
  go_ret2
  exact ⟨rfl, hb1⟩

set_option maxHeartbeats 2000000 in
/-- perm.Number. -/
theorem number_ok (A : Option Addr) (p : List Nat) (c : Nat) (w : World) (hp : PermL p) (hn : p.length ≤ 20) (hnc : p.length ≤ c) (hnone : A = none → c = 0) (hL : Lies w w.heap.size A (natC p)) :
    Calls Try.prog 30 #[.slice A p.length c] w (TellsN w (numL p : Nat) 0) := by
  have HL := Lib.hid hL
  have HC := Lib.hid (check_ok A p c w hp (by omega) hL)
  have HBh := Lib.hid (fun i W (hi : i < p.length) hW => behind_any11 A p c i W (by omega) hi hnc hnone hW)
  have HD := Lib.hid (fun i (hi : i < p.length) => numL_drop hi)
  have HE := Lib.hid (show numL (p.drop p.length) = 0 by rw [List.drop_length]; rfl)
  have HZ := Lib.hid (show numL (p.drop 0) = numL p by rw [List.drop_zero])
  have HCl := Lib.hid (fun i => show cnt (st p i) (p.drop (i + 1)) ≤ p.length from Nat.le_trans (cnt_le _ _) (by rw [List.length_drop]; omega))
  have hsm := numL_top hn
  obtain ⟨n, hk⟩ : ∃ n, p.length = n := ⟨_, rfl⟩
  rw [hk] at hn hnc HC ⊢
  have HN := Lib.hid hk
  rw [HN.out] at HBh HD HE HCl
  clear hk hL hp hnone
  generalize numL p = S at *
  go_enter Try.func30, Try.ntmps30
  go_wp2_with fail
  refine HC.out.mono ?_
  rintro e w1 ⟨rfl, hb1⟩
  have HL1 := Lib.hid (HL.out.on hb1)
  have HB1 := Lib.hid hb1
  clear hb1
  go_wp2_with fail
  go_loop [5, 17] (fun v u => ∃ i m : Nat, i ≤ n ∧ u = .int .i64 i ∧ v = .int .i64 m ∧ m + numL (p.drop i) = S) (fun _ u => n - (intOf u).toNat)
  case atStart => exact ⟨0, 0, Nat.zero_le _, rfl, rfl, by rw [HZ.out]; omega⟩
  case round =>
    obtain ⟨i, m, hi, rfl, rfl, hm⟩ := hrel
    have hms : m ≤ 2432902008176640000 := by omega
    have HM := Lib.hid hm
    clear hm
    by_cases hlt : i < n
    · have HB := Lib.hid (HBh.out i · hlt)
      have hd := HD.out i hlt
      have hm := HM.out
      have hcl := HCl.out i
      have hfk := fact_top2 (k := n - 1 - i) hn (by omega)
      have HO := Lib.hid (fun W => orders_any (n - 1 - i) W (by omega))
      generalize cnt (st p i) (p.drop (i + 1)) = z at *
      generalize fact (n - 1 - i) = f at *
      have hmul : (z : Int) * (f : Int) = ((z * f : Nat) : Int) := by simp
      generalize z * f = y at *
      have hy : m + y ≤ 2432902008176640000 := by omega
      have HM2 := Lib.hid (show m + y + numL (p.drop (i + 1)) = S by omega)
      obtain ⟨k, hk⟩ : ∃ k, n - 1 - i = k := ⟨_, rfl⟩
      rw [hk] at HO
      have hk2 : (n : Int) - 1 - (i : Int) = (k : Int) := by omega
      have hk3 : k ≤ 20 := by omega
      clear hd hm hk
      go_wp2_with fail
      refine (HB.out _ HL1.out).mono ?_
      rintro e w' ⟨rfl, rfl⟩
      go_wp2_with fail
      refine (HO.out _).mono ?_
      rintro e w' ⟨rfl, rfl⟩
      go_wp2_with fail
      go_round
      case rel => exact ⟨i + 1, m + y, by omega, by go_num, by go_num, HM2.out⟩
      case measure => simp [intOf]; omega
    · obtain rfl : n = i := by omega
      have hm := HM.out
      rw [HE.out] at hm
      obtain rfl : S = m := by omega
      clear hm
      go_wp2_with fail
      go_ret2
      exact ⟨rfl, HB1.out⟩

set_option maxHeartbeats 1000000 in
/-- The document's PermNumber of what is none. -/
theorem rnumber_err (A : Option Addr) (n c : Nat) (r : Int) (w : World) (hr : r ≠ 0) (h : Calls Try.prog 19 #[.slice A n c] w (Says w r)) :
    Calls Try.prog 31 #[.slice A n c] w (TellsN w 0 r) := by
  have H := Lib.hid h
  have hne : (r != 0) = true := by simpa using hr
  clear h hr
  go_enter Try.func31, Try.ntmps31
  go_wp2_with fail
  refine H.out.mono ?_
  rintro e w1 ⟨rfl, hb1⟩
  go_wp2_with fail
  go_ret2
  exact ⟨rfl, hb1⟩

/-- .. of too many. -/
theorem rnumber_range (A : Option Addr) (p : List Nat) (c : Nat) (w : World) (hp : PermL p) (hn : p.length ≤ 300) (h20 : 20 < p.length) (hnone : A = none → c = 0) (hL : Lies w w.heap.size A (natC p)) :
    Calls Try.prog 31 #[.slice A p.length c] w (TellsN w 0 2) := by
  have HC := Lib.hid (rfault_ok11 A p c w hp hn hnone hL)
  clear hp hL hnone
  generalize p.length = n at *
  go_enter Try.func31, Try.ntmps31
  go_wp2_with fail
  refine HC.out.mono ?_
  rintro e w1 ⟨rfl, hb1⟩
  go_wp2_with fail
  go_ret2
  exact ⟨rfl, hb1⟩

/-- A slice up to a place. -/
theorem slice_high {P : Program} (t : TypeId) (ht : P.underlying t = some (.slice (P.elem t))) (hsz : ∀ W, (sizeOf (P.elem t)).run P W = .ok 1 W) (b o n c a : Nat) (h1 : a ≤ c) (hc : 0 < c) (W : World) :
    (Instr.sliceAt t (.slice (some ⟨b, o, none⟩) n c) none (some (.int .i64 (a : Int))) none).run P W = .ok (.slice (some ⟨b, o, none⟩) a c) W := by
  rw [run_sliceAt_slice W t _ _ _ _ ht, run_slice_h W t _ n c ht .i64 (a : Int) (by omega) (by omega), hsz]
  simp [Result.andThen, sliced, show ¬ c = 0 by omega, Addr.add_lit]

/-- The sum while the document counts the numbers below x that are free. -/
def freeTo (p : List Nat) (i y : Nat) : Nat := (List.range y).countP (fun y => decide (y ∉ p.take i))
theorem freeTo_succ (p : List Nat) (i y : Nat) : freeTo p i (y + 1) = freeTo p i y + if y ∉ p.take i then 1 else 0 := by
  unfold freeTo
  rw [range_count_step]
  simp
theorem freeTo_mono (p : List Nat) (i : Nat) {y z : Nat} (h : y ≤ z) : freeTo p i y ≤ freeTo p i z := by
  induction z with
  | zero => have : y = 0 := by omega
            rw [this]; exact Nat.le_refl _
  | succ z ih =>
    by_cases e : y = z + 1
    · rw [e]; exact Nat.le_refl _
    · have := ih (by omega)
      rw [freeTo_succ]
      omega

set_option maxHeartbeats 2000000 in
/-- The document's PermNumber. -/
theorem rnumber_ok (A : Option Addr) (p : List Nat) (c : Nat) (w : World) (hp : PermL p) (hn : p.length ≤ 20) (hnc : p.length ≤ c) (hnone : A = none → c = 0) (hL : Lies w w.heap.size A (natC p)) :
    Calls Try.prog 31 #[.slice A p.length c] w (TellsN w (numL p : Nat) 0) := by
  have HL := Lib.hid hL
  have HC := Lib.hid (rfault_ok11 A p c w hp (by omega) hnone hL)
  have HD := Lib.hid (fun i (hi : i < p.length) => numL_drop hi)
  have HE := Lib.hid (show numL (p.drop p.length) = 0 by rw [List.drop_length]; rfl)
  have HZ := Lib.hid (show numL (p.drop 0) = numL p by rw [List.drop_zero])
  have HFc := Lib.hid (fun i (hi : i < p.length) => show freeTo p i (st p i) = cnt (st p i) (p.drop (i + 1)) from free_count hp hi)
  have HLt := Lib.hid (fun i (hi : i < p.length) => hp.st_lt hi)
  have HPl := Lib.hid (fun (b o i y : Nat) W (hi : i ≤ p.length) (hW : Lies W W.heap.size (some ⟨b, o, none⟩) (natC p)) => by
    have h := place_any (some ⟨b, o, none⟩) (p.take i) c y W (by rw [List.length_take]; omega) (by unfold natC; rw [List.map_take]; exact hW.take i)
    rwa [List.length_take, Nat.min_eq_left hi] at h)
  have hsm := numL_top hn
  obtain ⟨n, hk⟩ : ∃ n, p.length = n := ⟨_, rfl⟩
  rw [hk] at hn hnc HC ⊢
  have HN := Lib.hid hk
  rw [HN.out] at HD HE HFc HLt HPl
  clear hk hL hp hnone
  generalize numL p = S at *
  go_enter Try.func31, Try.ntmps31
  go_wp2_with fail
  refine HC.out.mono ?_
  rintro e w1 ⟨rfl, hb1⟩
  have HL1 := Lib.hid (HL.out.on hb1)
  have HB1 := Lib.hid hb1
  clear hb1
  go_wp2_with fail
  go_loop [5, 19] (fun v u => ∃ i m : Nat, i ≤ n ∧ u = .int .i64 i ∧ v = .int .i64 m ∧ m + numL (p.drop i) = S) (fun _ u => n - (intOf u).toNat)
  case atStart => exact ⟨0, 0, Nat.zero_le _, rfl, rfl, by rw [HZ.out]; omega⟩
  case round =>
    obtain ⟨i, m, hi, rfl, rfl, hm⟩ := hrel
    have hms : m ≤ 2432902008176640000 := by omega
    have HM := Lib.hid hm
    clear hm
    by_cases hlt : i < n
    · have hd := HD.out i hlt
      have hm := HM.out
      have hfc := HFc.out i hlt
      have hxn := HLt.out i hlt
      have HO := Lib.hid (fun W => rorders_any (n - 1 - i) W (by omega))
      obtain ⟨b, o, rfl, hb, hcx⟩ := nat_at HL1.out (k := i) (by rw [HN.out]; exact hlt)
      have hsa := fun W => slice_high (P := Try.prog) 22 (by kernel_rfl) (fun W => by kernel_rfl) b o n c i (by omega) (by omega) W
      have HP := Lib.hid (fun y W hW => HPl.out b o i y W (by omega) hW)
      rw [← hfc] at hd
      generalize st p i = x at *
      have hfree := freeTo_mono p i (y := 0) (z := x) (Nat.zero_le _)
      -- the sum, by the number of rounds
      obtain ⟨f, hf⟩ : ∃ f, fact (n - 1 - i) = f := ⟨_, rfl⟩
      rw [hf] at hd HO
      obtain ⟨g, hg⟩ : ∃ g : Nat → Nat, ∀ y, g y = m + freeTo p i y * f := ⟨_, fun _ => rfl⟩
      have HG0 := Lib.hid (show g 0 = m by rw [hg]; simp [freeTo])
      have HGx := Lib.hid (show g x + numL (p.drop (i + 1)) = S by rw [hg]; omega)
      have HGl := Lib.hid (fun y (hy : y ≤ x) => show g y ≤ 2432902008176640000 by
        have h1 : freeTo p i y * f ≤ freeTo p i x * f := Nat.mul_le_mul_right _ (freeTo_mono p i hy)
        have h2 := hg x
        have h3 := hg y
        have h4 := HGx.out
        omega)
      have HGs := Lib.hid (fun y => show g (y + 1) = g y + if y ∉ p.take i then f else 0 by
        rw [hg, hg, freeTo_succ, Nat.add_mul]
        by_cases h : y ∉ p.take i
        · rw [if_pos h, if_pos h]; omega
        · rw [if_neg h, if_neg h]; omega)
      obtain ⟨k, hk⟩ : ∃ k, n - 1 - i = k := ⟨_, rfl⟩
      rw [hk] at HO
      have hk2 : (n : Int) - 1 - (i : Int) = (k : Int) := by omega
      have hk3 : k ≤ 20 := by omega
      clear hd hm hk hfc hfree hf hg
      go_wp2_with fail
      go_loop [5, 8] (fun v u => ∃ y : Nat, y ≤ x ∧ u = .int .i64 y ∧ v = .int .i64 (g y : Nat)) (fun _ u => x - (intOf u).toNat)
      case atStart => exact ⟨0, Nat.zero_le _, rfl, by rw [HG0.out]⟩
      case round =>
        obtain ⟨y, hy, rfl, rfl⟩ := hrel
        by_cases hyx : y < x
        · have hg1 := HGl.out y (by omega)
          have hg2 := HGl.out (y + 1) (by omega)
          have hgs := HGs.out y
          have HPy := Lib.hid (HP.out y)
          generalize g y = v at *
          generalize hv2 : g (y + 1) = v2 at *
          have HV2 := Lib.hid hv2
          clear hv2
          by_cases hm : y ∉ p.take i
          · rw [if_pos hm] at hgs
            rw [plc_none hm] at HPy
            have hadd : (v : Int) + (f : Int) = (v2 : Int) := by omega
            have hf2 : f ≤ 2432902008176640000 := by omega
            clear hgs hm
            go_wp2_with fail
            refine (HPy.out _ HL1.out).mono ?_
            rintro e w' ⟨rfl, rfl⟩
            go_wp2_with fail
            refine (HO.out _).mono ?_
            rintro e w' ⟨rfl, rfl⟩
            go_wp2_with fail
            go_round
            case rel => exact ⟨y + 1, by omega, by go_num, by rw [HV2.out]⟩
            case measure => simp [intOf]; omega
          · rw [if_neg hm] at hgs
            have hge : 0 ≤ plc (p.take i) y ∧ plc (p.take i) y ≤ 1000000 := by
              have h1 := plc_mem (Classical.not_not.1 hm)
              have h2 := plc_bounds (p.take i) y
              have h3 := List.length_take_le i p
              omega
            generalize plc (p.take i) y = z at *
            have hz : decide (z < 0) = false := by simp; omega
            obtain rfl : v2 = v := by omega
            clear hgs hm
            go_wp2_with fail
            refine (HPy.out _ HL1.out).mono ?_
            rintro e w' ⟨rfl, rfl⟩
            go_wp2_with fail
            go_round
            case rel => exact ⟨y + 1, by omega, by go_num, by rw [HV2.out]⟩
            case measure => simp [intOf]; omega
        · obtain rfl : x = y := by omega
          have hg1 := HGl.out x (by omega)
          generalize g x = v at *
          go_wp2_with fail
          go_round
          case rel => exact ⟨i + 1, v, by omega, by go_num, rfl, HGx.out⟩
          case measure => simp [intOf]; omega
    · obtain rfl : n = i := by omega
      have hm := HM.out
      rw [HE.out] at hm
      obtain rfl : S = m := by omega
      clear hm
      go_wp2_with fail
      go_ret2
      exact ⟨rfl, HB1.out⟩
end Go.Proofs.Ytehmngecpipebaa
