/-
  What perm.lessBehind, perm.Swaps and the document's PermSwaps return: contracts, walked over the translated text. No condition but what each theorem names.
-/
import Derived.Test.YtehmngecpipebaaPermIn
import Derived.Test.YtehmngecpipebaaPermNo
import Derived.Deep.QuietTactic
import Derived.BigQuiet
namespace Go.Proofs.Ytehmngecpipebaa
open Go.RowKit Words

/-- A slice from a place on. -/
theorem slice_low {P : Program} (t : TypeId) (ht : P.underlying t = some (.slice (P.elem t))) (hsz : ∀ W, (sizeOf (P.elem t)).run P W = .ok 1 W) {w : World} {B : Nat} {A : Option Addr} {n c a : Nat} {xs : List Value} (h1 : a ≤ n) (hnc : n ≤ c) (hL : Lies w B A xs) (hn : xs.length = n) (hnone : A = none → c = 0) :
    ∃ A3, (∀ W, (Instr.sliceAt t (.slice A n c) (some (.int .i64 (a : Int))) none none).run P W = .ok (.slice A3 (n - a) (c - a)) W) ∧ Lies w B A3 (xs.drop a) ∧ (A3 = none → c - a = 0) := by
  refine ⟨if c = a then A else A.map (·.add (a * 1)), fun W => ?_, ?_, ?_⟩
  · rw [run_sliceAt_slice W t _ _ _ _ ht, run_slice_l W t A n c ht .i64 (a : Int) (by omega) (by omega), hsz]
    rfl
  · intro hne
    have hab : a < n := by
      rcases Nat.lt_or_ge a n with h | h
      · exact h
      · exact absurd (by rw [List.drop_of_length_le (by omega)]) hne
    obtain ⟨bk, o, e, hb, hc⟩ := hL (by intro e; subst e; simp at hn; omega)
    subst e
    rw [if_neg (by omega)]
    refine ⟨bk, o + a * 1, by rw [Option.map_some, Addr.add_lit], hb, fun j v hv => ?_⟩
    rw [List.getElem?_drop] at hv
    have := hc (a + j) v hv
    rwa [show o + a * 1 + j = o + (a + j) by omega]
  · intro e
    by_cases hca : c = a
    · omega
    · rw [if_neg hca] at e
      cases A with
      | none => have := hnone rfl; omega
      | some ad => cases e

/-- A number and an error. -/
def TellsN (w : World) (x r : Int) (e : Ending) (w' : World) : Prop := e = .returned (.tuple #[.int .i64 x, .int .i64 r]) ∧ Below w.heap.size w w'

theorem natC_drop (p : List Nat) (a : Nat) : (natC p).drop a = natC (p.drop a) := by unfold natC; rw [List.map_drop]

set_option maxHeartbeats 2000000 in
/-- perm.lessBehind. -/
theorem behind_any11 (A : Option Addr) (p : List Nat) (c i : Nat) (w : World) (hn : p.length ≤ 300) (hi : i < p.length) (hnc : p.length ≤ c) (hnone : A = none → c = 0) (hL : Lies w w.heap.size A (natC p)) :
    Calls Try.prog 49 #[.slice A p.length c, .int .i64 i] w fun e w' => e = .returned (.int .i64 (cnt (st p i) (p.drop (i + 1)) : Nat)) ∧ w = w' := by
  obtain ⟨A3, hsa, hl3, hnone3⟩ := slice_low (P := Try.prog) 22 (by kernel_rfl) (fun W => by kernel_rfl) (a := i + 1) hi hnc hL (natC_length p) hnone
  rw [natC_drop] at hl3
  have HL3 := Lib.hid hl3
  obtain ⟨b, o, rfl, hb, hcx⟩ := nat_at hL hi
  have HStep := Lib.hid (fun k (hk : k < (p.drop (i + 1)).length) => cnt_take_step (x := st p i) hk)
  have HLe := Lib.hid (fun k => cnt_le (st p i) ((p.drop (i + 1)).take k))
  have HTk := Lib.hid (fun k => List.length_take_le k (p.drop (i + 1)))
  have hdl : (p.drop (i + 1)).length = p.length - (i + 1) := List.length_drop
  clear hL hl3 hnone
  generalize p.drop (i + 1) = q at *
  generalize st p i = x at *
  generalize p.length = n at *
  obtain ⟨m, hm⟩ : ∃ m, n - (i + 1) = m := ⟨_, rfl⟩
  obtain ⟨c3, hc3⟩ : ∃ m, c - (i + 1) = m := ⟨_, rfl⟩
  rw [hm, hc3] at hsa
  rw [hm] at hdl
  have HD := Lib.hid hdl
  have hmn : m ≤ 300 := by omega
  have hin : i < n := hi
  rw [show ((i + 1 : Nat) : Int) = (i : Int) + 1 by omega] at hsa
  clear hdl hm hc3 hnone3 hi
  go_enter Try.func49, Try.ntmps49
  go_wp2_with fail
  go_loop [5, 13] (fun v u => ∃ k : Nat, k ≤ m ∧ u = .int .i64 k ∧ v = .int .i64 (cnt x (q.take k) : Nat)) (fun _ u => m - (intOf u).toNat)
  case atStart => exact ⟨0, Nat.zero_le _, rfl, by simp [cnt]⟩
  case round =>
    obtain ⟨k, hk, rfl, rfl⟩ := hrel
    have hle := HLe.out k
    have htk := HTk.out k
    by_cases hlt : k < m
    · have HS := Lib.hid (HStep.out k (by rw [HD.out]; exact hlt))
      obtain ⟨b3, o3, rfl, hb3, hc3⟩ := nat_at HL3.out (k := k) (by rw [HD.out]; exact hlt)
      generalize st q k = y at *
      generalize cnt x (q.take k) = z at *
      by_cases hyx : y < x
      · have HS2 := Lib.hid (show cnt x (q.take (k + 1)) = z + 1 by rw [HS.out, if_pos hyx])
        have hz : z ≤ 300 := by omega
        clear HS hle htk
        go_wp2_with fail
        go_round
        case rel => exact ⟨k + 1, by omega, by go_num, by rw [HS2.out]; go_num⟩
        case measure => simp [intOf]; omega
      · have HS2 := Lib.hid (show cnt x (q.take (k + 1)) = z by rw [HS.out, if_neg hyx]; rfl)
        have hz : z ≤ 300 := by omega
        clear HS hle htk
        go_wp2_with fail
        go_round
        case rel => exact ⟨k + 1, by omega, by go_num, by rw [HS2.out]⟩
        case measure => simp [intOf]; omega
    · obtain rfl : m = k := by omega
      have HT := Lib.hid (show q.take m = q from List.take_of_length_le (by rw [HD.out]; exact Nat.le_refl _))
      rw [HT.out]
      clear hle htk
      go_wp2_with fail
      go_ret
      exact ⟨rfl, rfl⟩

set_option maxHeartbeats 1000000 in
/-- perm.Swaps of what is none. -/
theorem swaps_err (A : Option Addr) (n c : Nat) (r : Int) (w : World) (hr : r ≠ 0) (h : Calls Try.prog 18 #[.slice A n c] w (Says w r)) :
    Calls Try.prog 28 #[.slice A n c] w (TellsN w 0 r) := by
  have H := Lib.hid h
  have hne : (r != 0) = true := by simpa using hr
  clear h hr
  go_enter Try.func28, Try.ntmps28
  go_wp2_with fail
  refine H.out.mono ?_
  rintro e w1 ⟨rfl, hb1⟩
  go_wp2_with fail
  go_ret2
  exact ⟨rfl, hb1⟩

theorem swp_small {p : List Nat} (hn : p.length ≤ 300) : swp p ≤ 90000 := by
  have h1 := swp_le p
  have h2 : p.length * p.length ≤ 300 * 300 := Nat.mul_le_mul hn hn
  omega

set_option maxHeartbeats 2000000 in
/-- perm.Swaps. -/
theorem swaps_ok (A : Option Addr) (p : List Nat) (c : Nat) (w : World) (hp : PermL p) (hn : p.length ≤ 300) (hnc : p.length ≤ c) (hnone : A = none → c = 0) (hL : Lies w w.heap.size A (natC p)) :
    Calls Try.prog 28 #[.slice A p.length c] w (TellsN w (swp p : Nat) 0) := by
  have HL := Lib.hid hL
  have HC := Lib.hid (check_ok A p c w hp hn hL)
  have HBh := Lib.hid (fun i W (hi : i < p.length) hW => behind_any11 A p c i W hn hi hnc hnone hW)
  have HD := Lib.hid (fun i (hi : i < p.length) => swp_drop hi)
  have HE := Lib.hid (show swp (p.drop p.length) = 0 by rw [List.drop_length]; rfl)
  have HZ := Lib.hid (show swp (p.drop 0) = swp p by rw [List.drop_zero])
  have hsm := swp_small hn
  obtain ⟨n, hk⟩ : ∃ n, p.length = n := ⟨_, rfl⟩
  rw [hk] at hn hnc HC ⊢
  have HN := Lib.hid hk
  rw [HN.out] at HBh HD HE
  clear hk hL hp hnone
  generalize swp p = S at *
  go_enter Try.func28, Try.ntmps28
  go_wp2_with fail
  refine HC.out.mono ?_
  rintro e w1 ⟨rfl, hb1⟩
  have HL1 := Lib.hid (HL.out.on hb1)
  have HB1 := Lib.hid hb1
  clear hb1
  go_wp2_with fail
  go_loop [5, 14] (fun v u => ∃ i m : Nat, i ≤ n ∧ u = .int .i64 i ∧ v = .int .i64 m ∧ m + swp (p.drop i) = S) (fun _ u => n - (intOf u).toNat)
  case atStart => exact ⟨0, 0, Nat.zero_le _, rfl, rfl, by rw [HZ.out]; omega⟩
  case round =>
    obtain ⟨i, m, hi, rfl, rfl, hm⟩ := hrel
    have hms : m ≤ 90000 := by omega
    have HM := Lib.hid hm
    clear hm
    by_cases hlt : i < n
    · have HB := Lib.hid (HBh.out i · hlt)
      have hd := HD.out i hlt
      have hm := HM.out
      generalize cnt (st p i) (p.drop (i + 1)) = z at *
      have hz : z ≤ 90000 := by omega
      have HM2 := Lib.hid (show m + z + swp (p.drop (i + 1)) = S by omega)
      clear hd hm
      go_wp2_with fail
      refine (HB.out _ HL1.out).mono ?_
      rintro e w' ⟨rfl, rfl⟩
      go_wp2_with fail
      go_round
      case rel => exact ⟨i + 1, m + z, by omega, by go_num, by go_num, HM2.out⟩
      case measure => simp [intOf]; omega
    · obtain rfl : n = i := by omega
      have hm := HM.out
      rw [HE.out] at hm
      obtain rfl : S = m := by omega
      clear hm
      go_wp2_with fail
      go_ret2
      exact ⟨rfl, HB1.out⟩

set_option maxHeartbeats 1000000 in
/-- The document's PermSwaps of what is none. -/
theorem rswaps_err (A : Option Addr) (n c : Nat) (r : Int) (w : World) (hr : r ≠ 0) (h : Calls Try.prog 19 #[.slice A n c] w (Says w r)) :
    Calls Try.prog 29 #[.slice A n c] w (TellsN w 0 r) := by
  have H := Lib.hid h
  have hne : (r != 0) = true := by simpa using hr
  clear h hr
  go_enter Try.func29, Try.ntmps29
  go_wp2_with fail
  refine H.out.mono ?_
  rintro e w1 ⟨rfl, hb1⟩
  go_wp2_with fail
  go_ret2
  exact ⟨rfl, hb1⟩

set_option maxHeartbeats 2000000 in
/-- The document's PermSwaps. -/
theorem rswaps_ok (A : Option Addr) (p : List Nat) (c : Nat) (w : World) (hp : PermL p) (hn : p.length ≤ 300) (hnone : A = none → c = 0) (hL : Lies w w.heap.size A (natC p)) :
    Calls Try.prog 29 #[.slice A p.length c] w (TellsN w (swp p : Nat) 0) := by
  have HL := Lib.hid hL
  have HC := Lib.hid (rfault_ok11 A p c w hp hn hnone hL)
  have HD := Lib.hid (fun i (hi : i < p.length) => swp_drop hi)
  have HE := Lib.hid (show swp (p.drop p.length) = 0 by rw [List.drop_length]; rfl)
  have HZ := Lib.hid (show swp (p.drop 0) = swp p by rw [List.drop_zero])
  have HMs := Lib.hid (fun (x i j : Nat) (h : i + j < p.length) => cnt_mid_step (x := x) h)
  have HMe := Lib.hid (fun (x i j : Nat) (h : p.length - i ≤ j) => show cnt x ((p.drop i).take j) = cnt x (p.drop i) by rw [List.take_of_length_le (by rw [List.length_drop]; exact h)])
  have HMl := Lib.hid (fun (x i j : Nat) => cnt_mid_le x p i j)
  have hsm := swp_small hn
  obtain ⟨n, hk⟩ : ∃ n, p.length = n := ⟨_, rfl⟩
  rw [hk] at hn HC ⊢
  have HN := Lib.hid hk
  rw [HN.out] at HD HE HMs HMe HMl
  clear hk hL hp hnone
  generalize swp p = S at *
  go_enter Try.func29, Try.ntmps29
  go_wp2_with fail
  refine HC.out.mono ?_
  rintro e w1 ⟨rfl, hb1⟩
  have HL1 := Lib.hid (HL.out.on hb1)
  have HB1 := Lib.hid hb1
  clear hb1
  go_wp2_with fail
  go_loopw [5, 15] (fun v u w' => ∃ i m d : Nat, i ≤ n ∧ u = .int .i64 i ∧ v = .int .i64 m ∧ m + swp (p.drop i) = S ∧ w' = w1.drewN d) (fun _ u _ => n - (intOf u).toNat)
  case atStart => exact ⟨0, 0, 0, Nat.zero_le _, rfl, rfl, by rw [HZ.out]; omega, rfl⟩
  case round =>
    obtain ⟨i, m, d, hi, rfl, rfl, hm, rfl⟩ := hrel
    have hms : m ≤ 90000 := by omega
    have HM := Lib.hid hm
    clear hm
    by_cases hlt : i < n
    · have hd := HD.out i hlt
      have hm := HM.out
      obtain ⟨b, o, rfl, hb, hcx⟩ := nat_at HL1.out (k := i) (by rw [HN.out]; exact hlt)
      generalize st p i = x at *
      have HEx := HMe.out x (i + 1)
      have HSx := HMs.out x (i + 1)
      have HLx := HMl.out x (i + 1)
      have HZx : cnt x ((p.drop (i + 1)).take 0) = 0 := by rw [List.take_zero]; rfl
      generalize hq : p.drop (i + 1) = q at *
      have HEx := Lib.hid HEx
      have HSx := Lib.hid HSx
      have HLx := Lib.hid HLx
      have HZx := Lib.hid HZx
      have HM2 := Lib.hid (show m + cnt x q + swp q = S by omega)
      have HQ := Lib.hid hq
      clear hd hm hq
      go_wp2_with fail
      go_loopw [5, 7] (fun v u w' => ∃ j e : Nat, i + 1 + j ≤ n ∧ u = .int .i64 ((i + 1 + j : Nat) : Int) ∧ v = .int .i64 ((m + cnt x (q.take j) : Nat) : Int) ∧ w' = w1.drewN e) (fun _ u _ => n - (intOf u).toNat)
      case atStart => exact ⟨0, _, by omega, by go_num, by rw [HZx.out]; go_num, rfl⟩
      case round =>
        obtain ⟨j, e, hj, rfl, rfl, rfl⟩ := hrel
        have hcl := HLx.out j
        by_cases hjn : i + 1 + j < n
        · obtain ⟨b2, o2, he2, hb2, hcy⟩ := nat_at HL1.out (k := i + 1 + j) (by rw [HN.out]; exact hjn)
          obtain ⟨rfl, rfl⟩ : b = b2 ∧ o = o2 := by
            have := Option.some.inj he2
            injection this with h1 h2
            exact ⟨h1, h2⟩
          have hs := HSx.out j hjn
          have hnx : cnt x (q.take (j + 1)) ≤ n := HLx.out (j + 1)
          have HNx := Lib.hid (show i + 1 + j + 1 = i + 1 + (j + 1) by omega)
          generalize i + 1 + j = k at *
          generalize st p k = y at *
          generalize cnt x (q.take j) = z at *
          generalize hz2 : cnt x (q.take (j + 1)) = z2 at *
          have HZ2 := Lib.hid hz2
          obtain ⟨u0, hu0⟩ : ∃ u0, m + z = u0 := ⟨_, rfl⟩
          rw [hu0]
          have hub : u0 ≤ 100000 := by omega
          clear hz2 he2
          by_cases hyx : y < x
          · rw [if_pos hyx] at hs
            have HS := Lib.hid (show u0 + 1 = m + z2 by omega)
            have hbx : decide (y < x) = true := by simpa using hyx
            clear hs hu0 hcl hnx
            go_wp2_with fail
            go_quiet (fail)
            go_wp2_with fail
            go_roundw
            case rel => exact ⟨j + 1, _, by rw [← HNx.out]; omega, by rw [← HNx.out]; go_num, by rw [HZ2.out, ← HS.out]; go_num, by first | rfl | (simp only [World.drewN_drewN]; rfl)⟩
            case measure => simp [intOf]; omega
          · rw [if_neg hyx] at hs
            have HS := Lib.hid (show u0 = m + z2 by omega)
            have hbx : decide (y < x) = false := by simpa using hyx
            clear hs hu0 hcl hnx
            go_wp2_with fail
            go_quiet (fail)
            go_wp2_with fail
            go_roundw
            case rel => exact ⟨j + 1, _, by rw [← HNx.out]; omega, by rw [← HNx.out]; go_num, by rw [HZ2.out, ← HS.out], by first | rfl | (simp only [World.drewN_drewN]; rfl)⟩
            case measure => simp [intOf]; omega
        · have hjz : i + 1 + j = n := by omega
          have HF := Lib.hid (HEx.out j (by omega))
          rw [HF.out, hjz]
          have hcq : cnt x q ≤ n := by rw [← HF.out]; exact hcl
          clear hjz hcl
          have hm2 := HM2.out
          generalize cnt x q = z at *
          have HM3 := Lib.hid hm2
          clear hm2
          obtain ⟨u0, hu0⟩ : ∃ u0, m + z = u0 := ⟨_, rfl⟩
          rw [hu0]
          have hub : u0 ≤ 100000 := by omega
          have HU := Lib.hid hu0
          clear hu0
          go_wp2_with fail
          go_roundw
          case rel => exact ⟨i + 1, u0, _, by omega, by go_num, rfl, by rw [← HU.out, HQ.out]; exact HM3.out, rfl⟩
          case measure => simp [intOf]; omega
    · obtain rfl : n = i := by omega
      have hm := HM.out
      rw [HE.out] at hm
      obtain rfl : S = m := by omega
      clear hm
      go_wp2_with fail
      go_ret2
      exact ⟨rfl, bdN HB1.out _⟩
end Go.Proofs.Ytehmngecpipebaa
