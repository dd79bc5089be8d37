/-
  What gam.Cost and the small functions of package gam return: contracts, walked over the translated text. No condition but what each theorem names.
-/
import Derived.Test.YtelcnkmgdohigaaLen64
import Derived.Test.YtelcnkmgdohigaaGams
namespace Go.Proofs.Ytelcnkmgdohigaa
open Go.RowKit Words

/-- gam.length. -/
theorem glen_any (n : Nat) (w : World) (h : n ≤ 9223372036854775807) :
    Calls Try.prog 36 #[.int .i64 n] w fun e w' => e = .returned (.int .i64 (Lib.bitLen n)) ∧ w = w' := by
  have HL := Lib.hid (len_any (n : Int) · (by omega) (by omega))
  rw [Int.toNat_natCast] at HL
  go_enter Try.func36, Try.ntmps36
  go_wp2_with (go_at_call 44; refine (HL.out _).mono ?_; rintro e w' ⟨rfl, rfl⟩)
  go_ret
  exact ⟨rfl, rfl⟩

/-- gam.gammaCost. -/
theorem gcost_any (n : Nat) (w : World) (h0 : 1 ≤ n) (h : n ≤ 2097151) :
    Calls Try.prog 35 #[.int .i64 n] w fun e w' => e = .returned (.int .i64 (2 * Lib.bitLen n - 1 : Nat)) ∧ w = w' := by
  have HL := Lib.hid (glen_any n · (by omega))
  obtain ⟨a, b⟩ := blen_code h0 h
  generalize Lib.bitLen n = L at *
  go_enter Try.func35, Try.ntmps35
  go_wp2_with (go_at_call 36; refine (HL.out _).mono ?_; rintro e w' ⟨rfl, rfl⟩)
  go_ret
  exact ⟨by go_num, rfl⟩

/-- gam.known. -/
theorem known_any (k : Int) (w : World) :
    Calls Try.prog 23 #[.int .i64 k] w fun e w' => e = .returned (.bool (decide (k = 1 ∨ k = 2))) ∧ w = w' := by
  by_cases h1 : k = 1
  · subst h1
    go_enter Try.func23, Try.ntmps23
    go_wp2
    go_ret
    exact ⟨rfl, rfl⟩
  · have e1 : (k == 1) = false := by simpa using h1
    by_cases h2 : k = 2
    · subst h2
      go_enter Try.func23, Try.ntmps23
      go_wp2
      go_ret
      exact ⟨rfl, rfl⟩
    · have e2 : (k == 2) = false := by simpa using h2
      have e3 : decide (k = 1 ∨ k = 2) = false := by simp [h1, h2]
      rw [e3]
      clear h1 h2 e3
      go_enter Try.func23, Try.ntmps23
      go_wp2
      go_ret
      exact ⟨rfl, rfl⟩

/-- A number that has a code. -/
def Codes (n : Int) : Prop := 1 ≤ n ∧ n ≤ 1048576
instance (n : Int) : Decidable (Codes n) := by unfold Codes; infer_instance

/-- gam.codable. -/
theorem codable_any (n : Int) (w : World) :
    Calls Try.prog 24 #[.int .i64 n] w fun e w' => e = .returned (.bool (decide (Codes n))) ∧ w = w' := by
  by_cases h1 : 1 ≤ n
  · have d1 : decide (1 ≤ n) = true := by simpa using h1
    by_cases h2 : n ≤ 1048576
    · have d2 : decide (n ≤ 1048576) = true := by simpa using h2
      have e3 : decide (Codes n) = true := by simp [Codes, h1, h2]
      rw [e3]
      clear e3
      go_enter Try.func24, Try.ntmps24
      go_wp2
      go_ret
      exact ⟨rfl, rfl⟩
    · have d2 : decide (n ≤ 1048576) = false := by simpa using h2
      have e3 : decide (Codes n) = false := by simp [Codes, h2]
      rw [e3]
      clear e3
      go_enter Try.func24, Try.ntmps24
      go_wp2
      go_ret
      exact ⟨rfl, rfl⟩
  · have d1 : decide (1 ≤ n) = false := by simpa using h1
    have e3 : decide (Codes n) = false := by simp [Codes, h1]
    rw [e3]
    clear e3
    go_enter Try.func24, Try.ntmps24
    go_wp2
    go_ret
    exact ⟨rfl, rfl⟩

/-- What the document asks of Cost. -/
def costAns (k n : Int) : Nat × Nat := if ¬ (k = 1 ∨ k = 2) then (0, 3) else if ¬ Codes n then (0, 2) else (costOf k.toNat n.toNat, 0)

/-- gam.Cost. -/
theorem cost_any (k n : Int) (w : World) :
    Calls Try.prog 15 #[.int .i64 k, .int .i64 n] w fun e w' => e = .returned (.tuple #[.int .i64 ((costAns k n).1 : Nat), .int .i64 ((costAns k n).2 : Nat)]) ∧ w = w' := by
  have HK := Lib.hid (known_any k)
  have HC := Lib.hid (codable_any n)
  by_cases hk : k = 1 ∨ k = 2
  · have e1 : decide (k = 1 ∨ k = 2) = true := by simpa using hk
    rw [e1] at HK
    by_cases hc : Codes n
    · have e2 : decide (Codes n) = true := by simpa using hc
      rw [e2] at HC
      have HA := Lib.hid (show costAns k n = (costOf k.toNat n.toNat, 0) by unfold costAns; rw [if_neg (fun h => h hk), if_neg (fun h => h hc)])
      obtain ⟨h0, h1⟩ := hc
      obtain ⟨m, rfl⟩ := Int.eq_ofNat_of_zero_le (a := n) (by omega)
      obtain ⟨b0, b1⟩ := blen_code (n := m) (by omega) (by omega)
      obtain ⟨c0, c1⟩ := blen_code (n := Lib.bitLen m) b0 (by omega)
      have HG := Lib.hid (gcost_any m · (by omega) (by omega))
      have HG2 := Lib.hid (gcost_any (Lib.bitLen m) · b0 (by omega))
      have HL := Lib.hid (glen_any m · (by omega))
      clear e1 e2
      rcases hk with rfl | rfl
      · have HV := Lib.hid (show costOf (Int.toNat 1) (Int.toNat m) = 2 * Lib.bitLen m - 1 from rfl)
        generalize Lib.bitLen m = L at *
        go_enter Try.func15, Try.ntmps15
        go_wp2_with (first
          | (go_at_call 23; refine (HK.out _).mono ?_; rintro e w' ⟨rfl, rfl⟩)
          | (go_at_call 24; refine (HC.out _).mono ?_; rintro e w' ⟨rfl, rfl⟩)
          | (go_at_call 35; refine (HG.out _).mono ?_; rintro e w' ⟨rfl, rfl⟩))
        rw [HA.out, HV.out]
        go_ret2
        exact ⟨rfl, rfl⟩
      · have HV := Lib.hid (show costOf (Int.toNat 2) (Int.toNat m) = 2 * Lib.bitLen (Lib.bitLen m) - 1 + Lib.bitLen m - 1 from rfl)
        generalize Lib.bitLen (Lib.bitLen m) = L2 at *
        generalize Lib.bitLen m = L at *
        go_enter Try.func15, Try.ntmps15
        go_wp2_with (first
          | (go_at_call 23; refine (HK.out _).mono ?_; rintro e w' ⟨rfl, rfl⟩)
          | (go_at_call 24; refine (HC.out _).mono ?_; rintro e w' ⟨rfl, rfl⟩)
          | (go_at_call 36; refine (HL.out _).mono ?_; rintro e w' ⟨rfl, rfl⟩)
          | (go_at_call 35; refine (HG2.out _).mono ?_; rintro e w' ⟨rfl, rfl⟩))
        rw [HA.out, HV.out]
        go_ret2
        exact ⟨by go_num, rfl⟩
    · have e2 : decide (Codes n) = false := by simpa using hc
      rw [e2] at HC
      have HA := Lib.hid (show costAns k n = (0, 2) by unfold costAns; rw [if_neg (fun h => h hk), if_pos hc])
      clear e1 e2 hc hk
      go_enter Try.func15, Try.ntmps15
      go_wp2_with (first
        | (go_at_call 23; refine (HK.out _).mono ?_; rintro e w' ⟨rfl, rfl⟩)
        | (go_at_call 24; refine (HC.out _).mono ?_; rintro e w' ⟨rfl, rfl⟩))
      rw [HA.out]
      go_ret2
      exact ⟨rfl, rfl⟩
  · have e1 : decide (k = 1 ∨ k = 2) = false := by simpa using hk
    rw [e1] at HK
    have HA := Lib.hid (show costAns k n = (0, 3) by unfold costAns; rw [if_pos hk])
    clear e1 hk
    go_enter Try.func15, Try.ntmps15
    go_wp2_with (go_at_call 23; refine (HK.out _).mono ?_; rintro e w' ⟨rfl, rfl⟩)
    rw [HA.out]
    go_ret2
    exact ⟨rfl, rfl⟩
end Go.Proofs.Ytelcnkmgdohigaa
