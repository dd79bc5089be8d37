/-
  What the functions of package bits that only read return: contracts, walked over the translated text. A vector is '.agg #[.int .i64 n, .slice A ws.length c]', its words ws below 2^64 in memory. No condition but what each theorem names.
-/
import Derived.Test.YtjgibbccjijpaaaPop
import Derived.Test.YtjgibbccjijpaaaRow
import Derived.Test.YtjgibbccjijpaaaMem
import Derived.Deep.QuietTactic
import Derived.BigQuiet
import Derived.IntWalk
namespace Go.Proofs.Ytjgibbccjijpaaa
open Go.RowKit Words

/-- bits.wordsFor. -/
theorem wordsFor_any (n : Nat) (w : World) (hn : n ≤ 4096) :
    Calls Try.prog 72 #[.int .i64 n] w fun e w' => e = .returned (.int .i64 ((n + 63) / 64 : Nat)) ∧ w = w' := by
  go_enter Try.func72, Try.ntmps72
  go_wp2
  go_ret
  refine ⟨congrArg Ending.returned (congrArg (Value.int IntKind.i64) ?_), rfl⟩
  omega

/-- bits.within. -/
theorem within_any (n j : Nat) (w : World) (hn : n ≤ 4096) (hj : j ≤ 64) :
    Calls Try.prog 73 #[.int .i64 n, .int .i64 j] w fun e w' => e = .returned (.int .u64 (2 ^ min (n - 64 * j) 64 - 1 : Nat)) ∧ w = w' := by
  by_cases h : n ≤ 64 * j
  · rw [show n - 64 * j = 0 by omega]
    by_cases h0 : n = 64 * j
    · have hd : (n : Int) - (j : Int) * 64 = 0 := by omega
      clear h0 h
      go_enter Try.func73, Try.ntmps73
      go_wp2
      go_ret
      exact ⟨rfl, rfl⟩
    · have hd : (n : Int) - (j : Int) * 64 < 0 := by omega
      go_enter Try.func73, Try.ntmps73
      go_wp2
      go_ret
      exact ⟨rfl, rfl⟩
  · obtain ⟨m, hm⟩ : ∃ m : Nat, n = 64 * j + m := ⟨n - 64 * j, by omega⟩
    subst hm
    have hI := mask_int (min m 64) (by omega)
    rw [show 64 * j + m - 64 * j = m by omega]
    have e1 : ((64 * j + m : Nat) : Int) - (j : Int) * 64 = (m : Int) := by omega
    generalize 64 * j + m = n at *
    have h0 : ¬ (m : Int) < 0 := by omega
    go_enter Try.func73, Try.ntmps73
    go_wp2
    go_ret
    exact ⟨rfl, rfl⟩

/-- bits.May: not valid by its numbers. -/
theorem may_out (n : Int) (A : Option Addr) (ws : List Nat) (c : Nat) (w : World) (h : n < 0 ∨ 4096 < n ∨ ((ws.length : Int) ≠ (n + 63) / 64 ∧ 0 ≤ n)) :
    Calls Try.prog 45 #[.agg #[.int .i64 n, .slice A ws.length c]] w fun e w' => e = .returned (.bool false) ∧ Below w.heap.size w w' := by
  generalize ws.length = k at *
  by_cases h0 : n < 0
  · clear h
    have hd : decide (n < 0) = true := by simpa using h0
    go_enter Try.func45, Try.ntmps45
    go_wp2
    go_quiet (fail)
    go_wp2
    go_ret
    exact ⟨rfl, bdN ((Below.refl _ _).alloc (Nat.le_refl _) _) _⟩
  by_cases h1 : 4096 < n
  · clear h
    have hd : decide (n < 0) = false := by simpa using h0
    have hd1 : decide (4096 < n) = true := by simpa using h1
    go_enter Try.func45, Try.ntmps45
    go_wp2
    go_quiet (fail)
    go_wp2
    go_ret
    exact ⟨rfl, bdN ((Below.refl _ _).alloc (Nat.le_refl _) _) _⟩
  · obtain ⟨m, rfl⟩ := Int.eq_ofNat_of_zero_le (a := n) (by omega)
    have hW := fun w => wordsFor_any m w (by omega)
    have hne : ((k : Int) != ((m + 63) / 64 : Nat)) = true := by simp; omega
    have hd : decide ((m : Int) < 0) = false := by simp
    have hd1 : decide (4096 < (m : Int)) = false := by simp; omega
    clear h
    generalize (m + 63) / 64 = q at *
    have HW := Lib.hid hW
    clear hW
    go_enter Try.func45, Try.ntmps45
    go_wp2
    go_quiet ((go_at_call 72; exact quiet1 HW))
    go_wp2
    go_ret
    exact ⟨rfl, bdN ((Below.refl _ _).alloc (Nat.le_refl _) _) _⟩

/-- bits.May of the vector without bits. -/
theorem may_nil (A : Option Addr) (c : Nat) (w : World) :
    Calls Try.prog 45 #[.agg #[.int .i64 0, .slice A 0 c]] w fun e w' => e = .returned (.bool true) ∧ Below w.heap.size w w' := by
  have HW := Lib.hid (fun w => wordsFor_any 0 w (by omega))
  go_enter Try.func45, Try.ntmps45
  go_wp2
  go_quiet ((go_at_call 72; exact quiet1 HW))
  go_wp2
  go_quiet (fail)
  go_wp2
  go_ret
  exact ⟨rfl, bdN (bdN ((Below.refl _ _).alloc (Nat.le_refl _) _) _) _⟩

set_option maxHeartbeats 1000000 in
/-- bits.May: the last word's test. -/
theorem may_last (m j b o x y : Nat) (c : Nat) (w : World) (hm : m ≤ 4096) (hj : (m + 63) / 64 = j + 1) (hb : b < w.heap.size) (hc : w.cell? ⟨b, o + j, none⟩ = some (.int .u64 x))
    (hy : bits .andNot .u64 (x : Int) ((2 ^ min (m - 64 * j) 64 - 1 : Nat) : Int) = (y : Int)) (t : Bool) (ht : ((y : Int) == 0) = t) :
    Calls Try.prog 45 #[.agg #[.int .i64 m, .slice (some ⟨b, o, none⟩) (j + 1) c]] w fun e w' => e = .returned (.bool t) ∧ Below w.heap.size w w' := by
  have HW := Lib.hid (fun w => wordsFor_any m w hm)
  have HV := Lib.hid (fun w => within_any m j w hm (by omega))
  have hd : decide ((m : Int) < 0) = false := by simp
  have hd1 : decide (4096 < (m : Int)) = false := by simp; omega
  have hj64 : j ≤ 64 := by omega
  rw [hj] at HW
  clear hj
  generalize 2 ^ min (m - 64 * j) 64 - 1 = q at *
  have hne : (((j + 1 : Nat) : Int) != ((j + 1 : Nat) : Int)) = false := by simp
  have hne2 : (((j : Int) + 1) != ((j : Int) + 1)) = false := by simp
  have hd2 : decide ((j : Int) < 0) = false := by simp
  go_enter Try.func45, Try.ntmps45
  go_wp2
  go_quiet ((go_at_call 72; exact quiet1 HW))
  go_wp2
  go_quiet ((go_at_call 73; first | exact quiet2 HV | exact quiet1 HV))
  go_wp2
  go_ret
  exact ⟨rfl, bdN (bdN ((Below.refl _ _).alloc (Nat.le_refl _) _) _) _⟩

/-- bits.May of a valid vector. -/
theorem may_yes (m : Nat) (A : Option Addr) (ws : List Nat) (c : Nat) (w : World) (hV : Valid m ws) (hW : Words64 w w.heap.size A ws) :
    Calls Try.prog 45 #[.agg #[.int .i64 m, .slice A ws.length c]] w fun e w' => e = .returned (.bool true) ∧ Below w.heap.size w w' := by
  have hm := hV.hi
  have hl := hV.len
  rcases Nat.eq_zero_or_pos ws.length with h0 | h0
  · obtain rfl : m = 0 := by omega
    rw [h0]
    exact may_nil A c w
  · obtain ⟨j, hj⟩ : ∃ j, ws.length = j + 1 := ⟨ws.length - 1, by omega⟩
    obtain ⟨b, o, x, rfl, hb, hx, hlt, hc⟩ := hW.at_ (k := j) (by omega)
    have hy := andNot_mask x (min (m - 64 * j) 64) hlt (by omega)
    have h1 := (valid_last m ws j x hm hl hj hx hlt).1 hV
    rw [h1] at hy
    rw [hj]
    exact may_last m j b o x 0 c w hm (by omega) hb hc hy true rfl

/-- bits.May of what is not valid. -/
theorem may_no (n : Int) (A : Option Addr) (ws : List Nat) (c : Nat) (w : World) (hV : ∀ m : Nat, n = m → ¬ Valid m ws) (hW : Words64 w w.heap.size A ws) :
    Calls Try.prog 45 #[.agg #[.int .i64 n, .slice A ws.length c]] w fun e w' => e = .returned (.bool false) ∧ Below w.heap.size w w' := by
  by_cases h : n < 0 ∨ 4096 < n ∨ ((ws.length : Int) ≠ (n + 63) / 64 ∧ 0 ≤ n)
  · exact may_out n A ws c w h
  · obtain ⟨m, rfl⟩ := Int.eq_ofNat_of_zero_le (a := n) (by omega)
    have hm : m ≤ 4096 := by omega
    have hl : ws.length = (m + 63) / 64 := by omega
    rcases Nat.eq_zero_or_pos ws.length with h0 | h0
    · obtain rfl : m = 0 := by omega
      exact absurd (by rw [List.eq_nil_of_length_eq_zero h0]; exact valid_nil) (hV 0 rfl)
    · obtain ⟨j, hj⟩ : ∃ j, ws.length = j + 1 := ⟨ws.length - 1, by omega⟩
      obtain ⟨b, o, x, rfl, hb, hx, hlt, hc⟩ := hW.at_ (k := j) (by omega)
      have hy := andNot_mask x (min (m - 64 * j) 64) hlt (by omega)
      have h1 : ¬ (x / 2 ^ min (m - 64 * j) 64 * 2 ^ min (m - 64 * j) 64 = 0) := fun e => hV m rfl ((valid_last m ws j x hm hl hj hx hlt).2 e)
      rw [hj]
      refine may_last m j b o x _ c w hm (by omega) hb hc hy false ?_
      rw [beq_eq_false_iff_ne]
      intro e
      exact h1 (by exact_mod_cast e)

/-- The document's May: not valid by its numbers. -/
theorem rmay_out (n : Int) (A : Option Addr) (k : Nat) (c : Nat) (w : World) (hk : k ≤ 17592186044416) (h : n < 0 ∨ 4096 < n ∨ ((k : Int) ≠ (n + 63) / 64 ∧ 0 ≤ n)) :
    Calls Try.prog 46 #[.agg #[.int .i64 n, .slice A k c]] w fun e w' => e = .returned (.bool false) ∧ Below w.heap.size w w' := by
  by_cases h0 : n < 0
  · clear h
    have hd : decide (n < 0) = true := by simpa using h0
    go_enter Try.func46, Try.ntmps46
    go_wp2
    go_ret
    exact ⟨rfl, (Below.refl _ _).alloc (Nat.le_refl _) _⟩
  by_cases h1 : 4096 < n
  · clear h
    have hd : decide (n < 0) = false := by simpa using h0
    have hd1 : decide (4096 < n) = true := by simpa using h1
    go_enter Try.func46, Try.ntmps46
    go_wp2
    go_ret
    exact ⟨rfl, (Below.refl _ _).alloc (Nat.le_refl _) _⟩
  have hd : decide (n < 0) = false := by simpa using h0
  have hd1 : decide (4096 < n) = false := by simpa using h1
  by_cases h2 : 64 * (k : Int) < n
  · clear h
    have hd2 : decide (64 * (k : Int) < n) = true := by simpa using h2
    go_enter Try.func46, Try.ntmps46
    go_wp2
    go_ret
    exact ⟨rfl, (Below.refl _ _).alloc (Nat.le_refl _) _⟩
  · have hd2 : decide (64 * (k : Int) < n) = false := by simpa using h2
    have hd3 : decide (n + 64 ≤ 64 * (k : Int)) = true := by simp; omega
    clear h
    go_enter Try.func46, Try.ntmps46
    go_wp2
    go_ret
    exact ⟨rfl, (Below.refl _ _).alloc (Nat.le_refl _) _⟩

set_option maxHeartbeats 1000000 in
/-- The document's May: the bits beyond the last one. -/
theorem rmay_in (m : Nat) (A : Option Addr) (ws : List Nat) (c : Nat) (w : World) (hm : m ≤ 4096) (hl : ws.length = (m + 63) / 64) (hW : Words64 w w.heap.size A ws) (t : Bool) (ht : t = true ↔ Valid m ws) :
    Calls Try.prog 46 #[.agg #[.int .i64 m, .slice A ws.length c]] w fun e w' => e = .returned (.bool t) ∧ Below w.heap.size w w' := by
  have HL := Lib.hid hl
  have HT := Lib.hid ht
  have HWs := Lib.hid hW
  have hlo : m ≤ 64 * ws.length := by omega
  have hhi : 64 * ws.length < m + 64 := by omega
  clear hl ht hW
  generalize hk : ws.length = k at *
  have HK := Lib.hid hk
  clear hk
  have hd : decide ((m : Int) < 0) = false := by simp
  have hd1 : decide (4096 < (m : Int)) = false := by simp; omega
  have hd2 : decide (64 * (k : Int) < (m : Int)) = false := by simp; omega
  have hd3 : decide ((m : Int) + 64 ≤ 64 * (k : Int)) = false := by simp; omega
  go_enter Try.func46, Try.ntmps46
  go_wp2
  go_loop [3] (fun v => ∃ i : Nat, m ≤ i ∧ i ≤ 64 * k ∧ v = .int .i64 i ∧ ∀ p, m ≤ p → p < i → bit ws p = false) (fun v => 64 * k - (intOf v).toNat)
  case atStart => exact ⟨m, Nat.le_refl _, hlo, rfl, fun p h1 h2 => by omega⟩
  case round =>
    obtain ⟨i, hi1, hi2, rfl, hz⟩ := hrel
    have HZ := Lib.hid hz
    clear hz
    by_cases hlt : i < 64 * k
    · obtain ⟨b, o, x, rfl, hb, hx, hxl, hc⟩ := HWs.out.at_ (k := i / 64) (by rw [HK.out]; omega)
      have hbo := Lib.hid (bitOf_any x (i % 64) · hxl (by omega))
      have hbit : bit ws i = x.testBit (i % 64) := by unfold bit; simp [List.getD, hx]
      have HX := Lib.hid hx
      clear hx
      cases hxb : x.testBit (i % 64)
      all_goals
        rw [hxb] at hbit hbo
        have HB := Lib.hid hbit
        clear hbit hxb
        go_wp2_with (go_at_call 74; refine (hbo.out _).mono ?_; rintro e w' ⟨rfl, rfl⟩)
      · go_round
        case rel => exact ⟨i + 1, by omega, by omega, by go_num, fun p h1 h2 => by
          by_cases e : p = i
          · rw [e]; exact HB.out
          · exact HZ.out p h1 (by omega)⟩
        case measure => simp [intOf]; omega
      · go_ret
        have hf : t = false := by
          cases t with
          | false => rfl
          | true =>
            have h1 := (HT.out.1 rfl).top i (by omega) (by rw [HK.out]; omega)
            rw [HB.out] at h1
            cases h1
        rw [hf]
        exact ⟨rfl, (Below.refl _ _).alloc (Nat.le_refl _) _⟩
    · obtain rfl : i = 64 * k := by omega
      have hf : t = true := HT.out.2 ⟨hm, HK.out.trans HL.out, fun p h1 h2 => HZ.out p h1 (by rw [HK.out] at h2; omega)⟩
      subst hf
      go_wp2
      go_ret
      exact ⟨rfl, (Below.refl _ _).alloc (Nat.le_refl _) _⟩

/-- The document's May of a valid vector. -/
theorem rmay_yes (m : Nat) (A : Option Addr) (ws : List Nat) (c : Nat) (w : World) (hV : Valid m ws) (hW : Words64 w w.heap.size A ws) :
    Calls Try.prog 46 #[.agg #[.int .i64 m, .slice A ws.length c]] w fun e w' => e = .returned (.bool true) ∧ Below w.heap.size w w' :=
  rmay_in m A ws c w hV.hi hV.len hW true ⟨fun _ => hV, fun _ => rfl⟩

/-- The document's May of what is not valid. -/
theorem rmay_no (n : Int) (A : Option Addr) (ws : List Nat) (c : Nat) (w : World) (hV : ∀ m : Nat, n = m → ¬ Valid m ws) (hk : ws.length ≤ 17592186044416) (hW : Words64 w w.heap.size A ws) :
    Calls Try.prog 46 #[.agg #[.int .i64 n, .slice A ws.length c]] w fun e w' => e = .returned (.bool false) ∧ Below w.heap.size w w' := by
  by_cases h : n < 0 ∨ 4096 < n ∨ ((ws.length : Int) ≠ (n + 63) / 64 ∧ 0 ≤ n)
  · exact rmay_out n A ws.length c w hk h
  · obtain ⟨m, rfl⟩ := Int.eq_ofNat_of_zero_le (a := n) (by omega)
    exact rmay_in m A ws c w (by omega) (by omega) hW false ⟨(fun h => by cases h), fun h => absurd h (hV m rfl)⟩
end Go.Proofs.Ytjgibbccjijpaaa
