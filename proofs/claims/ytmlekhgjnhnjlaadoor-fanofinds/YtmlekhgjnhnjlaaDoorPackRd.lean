/-
  What the functions of package pack that only read return, and the document's answers: contracts, walked over the translated text. A packed array is '.agg #[.int .i64 n, .int .i64 d, .slice A ws.length c]', its words ws below 2^64 in memory. No condition but what each theorem names.
-/
import Derived.Test.YtmlekhgjnhnjlaaDoorPop
import Derived.Test.YtmlekhgjnhnjlaaDoorPacks
import Derived.Test.YtmlekhgjnhnjlaaDoorMem
import Derived.Deep.QuietTactic
import Derived.BigQuiet
import Derived.IntWalk
namespace Go.Proofs.YtmlekhgjnhnjlaaDoor
open Go.RowKit Words

/-- pack.wordsFor. -/
theorem pwordsFor_any (n : Nat) (w : World) (hn : n ≤ 18600) :
    Calls Tryd.prog 42 #[.int .i64 n] w fun e w' => e = .returned (.int .i64 ((n + 63) / 64 : Nat)) ∧ w = w' := by
  go_enter Tryd.func42, Tryd.ntmps42
  go_wp2
  go_ret
  refine ⟨congrArg Ending.returned (congrArg (Value.int IntKind.i64) ?_), rfl⟩
  omega

/-- pack.May: not valid by its numbers. -/
theorem pmay_num (n d : Int) (s : Value) (w : World) (h : n < 0 ∨ 300 < n ∨ d < 0 ∨ 62 < d) :
    Calls Tryd.prog 36 #[.agg #[.int .i64 n, .int .i64 d, s]] w fun e w' => e = .returned (.bool false) ∧ Below w.heap.size w w' := by
  by_cases h0 : n < 0
  · clear h
    have hd : decide (n < 0) = true := by simpa using h0
    go_enter Tryd.func36, Tryd.ntmps36
    go_wp2
    go_ret
    exact ⟨rfl, bnew _ _⟩
  have hd : decide (n < 0) = false := by simpa using h0
  by_cases h1 : 300 < n
  · clear h
    have hd1 : decide (300 < n) = true := by simpa using h1
    go_enter Tryd.func36, Tryd.ntmps36
    go_wp2
    go_ret
    exact ⟨rfl, bnew _ _⟩
  have hd1 : decide (300 < n) = false := by simpa using h1
  by_cases h2 : d < 0
  · clear h
    have hd2 : decide (d < 0) = true := by simpa using h2
    go_enter Tryd.func36, Tryd.ntmps36
    go_wp2
    go_ret
    exact ⟨rfl, bnew _ _⟩
  have hd2 : decide (d < 0) = false := by simpa using h2
  have hd3 : decide (62 < d) = true := by simp; omega
  clear h
  go_enter Tryd.func36, Tryd.ntmps36
  go_wp2
  go_ret
  exact ⟨rfl, bnew _ _⟩

/-- pack.May: the number of words is another one. -/
theorem pmay_len (n d u : Nat) (A : Option Addr) (k c : Nat) (w : World) (hn : n ≤ 300) (hd : d ≤ 62) (hu : n * d = u) (h : k ≠ (u + 63) / 64) :
    Calls Tryd.prog 36 #[.agg #[.int .i64 n, .int .i64 d, .slice A k c]] w fun e w' => e = .returned (.bool false) ∧ Below w.heap.size w w' := by
  have hb := mul_bound hn hd
  rw [hu] at hb
  have hmul : (n : Int) * (d : Int) = (u : Int) := by rw [← hu]; simp
  clear hu
  have HW := Lib.hid (fun w => pwordsFor_any u w hb)
  have hne : ((k : Int) != ((u + 63) / 64 : Nat)) = true := by simp; omega
  clear h
  generalize (u + 63) / 64 = q at *
  have h0 : decide ((n : Int) < 0) = false := by simp
  have h1 : decide (300 < (n : Int)) = false := by simp; omega
  have h2 : decide ((d : Int) < 0) = false := by simp
  have h3 : decide (62 < (d : Int)) = false := by simp; omega
  go_enter Tryd.func36, Tryd.ntmps36
  go_wp2
  go_quiet ((go_at_call 42; exact quiet1 HW))
  go_wp2
  go_ret
  exact ⟨rfl, bdN (bnew _ _) _⟩

/-- pack.May of an array without bits. -/
theorem pmay_nil (n d : Nat) (A : Option Addr) (c : Nat) (w : World) (hn : n ≤ 300) (hd : d ≤ 62) (hu : n * d = 0) :
    Calls Tryd.prog 36 #[.agg #[.int .i64 n, .int .i64 d, .slice A 0 c]] w fun e w' => e = .returned (.bool true) ∧ Below w.heap.size w w' := by
  have HW := Lib.hid (fun w => pwordsFor_any 0 w (by omega))
  have hmul : (n : Int) * (d : Int) = 0 := by exact_mod_cast hu
  clear hu
  have h0 : decide ((n : Int) < 0) = false := by simp
  have h1 : decide (300 < (n : Int)) = false := by simp; omega
  have h2 : decide ((d : Int) < 0) = false := by simp
  have h3 : decide (62 < (d : Int)) = false := by simp; omega
  go_enter Tryd.func36, Tryd.ntmps36
  go_wp2
  go_quiet ((go_at_call 42; exact quiet1 HW))
  go_wp2
  go_ret
  exact ⟨rfl, bdN (bnew _ _) _⟩

set_option maxHeartbeats 1000000 in
/-- pack.May: the last word's test. -/
theorem pmay_last (n d u j b o x y : Nat) (c : Nat) (w : World) (hn : n ≤ 300) (hd : d ≤ 62) (hu : n * d = u) (hj : (u + 63) / 64 = j + 1) (hb : b < w.heap.size) (hc : w.cell? ⟨b, o + j, none⟩ = some (.int .u64 x))
    (hy : x / 2 ^ (u - 64 * j) = y) (t : Bool) (ht : ((y : Int) == 0) = t) :
    Calls Tryd.prog 36 #[.agg #[.int .i64 n, .int .i64 d, .slice (some ⟨b, o, none⟩) (j + 1) c]] w fun e w' => e = .returned (.bool t) ∧ Below w.heap.size w w' := by
  have hbd := mul_bound hn hd
  rw [hu] at hbd
  have hmul : (n : Int) * (d : Int) = (u : Int) := by rw [← hu]; simp
  clear hu
  have HW := Lib.hid (fun w => pwordsFor_any u w hbd)
  obtain ⟨r, hr⟩ : ∃ r, u = 64 * j + r := ⟨u - 64 * j, by omega⟩
  have hsub : (u : Int) - (j : Int) * 64 = (r : Int) := by omega
  have hr64 : r ≤ 64 := by omega
  have hj400 : j ≤ 400 := by omega
  rw [show u - 64 * j = r by omega] at hy
  have hdiv : (x : Int) / 2 ^ r = (y : Int) := by rw [← hy]; simp
  rw [hj] at HW
  clear hj hr hy
  have hne : (((j + 1 : Nat) : Int) != ((j + 1 : Nat) : Int)) = false := by simp
  have hne2 : (((j : Int) + 1) != ((j : Int) + 1)) = false := by simp
  have hd2 : decide ((j : Int) < 0) = false := by simp
  have h0 : decide ((n : Int) < 0) = false := by simp
  have h1 : decide (300 < (n : Int)) = false := by simp; omega
  have h2 : decide ((d : Int) < 0) = false := by simp
  have h3 : decide (62 < (d : Int)) = false := by simp; omega
  go_enter Tryd.func36, Tryd.ntmps36
  go_wp2
  go_quiet ((go_at_call 42; exact quiet1 HW))
  go_wp2
  go_ret
  exact ⟨rfl, bdN (bnew _ _) _⟩

/-- pack.May of a valid array. -/
theorem pmay_yes (n d : Nat) (A : Option Addr) (ws : List Nat) (c : Nat) (w : World) (hV : PValid n d ws) (hW : Words64 w w.heap.size A ws) :
    Calls Tryd.prog 36 #[.agg #[.int .i64 n, .int .i64 d, .slice A ws.length c]] w fun e w' => e = .returned (.bool true) ∧ Below w.heap.size w w' := by
  have hl := hV.len
  rcases Nat.eq_zero_or_pos ws.length with h0 | h0
  · rw [h0]
    exact pmay_nil n d A c w hV.hi hV.wide (by generalize n * d = u at *; omega)
  · obtain ⟨j, hj⟩ : ∃ j, ws.length = j + 1 := ⟨ws.length - 1, by omega⟩
    obtain ⟨b, o, x, rfl, hb, hx, hlt, hc⟩ := hW.at_ (k := j) (by omega)
    have h1 := (pvalid_last n d ws j x hV.hi hV.wide hl hj hx hlt).1 hV
    rw [hj]
    exact pmay_last n d _ j b o x 0 c w hV.hi hV.wide rfl (by omega) hb hc h1 true rfl

/-- pack.May of what is not valid. -/
theorem pmay_no (n d : Int) (A : Option Addr) (ws : List Nat) (c : Nat) (w : World) (hV : ∀ m k : Nat, n = m → d = k → ¬ PValid m k ws) (hW : Words64 w w.heap.size A ws) :
    Calls Tryd.prog 36 #[.agg #[.int .i64 n, .int .i64 d, .slice A ws.length c]] w fun e w' => e = .returned (.bool false) ∧ Below w.heap.size w w' := by
  by_cases h : n < 0 ∨ 300 < n ∨ d < 0 ∨ 62 < d
  · exact pmay_num n d _ w h
  · obtain ⟨m, rfl⟩ := Int.eq_ofNat_of_zero_le (a := n) (by omega)
    obtain ⟨k, rfl⟩ := Int.eq_ofNat_of_zero_le (a := d) (by omega)
    have hm : m ≤ 300 := by omega
    have hk : k ≤ 62 := by omega
    have hV := hV m k rfl rfl
    by_cases hl : ws.length = (m * k + 63) / 64
    · rcases Nat.eq_zero_or_pos ws.length with h0 | h0
      · exact absurd (by rw [List.eq_nil_of_length_eq_zero h0]; exact pvalid_nil m k hm hk (by generalize m * k = u at *; omega)) hV
      · obtain ⟨j, hj⟩ : ∃ j, ws.length = j + 1 := ⟨ws.length - 1, by omega⟩
        obtain ⟨b, o, x, rfl, hb, hx, hlt, hc⟩ := hW.at_ (k := j) (by omega)
        rw [hj]
        refine pmay_last m k _ j b o x _ c w hm hk rfl (by omega) hb hc rfl false ?_
        rw [beq_eq_false_iff_ne]
        intro e
        exact hV ((pvalid_last m k ws j x hm hk hl hj hx hlt).2 (by exact_mod_cast e))
    · exact pmay_len m k _ A ws.length c w hm hk rfl hl
end Go.Proofs.YtmlekhgjnhnjlaaDoor
