/-
  What the closures of rmq.Top and rmq.Tree, sort.Search with them, rmq.Top and the document's RmqTop return: contracts, walked over the translated text. No condition but what each theorem names.
-/
import Derived.Test.YtefgfkicacbmeaaRmqTab
namespace Go.Proofs.Ytefgfkicacbmeaa
open Go.RowKit Words

set_option maxHeartbeats 400000 in
/-- Is the power above the count? -/
theorem cl1_any (k g q : Nat) (w : World) (hk : k ≤ 9) (hc : w.cell? ⟨g, 0, none⟩ = some (.int .i64 q)) :
    Calls Try.prog 57 #[.int .i64 k, .pointer (some ⟨g, 0, none⟩)] w fun e w' => e = .returned (.bool (decide (q < 2 ^ k))) ∧ ∃ d, w' = w.drewN d := by
  have hsh := pow_small k hk
  generalize 2 ^ k = p at *
  by_cases h : q < p
  · have hd : decide (q < p) = true := by simpa using h
    rw [hd]
    go_enter Try.func57, Try.ntmps57
    go_wp2
    go_quiet (fail)
    go_wp2
    go_ret
    exact ⟨rfl, _, rfl⟩
  · have hd : decide (q < p) = false := by simpa using h
    rw [hd]
    go_enter Try.func57, Try.ntmps57
    go_wp2
    go_quiet (fail)
    go_wp2
    go_ret
    exact ⟨rfl, _, rfl⟩

set_option maxHeartbeats 1000000 in
/-- sort.Search with that closure. -/
theorem search1_any (n i : Nat) (g : Nat) (p : Nat → Bool) (w : World) (hn : n ≤ 1000) (hin : i ≤ n) (hlo : ∀ k, k < i → p k = false) (hhi : ∀ k, i ≤ k → k < n → p k = true)
    (hf : ∀ k d, k < n → Calls Try.prog 57 #[.int .i64 k, .pointer (some ⟨g, 0, none⟩)] (w.drewN d) fun e w' => e = .returned (.bool (p k)) ∧ ∃ m, w' = (w.drewN d).drewN m) :
    Calls Try.prog 56 #[.int .i64 n, .func (.func 57) #[] #[.pointer (some ⟨g, 0, none⟩)]] w fun e w' => e = .returned (.int .i64 i) ∧ ∃ d, w' = w.drewN d := by
  have HF := Lib.hid hf
  have HLo := Lib.hid hlo
  have HHi := Lib.hid hhi
  clear hf hlo hhi
  go_enter Try.func56, Try.ntmps56
  go_wp2_with fail
  go_loopw [5, 6] (fun a b w' => ∃ lo hi d : Nat, lo ≤ i ∧ i ≤ hi ∧ hi ≤ n ∧ a = .int .i64 lo ∧ b = .int .i64 hi ∧ w' = w.drewN d) (fun a b _ => (intOf b).toNat - (intOf a).toNat)
  case atStart => exact ⟨0, n, 0, Nat.zero_le _, hin, Nat.le_refl _, rfl, rfl, rfl⟩
  case round =>
    obtain ⟨lo, hi, d, h1, h2, h3, rfl, rfl, rfl⟩ := hrel
    by_cases hlt : lo < hi
    · obtain ⟨s, hs⟩ : ∃ s, s = lo + hi := ⟨_, rfl⟩
      have hsum : (lo : Int) + (hi : Int) = (s : Int) := by omega
      have hhf : (s : Int) / 2 = ((s / 2 : Nat) : Int) := by omega
      have hm1 : lo ≤ s / 2 := by omega
      have hm2 : s / 2 < hi := by omega
      have hsb : s ≤ 2000 := by omega
      clear hs
      generalize s / 2 = k at *
      have HC := Lib.hid (HF.out k d (by omega))
      by_cases hki : k < i
      · rw [HLo.out k hki] at HC
        go_wp2_with (go_at_call 57; refine HC.out.mono ?_; rintro e w' ⟨rfl, m, rfl⟩)
        go_roundw
        case rel => exact ⟨k + 1, hi, _, by omega, h2, h3, by go_num, rfl, by first | rfl | (simp only [World.drewN_drewN]; rfl)⟩
        case measure => simp [intOf]; omega
      · rw [HHi.out k (by omega) (by omega)] at HC
        go_wp2_with (go_at_call 57; refine HC.out.mono ?_; rintro e w' ⟨rfl, m, rfl⟩)
        go_roundw
        case rel => exact ⟨lo, k, _, h1, by omega, by omega, rfl, rfl, by first | rfl | (simp only [World.drewN_drewN]; rfl)⟩
        case measure => simp [intOf]; omega
    · obtain rfl : i = lo := by omega
      go_wp2_with fail
      go_ret
      exact ⟨rfl, _, rfl⟩
end Go.Proofs.Ytefgfkicacbmeaa
