/-
  What sky's samePlace, the closure of layersOf, sort.Search with it and layersOf return: contracts, walked over the translated text. No condition but what each theorem names.
-/
import Derived.Test.YtpkclmfadlkbeaaJ26
import Derived.Test.YtpkclmfadlkbeaaJ01
import Derived.Test.YtpkclmfadlkbeaaJ28
import Derived.Deep.RegionHeld3
import Derived.Deep.RegionWith
import Derived.Deep.AppendLies
namespace Go.Proofs.Ytpkclmfadlkbeaa
open Go.RowKit Go.Shelf Go.Sort Words
attribute [local go_sem] Oper.semAt_some

/-- Do two points stand at one place? -/
def sameP (p q : Pt3) : Bool := decide (p.x = q.x) && decide (p.y = q.y)
theorem same_yes {p q : Pt3} (h : p.x = q.x ∧ p.y = q.y) : sameP p q = true := by unfold sameP; rw [decide_eq_true h.1, decide_eq_true h.2]; rfl
theorem same_no {p q : Pt3} (h : ¬ (p.x = q.x ∧ p.y = q.y)) : sameP p q = false := by unfold sameP; rw [Bool.and_eq_false_iff, decide_eq_false_iff_not, decide_eq_false_iff_not]; omega
set_option maxHeartbeats 1000000 in
/-- samePlace. -/
theorem same_any (p q : Pt3) (w : World) : Calls Try.prog 51 #[p.val, q.val] w fun e w' => e = .returned (.bool (sameP p q)) ∧ w' = (w.alloc (.cells #[.int .i64 p.x, .int .i64 p.y, .int .i64 p.w] 30)).alloc (.cells #[.int .i64 q.x, .int .i64 q.y, .int .i64 q.w] 30) := by
  obtain ⟨px, py, pw⟩ := p
  obtain ⟨qx, qy, qw⟩ := q
  unfold sameP Pt3.val
  by_cases h1 : px = qx
  · by_cases h2 : py = qy
    · rw [decide_eq_true h1, decide_eq_true h2]
      have e1 : (px == qx) = true := by simpa using h1
      have e2 : (py == qy) = true := by simpa using h2
      clear h1 h2
      go_enter Try.func51, Try.ntmps51
      go_wp2
      go_ret
      exact ⟨rfl, rfl⟩
    · rw [decide_eq_true h1, decide_eq_false h2]
      have e1 : (px == qx) = true := by simpa using h1
      have e2 : (py == qy) = false := by simpa using h2
      clear h1 h2
      go_enter Try.func51, Try.ntmps51
      go_wp2
      go_ret
      exact ⟨rfl, rfl⟩
  · rw [decide_eq_false h1]
    have e1 : (px == qx) = false := by simpa using h1
    clear h1
    go_enter Try.func51, Try.ntmps51
    go_wp2
    go_ret
    exact ⟨rfl, rfl⟩

set_option maxHeartbeats 1000000 in
/-- The closure: is a layer's greatest Y below the point's? -/
theorem cls_any (k m c n cp i b o g gt gp gi : Nat) (t y : Int) (w : World) (hk : k < m) (hin : i < n) (hct : w.cell? ⟨gt, 0, none⟩ = some (.slice (some ⟨g, 0, none⟩) m c)) (hcx : w.cell? ⟨g, k, none⟩ = some (.int .i64 t))
    (hcp : w.cell? ⟨gp, 0, none⟩ = some (.slice (some ⟨b, o, none⟩) n cp)) (hci : w.cell? ⟨gi, 0, none⟩ = some (.int .i64 i)) (hcy : w.cell? ⟨b, o + i * 3 + 1, none⟩ = some (.int .i64 y)) :
    Calls Try.prog 53 #[.int .i64 k, .pointer (some ⟨gt, 0, none⟩), .pointer (some ⟨gp, 0, none⟩), .pointer (some ⟨gi, 0, none⟩)] w fun e w' => e = .returned (.bool (decide (t < y))) ∧ ∃ d, w' = w.drewN d := by
  by_cases h : t < y
  · have hd : decide (t < y) = true := by simpa using h
    rw [hd]
    go_enter Try.func53, Try.ntmps53
    go_wp2
    go_quiet (fail)
    go_wp2
    go_ret
    exact ⟨rfl, _, rfl⟩
  · have hd : decide (t < y) = false := by simpa using h
    rw [hd]
    go_enter Try.func53, Try.ntmps53
    go_wp2
    go_quiet (fail)
    go_wp2
    go_ret
    exact ⟨rfl, _, rfl⟩

set_option maxHeartbeats 1000000 in
/-- sort.Search with that closure. -/
theorem lsearch_any (n i : Nat) (gt gp gi : Nat) (p : Nat → Bool) (w : World) (hn : n ≤ 1000) (hin : i ≤ n) (hlo : ∀ k, k < i → p k = false) (hhi : ∀ k, i ≤ k → k < n → p k = true)
    (hf : ∀ k d, k < n → Calls Try.prog 53 #[.int .i64 k, .pointer (some ⟨gt, 0, none⟩), .pointer (some ⟨gp, 0, none⟩), .pointer (some ⟨gi, 0, none⟩)] (w.drewN d) fun e w' => e = .returned (.bool (p k)) ∧ ∃ m, w' = (w.drewN d).drewN m) :
    Calls Try.prog 52 #[.int .i64 n, .func (.func 53) #[] #[.pointer (some ⟨gt, 0, none⟩), .pointer (some ⟨gp, 0, none⟩), .pointer (some ⟨gi, 0, none⟩)]] w fun e w' => e = .returned (.int .i64 i) ∧ ∃ d, w' = w.drewN d := by
  have HF := Lib.hid hf
  have HLo := Lib.hid hlo
  have HHi := Lib.hid hhi
  clear hf hlo hhi
  go_enter Try.func52, Try.ntmps52
  go_wp2_with fail
  go_loopw [5, 6] (fun a b w' => ∃ lo hi d : Nat, lo ≤ i ∧ i ≤ hi ∧ hi ≤ n ∧ a = .int .i64 lo ∧ b = .int .i64 hi ∧ w' = w.drewN d) (fun a b _ => (intOf b).toNat - (intOf a).toNat)
  case atStart => exact ⟨0, n, 0, Nat.zero_le _, hin, Nat.le_refl _, rfl, rfl, rfl⟩
  case round =>
    obtain ⟨lo, hi, d, h1, h2, h3, rfl, rfl, rfl⟩ := hrel
    by_cases hlt : lo < hi
    · obtain ⟨s, hs⟩ : ∃ s, s = lo + hi := ⟨_, rfl⟩
      have hsum : (lo : Int) + (hi : Int) = (s : Int) := by omega
      have hhf : (s : Int) / 2 = ((s / 2 : Nat) : Int) := by omega
      have hm1 : lo ≤ s / 2 := by omega
      have hm2 : s / 2 < hi := by omega
      have hsb : s ≤ 2000 := by omega
      clear hs
      generalize s / 2 = k at *
      have HC := Lib.hid (HF.out k d (by omega))
      by_cases hki : k < i
      · rw [HLo.out k hki] at HC
        go_wp2_with (go_at_call 53; refine HC.out.mono ?_; rintro e w' ⟨rfl, m, rfl⟩)
        go_roundw
        case rel => exact ⟨k + 1, hi, _, by omega, h2, h3, by go_num, rfl, by first | rfl | (simp only [World.drewN_drewN]; rfl)⟩
        case measure => simp [intOf]; omega
      · rw [HHi.out k (by omega) (by omega)] at HC
        go_wp2_with (go_at_call 53; refine HC.out.mono ?_; rintro e w' ⟨rfl, m, rfl⟩)
        go_roundw
        case rel => exact ⟨lo, k, _, h1, by omega, by omega, rfl, rfl, by first | rfl | (simp only [World.drewN_drewN]; rfl)⟩
        case measure => simp [intOf]; omega
    · obtain rfl : i = lo := by omega
      go_wp2_with fail
      go_ret
      exact ⟨rfl, _, rfl⟩
end Go.Proofs.Ytpkclmfadlkbeaa
