/-
  What the document's SegPlayed returns: its contract, walked over the translated text. No condition but what each theorem names.
-/
import Derived.Test.YtnjpehgmlfenbaaSegRf
import Derived.Test.YtnjpehgmlfenbaaParRec
import Derived.Test.YtnjpehgmlfenbaaFenRd
namespace Go.Proofs.Ytnjpehgmlfenbaa
open Go.RowKit Words

set_option maxRecDepth 100000 in
theorem rplay_size (A B : Option Addr) (n c m d : Nat) (w : World) (hn : n ≤ 17592186044416) (hm : m ≤ 17592186044416) (h : n < 1 ∨ 300 < n ∨ 300 < m) :
    Calls Try.prog 8 #[.slice A n c, .slice B m d] w (NoPlay w 1) := by
  by_cases h1 : n < 1
  · obtain rfl : n = 0 := by omega
    go_enter Try.func8, Try.ntmps8
    go_wp2_with fail
    go_ret3
    exact ⟨rfl, Below.refl _ _⟩
  · have h0 : ((n : Int) == 0) = false := by simp; omega
    by_cases h2 : 300 < n
    · go_enter Try.func8, Try.ntmps8
      go_wp2_with fail
      go_ret3
      exact ⟨rfl, Below.refl _ _⟩
    · have h3 : 300 < m := by omega
      go_enter Try.func8, Try.ntmps8
      go_wp2_with fail
      go_ret3
      exact ⟨rfl, Below.refl _ _⟩

set_option maxRecDepth 100000 in
set_option maxHeartbeats 1000000 in
theorem rplay_range (A B : Option Addr) (l : List Int) (c m d : Nat) (w : World) (h0 : 1 ≤ l.length) (hn : l.length ≤ 300) (hm : m ≤ 300) (hc : ¬ Cos l) (hL : Lies w w.heap.size A (l.map (.int .i64))) :
    Calls Try.prog 8 #[.slice A l.length c, .slice B m d] w (NoPlay w 2) := by
  obtain ⟨i, hi, hlo, hhi, hany⟩ := first_of (fun x => !decide (Co x)) l
  rw [any_co, decide_eq_false hc] at hany
  have hil : i < l.length := by simpa using hany.symm
  have HL := Lib.hid hL
  have HLo := Lib.hid hlo
  have HHi := Lib.hid hhi
  clear hlo hhi hany hc hL
  generalize hq : l.length = n at *
  have HQ := Lib.hid hq
  clear hq
  have hn0 : ((n : Int) == 0) = false := by simp; omega
  go_enter Try.func8, Try.ntmps8
  go_wp2_with fail
  go_loopw [31] (fun a w' => ∃ k : Nat, k ≤ i ∧ a = .int .i64 k ∧ w' = w) (fun a _ => n - (intOf a).toNat)
  case atStart => exact ⟨0, Nat.zero_le _, rfl, rfl⟩
  case round =>
    obtain ⟨k, hk, rfl, rfl⟩ := hrel
    have hkn : k < n := by omega
    obtain ⟨b, o, x, rfl, hb, hx, hce⟩ := HL.out.at_ (k := k) (by rw [HQ.out]; omega)
    have HC := Lib.hid (fun W => may_any x W)
    by_cases hlt : k < i
    · have h1 : decide (Co x) = true := by have := HLo.out k x hlt hx; simpa using this
      rw [h1] at HC
      clear hx h1
      go_wp2_with fail
      refine (HC.out _).mono ?_
      rintro e w1 ⟨rfl, rfl⟩
      go_wp2_with fail
      go_roundw
      case rel => exact ⟨k + 1, by omega, by go_num, by first | trivial | rfl⟩
      case measure => simp [intOf]; omega
    · obtain rfl : k = i := by omega
      have h1 : decide (Co x) = false := by have := HHi.out x hx; simpa using this
      rw [h1] at HC
      clear hx h1
      go_wp2_with fail
      refine (HC.out _).mono ?_
      rintro e w1 ⟨rfl, rfl⟩
      go_wp2_with fail
      go_ret3
      exact ⟨rfl, Below.refl _ _⟩
end Go.Proofs.Ytnjpehgmlfenbaa
