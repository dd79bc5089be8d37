/-
  What the document's answer to wave.Make returns: contracts, walked over the translated text. No condition but what each theorem names.
-/
import Derived.Test.YtjgibbccjijpaaaStbMm
namespace Go.Proofs.Ytjgibbccjijpaaa
open Go.RowKit Words

set_option maxHeartbeats 1000000 in
/-- The document's Make of too long a list. -/
theorem rwm_size (L : Int) (A : Option Addr) (n c : Nat) (w : World) (h : 300 < n) (hn : n ≤ 17592186044416) :
    Calls Try.prog 15 #[.int .i64 L, .slice A n c] w (NoWave w 1) := by
  go_enter Try.func15, Try.ntmps15
  go_wp2_with fail
  refine bodyPost_ret (v := .tuple #[.agg #[.slice none 0 0], .int .i64 1]) (by simp [results, Try.results15, go_sem]) rfl ⟨rfl, ?_⟩
  exact bnew _ _

set_option maxHeartbeats 1000000 in
/-- The document's Make of levels that are not allowed. -/
theorem rwm_levels (L : Int) (A : Option Addr) (n c : Nat) (w : World) (hn : n ≤ 300) (h : L < 0 ∨ 21 < L) :
    Calls Try.prog 15 #[.int .i64 L, .slice A n c] w (NoWave w 2) := by
  have hd : decide (300 < (n : Int)) = false := by simp; omega
  have hh : L < 0 ∨ (¬ L < 0 ∧ 21 < L) := by omega
  clear h
  rcases hh with h0 | ⟨h0, h1⟩
  all_goals
    go_enter Try.func15, Try.ntmps15
    go_wp2_with fail
    refine bodyPost_ret (v := .tuple #[.agg #[.slice none 0 0], .int .i64 2]) (by simp [results, Try.results15, go_sem]) rfl ⟨rfl, ?_⟩
    exact bnew _ _

theorem pow_21 (k : Nat) (h : k ≤ 21) : IntKind.i64.wrap (2 ^ k) = ((2 ^ k : Nat) : Int) := by
  have h1 : 2 ^ k ≤ 2 ^ 21 := Nat.pow_le_pow_right (by decide) h
  have e : (2 : Int) ^ k = ((2 ^ k : Nat) : Int) := by simp
  rw [e, IntKind.wrap_i64]
  generalize 2 ^ k = q at *
  omega

set_option maxHeartbeats 1000000 in
/-- The document's Make of a number that does not fit. -/
theorem rwm_fit (L : Nat) (A : Option Addr) (l : List Int) (c : Nat) (w : World) (hn : l.length ≤ 300) (hL : L ≤ 21) (hl : Lies w w.heap.size A (l.map (.int .i64))) (h : l.any (fun x => !fit L x) = true) :
    Calls Try.prog 15 #[.int .i64 L, .slice A l.length c] w (NoWave w 2) := by
  obtain ⟨i, hi, hlo, hhi, hany⟩ := first_at10 (fun x => !fit L x) l
  rw [h] at hany
  have hil : i < l.length := by simpa using hany.symm
  have HL := Lib.hid (hl.alloc (.cells #[.slice none 0 0] 25))
  have hsh := pow_21 L hL
  have hpb : 2 ^ L ≤ 2 ^ 21 := Nat.pow_le_pow_right (by decide) hL
  have HLo := Lib.hid (fun k x (hk : k < i) (hx : l[k]? = some x) => show 0 ≤ x ∧ x < ((2 ^ L : Nat) : Int) by
    have := hlo k x hk hx
    simpa [fit] using this)
  have HHi := Lib.hid (fun x (hx : l[i]? = some x) => show ¬ (0 ≤ x ∧ x < ((2 ^ L : Nat) : Int)) by
    intro hc2
    have := hhi x hx
    rw [show fit L x = true from decide_eq_true hc2] at this
    cases this)
  clear hl hlo hhi hany h hi
  generalize 2 ^ L = P at *
  generalize hnn : l.length = n at *
  have HN := Lib.hid hnn
  clear hnn
  have hd : decide (300 < (n : Int)) = false := by simp; omega
  have hd0 : decide ((L : Int) < 0) = false := by simp
  have hd1 : decide (21 < (L : Int)) = false := by simp; omega
  go_enter Try.func15, Try.ntmps15
  go_wp2_with fail
  go_loopw [30] (fun s w' => ∃ k : Nat, k ≤ i ∧ s = .int .i64 k ∧ w' = w.alloc (.cells #[.slice none 0 0] 25)) (fun s _ => n - (intOf s).toNat)
  case atStart => exact ⟨0, Nat.zero_le _, rfl, rfl⟩
  case round =>
    obtain ⟨k, hki, rfl, rfl⟩ := hrel
    obtain ⟨b, o, x, rfl, hb, hx, hc⟩ := HL.out.at_ (k := k) (by rw [HN.out]; omega)
    have hkn : k < n := by omega
    by_cases hlt : k < i
    · obtain ⟨x1, x2⟩ := HLo.out k x hlt hx
      clear hx
      go_wp2_with fail
      go_roundw
      case rel => exact ⟨k + 1, by omega, by go_num, by trivial⟩
      case measure => simp [intOf]; omega
    · obtain rfl : k = i := by omega
      have hu := HHi.out x hx
      clear hx
      by_cases hneg : x < 0
      · go_wp2_with fail
        refine bodyPost_ret (v := .tuple #[.agg #[.slice none 0 0], .int .i64 2]) (by simp [results, Try.results15, go_sem]) rfl ⟨rfl, ?_⟩
        exact bnew _ _
      · have hge : (P : Int) ≤ x := by omega
        clear hu
        go_wp2_with fail
        refine bodyPost_ret (v := .tuple #[.agg #[.slice none 0 0], .int .i64 2]) (by simp [results, Try.results15, go_sem]) rfl ⟨rfl, ?_⟩
        exact bnew _ _
end Go.Proofs.Ytjgibbccjijpaaa
