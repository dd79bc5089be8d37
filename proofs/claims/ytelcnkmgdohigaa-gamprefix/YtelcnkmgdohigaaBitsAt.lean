/-
  What bits.At and bits.Rank return: contracts, walked over the translated text. A vector is '.agg #[.int .i64 n, .slice A ws.length c]', its words ws below 2^64 in memory. No condition but what each theorem names.
-/
import Derived.Test.YtelcnkmgdohigaaBits
namespace Go.Proofs.Ytelcnkmgdohigaa
open Go.RowKit Words

set_option maxHeartbeats 400000 in
/-- bits.At of what is not valid. -/
theorem at_form (n i : Int) (A : Option Addr) (ws : List Nat) (c : Nat) (w : World) (hV : ∀ m : Nat, n = m → ¬ Valid m ws) (hW : Words64 w w.heap.size A ws) :
    Calls Try.prog 22 #[.agg #[.int .i64 n, .slice A ws.length c], .int .i64 i] w fun e w' => e = .returned (.tuple #[.bool false, .int .i64 4]) ∧ Below w.heap.size w w' := by
  have HM := Lib.hid (fun W (h : Words64 W W.heap.size A ws) => may_no n A ws c W hV h)
  have HW := Lib.hid hW
  clear hW hV
  go_enter Try.func22, Try.ntmps22
  go_wp2_with (go_at_call 30; refine (HM.out _ (by exact HW.out.alloc _)).mono ?_; rintro e w1 ⟨rfl, hb1⟩)
  go_ret2
  exact ⟨rfl, ((Below.refl _ _).alloc (Nat.le_refl _) _).trans (hb1.mono (by simp))⟩

set_option maxHeartbeats 400000 in
/-- bits.At at a number that no bit has. -/
theorem at_out (m : Nat) (i : Int) (A : Option Addr) (ws : List Nat) (c : Nat) (w : World) (hV : Valid m ws) (hW : Words64 w w.heap.size A ws) (h : i < 0 ∨ (m : Int) ≤ i) :
    Calls Try.prog 22 #[.agg #[.int .i64 m, .slice A ws.length c], .int .i64 i] w fun e w' => e = .returned (.tuple #[.bool false, .int .i64 2]) ∧ Below w.heap.size w w' := by
  have HM := Lib.hid (fun W (h : Words64 W W.heap.size A ws) => may_yes m A ws c W hV h)
  have HW := Lib.hid hW
  clear hW hV
  have hh : i < 0 ∨ (¬ i < 0 ∧ (m : Int) ≤ i) := by omega
  clear h
  rcases hh with h0 | ⟨h0, h1⟩
  all_goals
    go_enter Try.func22, Try.ntmps22
    go_wp2_with (go_at_call 30; refine (HM.out _ (by exact HW.out.alloc _)).mono ?_; rintro e w1 ⟨rfl, hb1⟩; have hc1 := bcell hb1)
    go_ret2
    exact ⟨rfl, ((Below.refl _ _).alloc (Nat.le_refl _) _).trans (hb1.mono (by simp))⟩

set_option maxHeartbeats 400000 in
/-- bits.At: the bit. -/
theorem at_in (m i : Nat) (A : Option Addr) (ws : List Nat) (c : Nat) (w : World) (hV : Valid m ws) (hW : Words64 w w.heap.size A ws) (h : i < m) :
    Calls Try.prog 22 #[.agg #[.int .i64 m, .slice A ws.length c], .int .i64 i] w fun e w' => e = .returned (.tuple #[.bool (bit ws i), .int .i64 0]) ∧ Below w.heap.size w w' := by
  have HM := Lib.hid (fun W (h : Words64 W W.heap.size A ws) => may_yes m A ws c W hV h)
  have HW := Lib.hid hW
  have hl := hV.len
  have hm := hV.hi
  obtain ⟨b, o, x, rfl, hb, hx, hxl, hc⟩ := hW.at_ (k := i / 64) (by omega)
  have hbit : bit ws i = x.testBit (i % 64) := by unfold bit; simp [List.getD, hx]
  have hb1 := bit_one x (i % 64) hxl
  have hlen : i / 64 < ws.length := by omega
  rw [hbit]
  clear hW hV hl hx hbit
  go_enter Try.func22, Try.ntmps22
  go_wp2_with (go_at_call 30; refine (HM.out _ (by exact HW.out.alloc _)).mono ?_; rintro e w1 ⟨rfl, hb1⟩; have hc1 := bcell hb1)
  go_ret2
  exact ⟨rfl, ((Below.refl _ _).alloc (Nat.le_refl _) _).trans (hb1.mono (by simp))⟩

end Go.Proofs.Ytelcnkmgdohigaa
