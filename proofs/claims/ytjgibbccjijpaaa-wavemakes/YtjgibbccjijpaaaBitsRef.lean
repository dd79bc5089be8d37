/-
  What the document's answers to package bits return: contracts, walked over the translated text. No condition but what each theorem names.
-/
import Derived.Test.YtjgibbccjijpaaaBitsAt
namespace Go.Proofs.Ytjgibbccjijpaaa
open Go.RowKit Words

theorem bool_info : (Try.prog.info? 4).map (fun i => (i.zero, i.size, i.bytes)) = some (some (.bool false), 1, 1) := by kernel_rfl

set_option maxHeartbeats 1000000 in
/-- The document's bits, one by one. -/
theorem bools_any (m : Nat) (A : Option Addr) (ws : List Nat) (c : Nat) (w : World) (hV : Valid m ws) (hW : Words64 w w.heap.size A ws) :
    Calls Try.prog 77 #[.agg #[.int .i64 m, .slice A ws.length c]] w (GivesSlice w ((List.range m).map fun i => .bool (bit ws i))) := by
  have HW := Lib.hid hW
  have hm := hV.hi
  have hl := hV.len
  have hlo : m ≤ 64 * ws.length := by omega
  clear hW hV hl
  generalize hk : ws.length = k at *
  have HK := Lib.hid hk
  clear hk
  go_enter Try.func77, Try.ntmps77
  go_wp2
  go_loopw [3, 4] (fun v i w' => ∃ j : Nat, j ≤ m ∧ i = .int .i64 j ∧ w'.ownsRow (w.heap.size + 1) 4 1 v j ((List.range j).map fun i => .bool (bit ws i)) ∧ Below (w.heap.size + 1) (w.alloc (.cells #[.int .i64 m, .slice A k c] 32)) w') (fun _ i _ => m - (intOf i).toNat)
  case atStart => exact ⟨0, Nat.zero_le _, rfl, World.ownsRow_nil _ _ _ _, Below.refl _ _⟩
  case round =>
    obtain ⟨j, hj, rfl, hown, hbl⟩ := hrel
    have hc1 := bcell hbl
    by_cases hlt : j < m
    · obtain ⟨b, o, x, rfl, hb, hx, hxl, hc⟩ := HW.out.at_ (k := j / 64) (by rw [HK.out]; omega)
      have hbo := Lib.hid (bitOf_any x (j % 64) · hxl (by omega))
      have hbit : bit ws j = x.testBit (j % 64) := by unfold bit; simp [List.getD, hx]
      have HX := Lib.hid hbit
      have hsz : w.heap.size + 1 ≤ wr.heap.size := by simpa using hbl.size
      clear hx hbit
      go_wp2_with (first
        | (go_at_call 74; refine (hbo.out _).mono ?_; rintro e w' ⟨rfl, rfl⟩)
        | (at_builtin; go_loud (refine append_one _ rfl (.tmp 11) (.tmp 21) 68 rfl (w.heap.size + 1) 4 (.bool false) 1 Try.underlying68 bool_info rfl u3 j _ rfl (hown.alloc _) wr.heap.size 1 (.bool (x.testBit (j % 64))) rfl (by simp) rfl (by simp only [maxLen]; omega) (by omega) (by simp; omega) ?_)))
      intro v1 w2 hown1 hg1
      go_wp2
      go_roundw
      case rel => exact ⟨j + 1, by omega, by go_num, by rw [List.range_succ, List.map_append, List.map_cons, List.map_nil, HX.out]; exact hown1, (hbl.alloc hsz _).grown hg1 (by simp; omega) (fun q hq => (hown.lt q hq).1)⟩
      case measure => simp [intOf]; omega
    · obtain rfl : m = j := by omega
      obtain ⟨A', c', rfl, hle, hlen, hlies, hnone, hnew⟩ := own_slice hown
      go_wp2
      go_ret
      exact ⟨A', c', by rw [hlen]; rfl, by rw [hlen]; exact hle, hlies, hnone, hnew.mono (by omega), ((Below.refl _ _).alloc (Nat.le_refl _) _).trans (hbl.mono (by omega))⟩


end Go.Proofs.Ytjgibbccjijpaaa
