/-
  What the statements' comparisons of words and of bit vectors return where both are equal: contracts, walked over the translated text. No condition but what each theorem names.
-/
import Derived.Test.YtjgibbccjijpaaaPop
import Derived.Test.YtjgibbccjijpaaaRow
import Derived.Test.YtjgibbccjijpaaaMem
import Derived.Deep.QuietTactic
import Derived.BigQuiet
import Derived.IntWalk
namespace Go.Proofs.Ytjgibbccjijpaaa
open Go.RowKit Words

set_option maxHeartbeats 1000000 in
/-- damasklaw.sameWords of equal words. -/
theorem sameWords_eq (A A2 : Option Addr) (ws : List Nat) (c c2 : Nat) (w : World) (hn : ws.length ≤ 17592186044416) (h1 : Words64 w w.heap.size A ws) (h2 : Words64 w w.heap.size A2 ws) :
    Calls Try.prog 43 #[.slice A ws.length c, .slice A2 ws.length c2] w fun e w' => e = .returned (.bool true) ∧ Below w.heap.size w w' := by
  have H1 := Lib.hid h1
  have H2 := Lib.hid h2
  clear h1 h2
  generalize hk : ws.length = n at *
  have HN := Lib.hid hk
  clear hk
  have hne : ((n : Int) != (n : Int)) = false := by simp
  go_enter Try.func43, Try.ntmps43
  go_wp2
  go_loopw [5] (fun u w' => ∃ i d : Nat, i ≤ n ∧ u = .int .i64 i ∧ w' = w.drewN d) (fun u _ => n - (intOf u).toNat)
  case atStart => exact ⟨0, 0, Nat.zero_le _, rfl, rfl⟩
  case round =>
    obtain ⟨i, d, hi, rfl, rfl⟩ := hrel
    by_cases hlt : i < n
    · obtain ⟨b, o, x, rfl, hb, hx, hxl, hc⟩ := H1.out.at_ (k := i) (by rw [HN.out]; exact hlt)
      obtain ⟨b2, o2, x2, rfl, hb2, hx2, hxl2, hc2⟩ := H2.out.at_ (k := i) (by rw [HN.out]; exact hlt)
      rw [hx] at hx2
      obtain rfl := Option.some.inj hx2
      clear hx hx2
      have hxx : ((x : Int) != (x : Int)) = false := by simp
      go_wp2
      go_quiet (fail)
      go_wp2
      go_roundw
      case rel => exact ⟨i + 1, _, by omega, by go_num, by first | rfl | (simp only [World.drewN_drewN]; rfl)⟩
      case measure => simp [intOf]; omega
    · go_wp2
      go_ret
      exact ⟨rfl, bdN (Below.refl _ _) _⟩

set_option maxHeartbeats 1000000 in
/-- damasklaw.sameRow of equal vectors. -/
theorem sameRow_eq (m : Int) (A A2 : Option Addr) (ws : List Nat) (c c2 : Nat) (w : World) (hn : ws.length ≤ 17592186044416) (h1 : Words64 w w.heap.size A ws) (h2 : Words64 w w.heap.size A2 ws) :
    Calls Try.prog 16 #[.agg #[.int .i64 m, .slice A ws.length c], .agg #[.int .i64 m, .slice A2 ws.length c2]] w fun e w' => e = .returned (.bool true) ∧ Below w.heap.size w w' := by
  have HS := Lib.hid (fun W (h1 : Words64 W W.heap.size A ws) (h2 : Words64 W W.heap.size A2 ws) => sameWords_eq A A2 ws c c2 W hn h1 h2)
  have H1 := Lib.hid h1
  have H2 := Lib.hid h2
  clear h1 h2
  have hm : (m == m) = true := by simp
  go_enter Try.func16, Try.ntmps16
  go_wp2_with (go_at_call 43; refine (HS.out _ (by exact (H1.out.alloc _).alloc _) (by exact (H2.out.alloc _).alloc _)).mono ?_; rintro e w1 ⟨rfl, hb1⟩)
  go_ret
  exact ⟨rfl, chain (chain (bnew _ _) (bnew _ _)) hb1⟩

end Go.Proofs.Ytjgibbccjijpaaa
