/-
  What the statements' comparisons of lists of numbers return where both are equal: contracts, walked over the translated text. What the functions of package bits that only read return: contracts, walked over the translated text. A vector is '.agg #[.int .i64 n, .slice A ws.length c]', its words ws below 2^64 in memory. What bits.At and bits.Rank return: contracts, walked over the translated text. A vector is '.agg #[.int .i64 n, .slice A ws.length c]', its words ws below 2^64 in memory. No condition but what each theorem names.
-/
import Derived.Test.YtpkclmfadlkbeaaDoorJ02
import Derived.Test.YtpkclmfadlkbeaaDoorJ01
import Derived.Deep.QuietTactic
import Derived.BigQuiet
import Derived.IntWalk
namespace Go.Proofs.YtpkclmfadlkbeaaDoor
open Go.RowKit Words

/-- Numbers that are not negative, as int. -/
def asInts (l : List Nat) : List Int := l.map fun n : Nat => (n : Int)
theorem asInts_length (l : List Nat) : (asInts l).length = l.length := by simp [asInts]
theorem asInts_map (l : List Nat) : (l.map fun n : Nat => Value.int .i64 (n : Int)) = (asInts l).map (.int .i64) := by unfold asInts; rw [List.map_map]; rfl

set_option maxHeartbeats 1000000 in
/-- damasklaw.sameInts of equal lists. -/
theorem sameIntsL_drew (A A2 : Option Addr) (l : List Int) (c c2 : Nat) (w : World) (hn : l.length ≤ 17592186044416) (h1 : Lies w w.heap.size A (l.map (.int .i64))) (h2 : Lies w w.heap.size A2 (l.map (.int .i64))) :
    Calls Tryd.prog 7 #[.slice A l.length c, .slice A2 l.length c2] w fun e w' => e = .returned (.bool true) ∧ ∃ d, w' = w.drewN d := by
  have H1 := Lib.hid h1
  have H2 := Lib.hid h2
  clear h1 h2
  generalize hk : l.length = n at *
  have HN := Lib.hid hk
  clear hk
  have hne : ((n : Int) != (n : Int)) = false := by simp
  go_enter Tryd.func7, Tryd.ntmps7
  go_wp2
  go_loopw [5] (fun u w' => ∃ i d : Nat, i ≤ n ∧ u = .int .i64 i ∧ w' = w.drewN d) (fun u _ => n - (intOf u).toNat)
  case atStart => exact ⟨0, 0, Nat.zero_le _, rfl, rfl⟩
  case round =>
    obtain ⟨i, d, hi, rfl, rfl⟩ := hrel
    by_cases hlt : i < n
    · obtain ⟨b, o, x, rfl, hb, hx, hc⟩ := H1.out.at_ (k := i) (by rw [HN.out]; exact hlt)
      obtain ⟨b2, o2, x2, rfl, hb2, hx2, hc2⟩ := H2.out.at_ (k := i) (by rw [HN.out]; exact hlt)
      rw [hx] at hx2
      obtain rfl := Option.some.inj hx2
      clear hx hx2
      have hxx : (x != x) = false := by simp
      go_wp2
      go_quiet (fail)
      go_wp2
      go_roundw
      case rel => exact ⟨i + 1, _, by omega, by go_num, by first | rfl | (simp only [World.drewN_drewN]; rfl)⟩
      case measure => simp [intOf]; omega
    · go_wp2
      go_ret
      exact ⟨rfl, _, rfl⟩

/-- The same, as a call that makes memory at most. -/
theorem sameIntsL_eq (A A2 : Option Addr) (l : List Int) (c c2 : Nat) (w : World) (hn : l.length ≤ 17592186044416) (h1 : Lies w w.heap.size A (l.map (.int .i64))) (h2 : Lies w w.heap.size A2 (l.map (.int .i64))) :
    Calls Tryd.prog 7 #[.slice A l.length c, .slice A2 l.length c2] w fun e w' => e = .returned (.bool true) ∧ Below w.heap.size w w' :=
  (sameIntsL_drew A A2 l c c2 w hn h1 h2).mono fun _ _ ⟨he, d, hd⟩ => ⟨he, by rw [hd]; exact bdN (Below.refl _ _) d⟩

end Go.Proofs.YtpkclmfadlkbeaaDoor

namespace Go.Proofs.YtpkclmfadlkbeaaDoor
open Go.RowKit Words

/-- bits.wordsFor. -/
theorem wordsFor_any (n : Nat) (w : World) (hn : n ≤ 4096) :
    Calls Tryd.prog 75 #[.int .i64 n] w fun e w' => e = .returned (.int .i64 ((n + 63) / 64 : Nat)) ∧ w = w' := by
  go_enter Tryd.func75, Tryd.ntmps75
  go_wp2
  go_ret
  refine ⟨congrArg Ending.returned (congrArg (Value.int IntKind.i64) ?_), rfl⟩
  omega



end Go.Proofs.YtpkclmfadlkbeaaDoor

namespace Go.Proofs.YtpkclmfadlkbeaaDoor
open Go.RowKit Words


end Go.Proofs.YtpkclmfadlkbeaaDoor
