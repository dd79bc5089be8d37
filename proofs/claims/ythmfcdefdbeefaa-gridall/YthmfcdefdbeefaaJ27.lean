/-
  damaskkeep.RectOf: its contract, walked over the translated text. No condition but what each theorem names.
-/
import Derived.Test.YthmfcdefdbeefaaJ02
import Derived.Test.YthmfcdefdbeefaaJ25
import Derived.Handy
namespace Go.Proofs.Ythmfcdefdbeefaa
open Go.RowKit

/-- The rectangle that four raw numbers stand for. -/
def rcOf (a b c d : Int) (bd : Nat) : Rc4 := ⟨(pick bd a : Int), (pick bd b : Int), (pick bd a : Int) + (pick (bd - pick bd a) c : Int), (pick bd b : Int) + (pick (bd - pick bd b) d : Int)⟩

theorem rcOf_lim (a b c d : Int) {bd : Nat} (h : 0 < bd) : (0 ≤ (rcOf a b c d bd).x0 ∧ (rcOf a b c d bd).x0 ≤ (rcOf a b c d bd).x1 ∧ (rcOf a b c d bd).x1 < bd) ∧ (0 ≤ (rcOf a b c d bd).y0 ∧ (rcOf a b c d bd).y0 ≤ (rcOf a b c d bd).y1 ∧ (rcOf a b c d bd).y1 < bd) := by
  have h1 := pick_lt h a
  have h2 := pick_lt h b
  have h3 := pick_lt (n := bd - pick bd a) (by omega) c
  have h4 := pick_lt (n := bd - pick bd b) (by omega) d
  unfold rcOf
  simp only
  omega
set_option maxHeartbeats 1000000 in
/-- damaskkeep.RectOf. -/
theorem rectOf_any (a b c d : Int) (bd : Nat) (w : World) (hp0 : 0 < bd) (hp : bd ≤ 1000000) (wa : (Lit.int .i64 a).wf = true) (wb : (Lit.int .i64 b).wf = true) (wc : (Lit.int .i64 c).wf = true) (wd : (Lit.int .i64 d).wf = true) :
    Calls Try.prog 23 #[.int .i64 a, .int .i64 b, .int .i64 c, .int .i64 d, .int .i64 bd] w fun e w' => e = .returned (.agg #[.int .i64 (rcOf a b c d bd).x0, .int .i64 (rcOf a b c d bd).y0, .int .i64 (rcOf a b c d bd).x1, .int .i64 (rcOf a b c d bd).y1]) ∧ Below w.heap.size w w' := by
  have h1 := pick_lt hp0 a
  have h2 := pick_lt hp0 b
  have HP1 := Lib.hid (fun W => pick_any a bd W hp0 (by omega) wa)
  have HP2 := Lib.hid (fun W => pick_any b bd W hp0 (by omega) wb)
  have h3 := pick_lt (n := bd - pick bd a) (by omega) c
  have h4 := pick_lt (n := bd - pick bd b) (by omega) d
  have HP3 := Lib.hid (fun W => pick_any c (bd - pick bd a) W (by omega) (by omega) wc)
  have HP4 := Lib.hid (fun W => pick_any d (bd - pick bd b) W (by omega) (by omega) wd)
  unfold rcOf
  generalize pick bd a = x at *
  generalize pick bd b = y at *
  obtain ⟨u, hu⟩ : ∃ u, bd - x = u := ⟨_, rfl⟩
  obtain ⟨v, hv⟩ : ∃ v, bd - y = v := ⟨_, rfl⟩
  rw [hu] at HP3 h3 ⊢
  rw [hv] at HP4 h4 ⊢
  generalize pick u c = p at *
  generalize pick v d = q at *
  have e1 : (bd : Int) - (x : Int) = (u : Int) := by omega
  have e2 : (bd : Int) - (y : Int) = (v : Int) := by omega
  have hub : u ≤ 1000000 := by omega
  have hvb : v ≤ 1000000 := by omega
  clear hu hv
  go_enter Try.func23, Try.ntmps23
  go_wp2_with fail
  refine (HP1.out _).mono ?_
  rintro e w' ⟨rfl, rfl⟩
  go_wp2_with fail
  refine (HP2.out _).mono ?_
  rintro e w' ⟨rfl, rfl⟩
  go_wp2_with fail
  refine (HP3.out _).mono ?_
  rintro e w' ⟨rfl, rfl⟩
  go_wp2_with fail
  refine (HP4.out _).mono ?_
  rintro e w' ⟨rfl, rfl⟩
  go_wp2_with fail
  go_returns
  exact ⟨rfl, bnew _ _⟩
end Go.Proofs.Ythmfcdefdbeefaa
