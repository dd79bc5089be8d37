/-
  What pack.At returns: contracts, walked over the translated text. No condition but what each theorem names.
-/
import Derived.Test.YtmlekhgjnhnjlaaDoorPackRd
namespace Go.Proofs.YtmlekhgjnhnjlaaDoor
open Go.RowKit Words

theorem i64_nat {y : Nat} (h : y < 4611686018427387904) : IntKind.i64.wrap (y : Int) = (y : Int) := by rw [IntKind.wrap_i64]; omega

set_option maxHeartbeats 400000 in
/-- pack.get: the number of d bits from bit p on. -/
theorem pget_any (p d : Nat) (A : Option Addr) (ws : List Nat) (c : Nat) (w : World) (hd : d ≤ 62) (hp : p + d ≤ 64 * ws.length) (hl : ws.length ≤ 300) (hW : Words64 w w.heap.size A ws) :
    Calls Tryd.prog 50 #[.slice A ws.length c, .int .i64 p, .int .i64 d] w fun e w' => e = .returned (.int .u64 (packTo (fun k => bit ws (p + k)) d : Nat)) ∧ w = w' := by
  by_cases h0 : d = 0
  · subst h0
    go_enter Tryd.func50, Tryd.ntmps50
    go_wp2
    go_ret
    exact ⟨rfl, rfl⟩
  · obtain ⟨b, o, x, rfl, hb, hx, hxl, hc⟩ := hW.at_ (k := p / 64) (by omega)
    have hgx : ws.getD (p / 64) 0 = x := by simp [List.getD, hx]
    have hdz : ((d : Int) == 0) = false := by simpa using h0
    have hmask := mask_int d (by omega)
    have hdiv : ((x : Int) / 2 ^ (p % 64)) = ((x / 2 ^ (p % 64) : Nat) : Int) := by simp
    have hyl : x / 2 ^ (p % 64) < 18446744073709551616 := Nat.lt_of_le_of_lt (Nat.div_le_self _ _) hxl
    by_cases hs : p % 64 + d ≤ 64
    · have hnum := num_one ws d (p % 64) (p / 64) x hgx hs
      rw [show 64 * (p / 64) + p % 64 = p by omega] at hnum
      have hand := and_mask_int (x / 2 ^ (p % 64)) d hyl (by omega)
      rw [hnum] at hand
      have hlt : p / 64 < ws.length := by omega
      clear hnum hgx hx hW h0
      generalize packTo (fun k => bit ws (p + k)) d = z at *
      generalize x / 2 ^ (p % 64) = y at *
      generalize 2 ^ d - 1 = q at *
      generalize ws.length = m at *
      have hgt : decide (64 < ((p % 64 : Nat) : Int) + (d : Int)) = false := by simp; omega
      go_enter Tryd.func50, Tryd.ntmps50
      go_wp2
      go_ret
      exact ⟨rfl, rfl⟩
    · obtain ⟨b2, o2, x2, e2, hb2, hx2, hxl2, hc2⟩ := hW.at_ (k := p / 64 + 1) (by omega)
      simp only [Option.some.injEq, Addr.mk.injEq, and_true] at e2
      obtain ⟨rfl, rfl⟩ := e2
      have hgx2 : ws.getD (p / 64 + 1) 0 = x2 := by simp [List.getD, hx2]
      have hnum := num_two ws d (p % 64) (p / 64) x x2 hd hgx hgx2 hxl (by omega)
      rw [show 64 * (p / 64) + p % 64 = p by omega] at hnum
      have hshl : IntKind.u64.wrap ((x2 : Int) * 2 ^ (64 - p % 64)) = ((x2 * 2 ^ (64 - p % 64) % 2 ^ 64 : Nat) : Int) := by
        rw [IntKind.wrap_u64]
        simp
      have hzl : x2 * 2 ^ (64 - p % 64) % 2 ^ 64 < 18446744073709551616 := Nat.mod_lt _ (by decide)
      have hor := bits_or_u64_nat (x / 2 ^ (p % 64)) (x2 * 2 ^ (64 - p % 64) % 2 ^ 64) hyl hzl
      have hol : x / 2 ^ (p % 64) ||| x2 * 2 ^ (64 - p % 64) % 2 ^ 64 < 18446744073709551616 := Nat.or_lt_two_pow (n := 64) hyl hzl
      have hand := and_mask_int (x / 2 ^ (p % 64) ||| x2 * 2 ^ (64 - p % 64) % 2 ^ 64) d hol (by omega)
      rw [hnum] at hand
      have hlt : p / 64 + 1 < ws.length := by omega
      have hsub : (64 : Int) - ((p % 64 : Nat) : Int) = ((64 - p % 64 : Nat) : Int) := by omega
      clear hnum hgx hgx2 hx hx2 hW h0 hol
      generalize packTo (fun k => bit ws (p + k)) d = z at *
      generalize x / 2 ^ (p % 64) = y at *
      generalize hz' : x2 * 2 ^ (64 - p % 64) % 2 ^ 64 = y2 at *
      clear hz'
      generalize y ||| y2 = y3 at *
      generalize 2 ^ d - 1 = q at *
      generalize ws.length = m at *
      have hgt : decide (64 < ((p % 64 : Nat) : Int) + (d : Int)) = true := by simp; omega
      go_enter Tryd.func50, Tryd.ntmps50
      go_wp2
      go_ret
      exact ⟨rfl, rfl⟩

set_option maxHeartbeats 400000 in
/-- pack.At of what is not valid. -/
theorem pat_form (n d i : Int) (A : Option Addr) (ws : List Nat) (c : Nat) (w : World) (hV : ∀ m k : Nat, n = m → d = k → ¬ PValid m k ws) (hW : Words64 w w.heap.size A ws) :
    Calls Tryd.prog 38 #[.agg #[.int .i64 n, .int .i64 d, .slice A ws.length c], .int .i64 i] w fun e w' => e = .returned (.tuple #[.int .i64 0, .int .i64 4]) ∧ Below w.heap.size w w' := by
  have HM := Lib.hid (fun W (h : Words64 W W.heap.size A ws) => pmay_no n d A ws c W hV h)
  have HW := Lib.hid hW
  clear hW hV
  go_enter Tryd.func38, Tryd.ntmps38
  go_wp2_with (go_at_call 36; refine (HM.out _ (by exact HW.out.alloc _)).mono ?_; rintro e w1 ⟨rfl, hb1⟩)
  go_ret2
  exact ⟨rfl, chain (bnew _ _) hb1⟩

set_option maxHeartbeats 400000 in
/-- pack.At at a number that the array has not. -/
theorem pat_out (n d : Nat) (i : Int) (A : Option Addr) (ws : List Nat) (c : Nat) (w : World) (hV : PValid n d ws) (hW : Words64 w w.heap.size A ws) (h : i < 0 ∨ (n : Int) ≤ i) :
    Calls Tryd.prog 38 #[.agg #[.int .i64 n, .int .i64 d, .slice A ws.length c], .int .i64 i] w fun e w' => e = .returned (.tuple #[.int .i64 0, .int .i64 2]) ∧ Below w.heap.size w w' := by
  have HM := Lib.hid (fun W (h : Words64 W W.heap.size A ws) => pmay_yes n d A ws c W hV h)
  have HW := Lib.hid hW
  clear hW hV
  have hh : i < 0 ∨ (¬ i < 0 ∧ (n : Int) ≤ i) := by omega
  clear h
  rcases hh with h0 | ⟨h0, h1⟩
  all_goals
    go_enter Tryd.func38, Tryd.ntmps38
    go_wp2_with (go_at_call 36; refine (HM.out _ (by exact HW.out.alloc _)).mono ?_; rintro e w1 ⟨rfl, hb1⟩; have hc1 := bcell hb1)
    go_ret2
    exact ⟨rfl, chain (bnew _ _) hb1⟩

set_option maxHeartbeats 400000 in
/-- pack.At: the number. -/
theorem pat_in (n d i : Nat) (A : Option Addr) (ws : List Nat) (c : Nat) (w : World) (hV : PValid n d ws) (hW : Words64 w w.heap.size A ws) (h : i < n) :
    Calls Tryd.prog 38 #[.agg #[.int .i64 n, .int .i64 d, .slice A ws.length c], .int .i64 i] w fun e w' => e = .returned (.tuple #[.int .i64 (numAt ws d i : Nat), .int .i64 0]) ∧ Below w.heap.size w w' := by
  have HM := Lib.hid (fun W (h : Words64 W W.heap.size A ws) => pmay_yes n d A ws c W hV h)
  have HW := Lib.hid hW
  have hl := hV.len
  have hb := mul_bound hV.hi hV.wide
  have h1 : (i + 1) * d ≤ n * d := Nat.mul_le_mul_right d h
  rw [Nat.add_mul, Nat.one_mul] at h1
  have HG := Lib.hid (fun W (h : Words64 W W.heap.size A ws) => pget_any (i * d) d A ws c W hV.wide (by omega) (by omega) h)
  have hz : numAt ws d i < 4611686018427387904 := Nat.lt_of_lt_of_le (numAt_lt ws d i) (pow62 hV.wide)
  have hmul : (i : Int) * (d : Int) = ((i * d : Nat) : Int) := by simp
  have hn := hV.hi
  change Hid (∀ (W : World), Words64 W W.heap.size A ws → Calls Tryd.prog 50 #[.slice A ws.length c, .int .i64 (i * d : Nat), .int .i64 d] W fun e w' => e = .returned (.int .u64 (numAt ws d i : Nat)) ∧ W = w') at HG
  have hub : i * d ≤ 18600 := by omega
  clear hl hb h1 hV hW
  generalize numAt ws d i = z at *
  generalize i * d = u at *
  go_enter Tryd.func38, Tryd.ntmps38
  go_wp2_with (first
    | (go_at_call 36; refine (HM.out _ (by exact HW.out.alloc _)).mono ?_; rintro e w1 ⟨rfl, hb1⟩; have hc1 := bcell hb1)
    | (go_at_call 50; refine (HG.out _ (by exact (HW.out.alloc _).on hb1)).mono ?_; rintro e w2 ⟨rfl, rfl⟩))
  go_ret2
  exact ⟨rfl, chain (bnew _ _) hb1⟩
end Go.Proofs.YtmlekhgjnhnjlaaDoor
