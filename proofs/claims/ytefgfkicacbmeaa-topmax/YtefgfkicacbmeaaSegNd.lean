/-
  What (change).then, (*node).apply, (*node).update return and leave: contracts, walked over the translated text. No condition but what each theorem names.
-/
import Derived.Test.YtefgfkicacbmeaaSegTree
import Derived.Test.YtefgfkicacbmeaaPop
import Derived.Deep.QuietTactic
import Derived.BigQuiet
import Derived.BigRegion
import Derived.Deep.RegionHeld3
import Derived.Deep.RegionWith
import Derived.IntWalk
namespace Go.Proofs.Ytefgfkicacbmeaa
open Go.RowKit Words

/-- The change behind a change. -/
def thenW (b : Int) (s2 : Bool) (b2 : Int) : Int := if s2 then b2 else wrap64 (b + b2)

/-- (change).then. -/
theorem then_any (s s2 : Bool) (b b2 : Int) (w : World) :
    Calls Try.prog 105 #[.agg #[.bool s, .int .i64 b], .agg #[.bool s2, .int .i64 b2]] w fun e w' => e = .returned (.agg #[.bool (thenS s s2), .int .i64 (thenW b s2 b2)]) ∧ Below w.heap.size w w' := by
  cases s2 with
  | true =>
    have e1 : thenS s true = true := rfl
    have e2 : thenW b true b2 = b2 := rfl
    rw [e1, e2]
    go_enter Try.func105, Try.ntmps105
    go_wp2_with fail
    exact bodyPost_ret (v := .agg #[.bool true, .int .i64 b2]) (by simp [results, Try.results105, go_sem]) rfl ⟨rfl, ((bnew w _).alloc (by simp) _).alloc (by simp; omega) _⟩
  | false =>
    have e1 : thenS s false = s := rfl
    have e2 : thenW b false b2 = wrap64 (b + b2) := rfl
    rw [e1, e2]
    go_enter Try.func105, Try.ntmps105
    go_wp2_with fail
    exact bodyPost_ret (v := .agg #[.bool s, .int .i64 (wrap64 (b + b2))]) (by simp [results, Try.results105, go_sem]) rfl ⟨rfl, ((bnew w _).alloc (by simp) _).alloc (by simp; omega) _⟩

theorem ofB {w : World} {g : Nat} {n le su : Int} {s : Bool} {b : Int} {p q : Option Addr} (h : Blk w g 121 (nodeC n le su s b p q)) :
    w.cell? ⟨g, 0, none⟩ = some (.int .i64 n) ∧ w.cell? ⟨g, 1, none⟩ = some (.int .i64 le) ∧ w.cell? ⟨g, 2, none⟩ = some (.int .i64 su) ∧ w.cell? ⟨g, 3, none⟩ = some (.bool s) ∧ w.cell? ⟨g, 4, none⟩ = some (.int .i64 b) ∧ w.cell? ⟨g, 5, none⟩ = some (.pointer p) ∧ w.cell? ⟨g, 6, none⟩ = some (.pointer q) :=
  ⟨h.cell 0, h.cell 1, h.cell 2, h.cell 3, h.cell 4, h.cell 5, h.cell 6⟩

set_option maxHeartbeats 1000000 in
/-- (*node).apply, of the node's block alone. -/
theorem apply_blk (g : Nat) (n le su : Int) (s : Bool) (b : Int) (p q : Option Addr) (s2 : Bool) (b2 : Int) (w : World) (hB : Blk w g 121 (nodeC n le su s b p q))
    (l0 : -4398046511104 ≤ le) (l1 : le ≤ 4398046511104) (s0 : -4503599627370496 ≤ su) (s1 : su ≤ 4503599627370496) (b0 : -4398046511104 ≤ b2) (b1 : b2 ≤ 4398046511104) (m0 : -4503599627370496 ≤ b2 * n) (m1 : b2 * n ≤ 4503599627370496) :
    Calls Try.prog 87 #[.pointer (some ⟨g, 0, none⟩), .agg #[.bool s2, .int .i64 b2]] w fun e w' => e = .returned (.tuple #[]) ∧ Blk w' g 121 (nodeC n ((if s2 then 0 else le) + b2) ((if s2 then 0 else su) + b2 * n) (thenS s s2) (thenW b s2 b2) p q) ∧ Keeps (Is g) w w' := by
  obtain ⟨c0, c1, c2, c3, c4, c5, c6⟩ := ofB hB
  have hz := hB.lt
  have hfz := hB.frozen
  have HB := Lib.hid hB
  clear hB
  have HT := Lib.hid (fun W => then_any s s2 b b2 W)
  generalize thenS s s2 = s' at *
  generalize thenW b s2 b2 = b' at *
  cases s2 with
  | true =>
    have e1 : (if true = true then (0 : Int) else le) + b2 = b2 := by simp
    have e2 : (if true = true then (0 : Int) else su) + b2 * n = b2 * n := by simp
    rw [e1, e2]
    clear e1 e2
    go_enter Try.func87, Try.ntmps87
    go_wp2_with fail
    go_region
    go_wp2_with fail
    go_region
    go_wp2_with fail
    have HB2 := Lib.hid (show Blk ((((((w.setCell ⟨g, 1, none⟩ (.int .i64 0)).setCell ⟨g, 2, none⟩ (.int .i64 0)).setCell ⟨g, 1, none⟩ (.int .i64 b2)).setCell ⟨g, 2, none⟩ (.int .i64 (b2 * n))).alloc (.cells #[.bool true, .int .i64 b2] 118)).drew.drew) g 121 (nodeC n b2 (b2 * n) s b p q) from ((((HB.out.put 1 _).put 2 _).put 1 _).put 2 _).alloc _)
    have HK2 := Lib.hid (show Keeps (Is g) w ((((((w.setCell ⟨g, 1, none⟩ (.int .i64 0)).setCell ⟨g, 2, none⟩ (.int .i64 0)).setCell ⟨g, 1, none⟩ (.int .i64 b2)).setCell ⟨g, 2, none⟩ (.int .i64 (b2 * n))).alloc (.cells #[.bool true, .int .i64 b2] 118)).drew.drew) from ((((((Keeps.refl (Is g) w).put1 _ _).put1 _ _).put1 _ _).put1 _ _).alloc _).drew.drew)
    have hsz : (((((w.setCell ⟨g, 1, none⟩ (.int .i64 0)).setCell ⟨g, 2, none⟩ (.int .i64 0)).setCell ⟨g, 1, none⟩ (.int .i64 b2)).setCell ⟨g, 2, none⟩ (.int .i64 (b2 * n)))).heap.size = w.heap.size := by simp only [World.size_setCell]
    have HN := Lib.hid (Blk.new (((((w.setCell ⟨g, 1, none⟩ (.int .i64 0)).setCell ⟨g, 2, none⟩ (.int .i64 0)).setCell ⟨g, 1, none⟩ (.int .i64 b2)).setCell ⟨g, 2, none⟩ (.int .i64 (b2 * n)))) 118 [.bool true, .int .i64 b2])
    rw [hsz] at HN
    have d0 : ((((((w.setCell ⟨g, 1, none⟩ (.int .i64 0)).setCell ⟨g, 2, none⟩ (.int .i64 0)).setCell ⟨g, 1, none⟩ (.int .i64 b2)).setCell ⟨g, 2, none⟩ (.int .i64 (b2 * n))).alloc (.cells #[.bool true, .int .i64 b2] 118)).drew.drew).cell? ⟨w.heap.size, 0, none⟩ = some (.bool true) := HN.out.cell 0
    have d1 : ((((((w.setCell ⟨g, 1, none⟩ (.int .i64 0)).setCell ⟨g, 2, none⟩ (.int .i64 0)).setCell ⟨g, 1, none⟩ (.int .i64 b2)).setCell ⟨g, 2, none⟩ (.int .i64 (b2 * n))).alloc (.cells #[.bool true, .int .i64 b2] 118)).drew.drew).cell? ⟨w.heap.size, 1, none⟩ = some (.int .i64 b2) := HN.out.cell 1
    have hz2 : w.heap.size < ((((((w.setCell ⟨g, 1, none⟩ (.int .i64 0)).setCell ⟨g, 2, none⟩ (.int .i64 0)).setCell ⟨g, 1, none⟩ (.int .i64 b2)).setCell ⟨g, 2, none⟩ (.int .i64 (b2 * n))).alloc (.cells #[.bool true, .int .i64 b2] 118)).drew.drew).heap.size := HN.out.lt
    clear HN hsz
    clear c0 c1 c2 c3 c4 c5 c6 hfz
    generalize ((((((w.setCell ⟨g, 1, none⟩ (.int .i64 0)).setCell ⟨g, 2, none⟩ (.int .i64 0)).setCell ⟨g, 1, none⟩ (.int .i64 b2)).setCell ⟨g, 2, none⟩ (.int .i64 (b2 * n))).alloc (.cells #[.bool true, .int .i64 b2] 118)).drew.drew) = W1 at *
    obtain ⟨c0, c1, c2, c3, c4, c5, c6⟩ := ofB HB2.out
    have hfz := HB2.out.frozen
    have hz3 : g < W1.heap.size := by omega
    go_region_with (go_at_call 105; refine (HT.out _).mono ?_; rintro e W2 ⟨rfl, hb2⟩; have hz4 : g < W2.heap.size := Nat.lt_of_lt_of_le hz3 hb2.size; obtain ⟨k0, k1, k2, k3, k4, k5, k6⟩ := ofB (HB2.out.drew.below hb2 hz3); have hfk := (HB2.out.drew.below hb2 hz3).frozen)
    all_goals
      go_wp2_with fail
      exact bodyPost_end (v := .tuple #[]) (by simp [results, Try.results87, go_sem]) rfl ⟨rfl, ((HB2.out.drew.below hb2 hz3).put 3 _).put 4 _, ((HK2.out.drew.trans (Keeps.ofBelow hb2)).put1 _ _).put1 _ _⟩
  | false =>
    have e1 : (if false = true then (0 : Int) else le) + b2 = le + b2 := by simp
    have e2 : (if false = true then (0 : Int) else su) + b2 * n = su + b2 * n := by simp
    rw [e1, e2]
    clear e1 e2
    go_enter Try.func87, Try.ntmps87
    go_wp2_with fail
    go_region
    go_wp2_with fail
    go_region
    go_wp2_with fail
    have HB2 := Lib.hid (show Blk ((((w.setCell ⟨g, 1, none⟩ (.int .i64 (le + b2))).setCell ⟨g, 2, none⟩ (.int .i64 (su + b2 * n))).alloc (.cells #[.bool false, .int .i64 b2] 118)).drew.drew) g 121 (nodeC n (le + b2) (su + b2 * n) s b p q) from ((HB.out.put 1 _).put 2 _).alloc _)
    have HK2 := Lib.hid (show Keeps (Is g) w ((((w.setCell ⟨g, 1, none⟩ (.int .i64 (le + b2))).setCell ⟨g, 2, none⟩ (.int .i64 (su + b2 * n))).alloc (.cells #[.bool false, .int .i64 b2] 118)).drew.drew) from ((((Keeps.refl (Is g) w).put1 _ _).put1 _ _).alloc _).drew.drew)
    have hsz : (((w.setCell ⟨g, 1, none⟩ (.int .i64 (le + b2))).setCell ⟨g, 2, none⟩ (.int .i64 (su + b2 * n)))).heap.size = w.heap.size := by simp only [World.size_setCell]
    have HN := Lib.hid (Blk.new (((w.setCell ⟨g, 1, none⟩ (.int .i64 (le + b2))).setCell ⟨g, 2, none⟩ (.int .i64 (su + b2 * n)))) 118 [.bool false, .int .i64 b2])
    rw [hsz] at HN
    have d0 : ((((w.setCell ⟨g, 1, none⟩ (.int .i64 (le + b2))).setCell ⟨g, 2, none⟩ (.int .i64 (su + b2 * n))).alloc (.cells #[.bool false, .int .i64 b2] 118)).drew.drew).cell? ⟨w.heap.size, 0, none⟩ = some (.bool false) := HN.out.cell 0
    have d1 : ((((w.setCell ⟨g, 1, none⟩ (.int .i64 (le + b2))).setCell ⟨g, 2, none⟩ (.int .i64 (su + b2 * n))).alloc (.cells #[.bool false, .int .i64 b2] 118)).drew.drew).cell? ⟨w.heap.size, 1, none⟩ = some (.int .i64 b2) := HN.out.cell 1
    have hz2 : w.heap.size < ((((w.setCell ⟨g, 1, none⟩ (.int .i64 (le + b2))).setCell ⟨g, 2, none⟩ (.int .i64 (su + b2 * n))).alloc (.cells #[.bool false, .int .i64 b2] 118)).drew.drew).heap.size := HN.out.lt
    clear HN hsz
    clear c0 c1 c2 c3 c4 c5 c6 hfz
    generalize ((((w.setCell ⟨g, 1, none⟩ (.int .i64 (le + b2))).setCell ⟨g, 2, none⟩ (.int .i64 (su + b2 * n))).alloc (.cells #[.bool false, .int .i64 b2] 118)).drew.drew) = W1 at *
    obtain ⟨c0, c1, c2, c3, c4, c5, c6⟩ := ofB HB2.out
    have hfz := HB2.out.frozen
    have hz3 : g < W1.heap.size := by omega
    go_region_with (go_at_call 105; refine (HT.out _).mono ?_; rintro e W2 ⟨rfl, hb2⟩; have hz4 : g < W2.heap.size := Nat.lt_of_lt_of_le hz3 hb2.size; obtain ⟨k0, k1, k2, k3, k4, k5, k6⟩ := ofB (HB2.out.drew.below hb2 hz3); have hfk := (HB2.out.drew.below hb2 hz3).frozen)
    all_goals
      go_wp2_with fail
      exact bodyPost_end (v := .tuple #[]) (by simp [results, Try.results87, go_sem]) rfl ⟨rfl, ((HB2.out.drew.below hb2 hz3).put 3 _).put 4 _, ((HK2.out.drew.trans (Keeps.ofBelow hb2)).put1 _ _).put1 _ _⟩
end Go.Proofs.Ytefgfkicacbmeaa
