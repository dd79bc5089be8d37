/-
  damaskkeep.Points, RectOf, and a copy of points: contracts, walked over the translated text. No condition but what each theorem names.
-/
import Derived.Test.YtpkclmfadlkbeaaJ09
import Derived.Test.YtpkclmfadlkbeaaJ24
import Derived.Deep.RegionLaw
import Derived.Deep.AppendLies
namespace Go.Proofs.Ytpkclmfadlkbeaa
open Go.RowKit

theorem pt_info : (Try.prog.info? 30).map (fun i => (i.zero, i.size, i.bytes)) = some (some (.agg #[.int .i64 0, .int .i64 0, .int .i64 0]), 3, 24) := by kernel_rfl

/-- The point that three raw numbers stand for. -/
def ptOf (b : Nat) (x : Pt3) : Pt3 := ⟨(pick b x.x : Int), (pick b x.y : Int), (pick 20 x.w : Int)⟩
/-- At most n of them. -/
def ptsOf (n b : Nat) (l : List Pt3) : List Pt3 := (l.take n).map (ptOf b)
theorem ptsOf_length (n b : Nat) (l : List Pt3) : (ptsOf n b l).length = min n l.length := by unfold ptsOf; rw [List.length_map, List.length_take]
theorem ptsOf_le (n b : Nat) (l : List Pt3) : (ptsOf n b l).length ≤ n := by rw [ptsOf_length]; omega
theorem ptsOf_step {j b : Nat} {l : List Pt3} {x : Pt3} (h : l[j]? = some x) : ptC (ptsOf (j + 1) b l) = ptC (ptsOf j b l) ++ (ptOf b x).cells := by
  unfold ptsOf
  rw [List.take_add_one, h, List.map_append, ptC_append]
  show _ ++ ptC [ptOf b x] = _
  unfold ptC ptC
  rw [List.append_nil]
theorem ptsOf_all {n b : Nat} {l : List Pt3} (h : l.length ≤ n) : ptsOf n b l = ptsOf l.length b l := by
  unfold ptsOf
  rw [List.take_of_length_le h, List.take_of_length_le (Nat.le_refl _)]
theorem ptsOf_lim {n b : Nat} (hb : 0 < b) (l : List Pt3) : ∀ p ∈ ptsOf n b l, (0 ≤ p.x ∧ p.x < b) ∧ (0 ≤ p.y ∧ p.y < b) ∧ (0 ≤ p.w ∧ p.w < 20) := fun p hp => by
  unfold ptsOf at hp
  obtain ⟨x, _, rfl⟩ := List.mem_map.1 hp
  have h1 := pick_lt hb x.x
  have h2 := pick_lt hb x.y
  have h3 := pick_lt (n := 20) (by decide) x.w
  unfold ptOf
  refine ⟨⟨by show (0 : Int) ≤ (pick b x.x : Int); omega, by show (pick b x.x : Int) < b; omega⟩, ⟨by show (0 : Int) ≤ (pick b x.y : Int); omega, by show (pick b x.y : Int) < b; omega⟩, ⟨by show (0 : Int) ≤ (pick 20 x.w : Int); omega, by show (pick 20 x.w : Int) < 20; omega⟩⟩

/-- A row of points, its caller's own. -/
def GivesPts (w : World) (os : List Pt3) (e : Ending) (w' : World) : Prop := ∃ v, e = .returned v ∧ w'.ownsRow w.heap.size 30 3 v os.length (ptC os) ∧ Below w.heap.size w w'

theorem three_one (a b c : Int) : ∀ u ∈ ([Value.int .i64 a, .int .i64 b, .int .i64 c] : List Value), u.oneCell' = true := by
  intro u hu
  simp only [List.mem_cons, List.not_mem_nil, or_false] at hu
  rcases hu with rfl | rfl | rfl <;> rfl
theorem new_three (w : World) (t : TypeId) (n : Nat) (hn : w.heap.size = n) (a b c : Value) : ∀ j u, ([a, b, c] : List Value)[j]? = some u → (w.alloc (.cells #[a, b, c] t)).cell? ((⟨n, 0, none⟩ : Addr).add j) = some u := by
  subst hn
  intro j u h
  rw [← h, Addr.add_lit, Nat.zero_add]
  exact (Blk.new w t [a, b, c]).cell j

set_option maxRecDepth 100000 in
set_option maxHeartbeats 4000000 in
/-- damaskkeep.Points. -/
theorem points_any (A : Option Addr) (l : List Pt3) (c n bd : Nat) (w : World) (hn : n ≤ 100) (hp0 : 0 < bd) (hp : bd ≤ 1000000) (hw : ∀ o ∈ l, o.Fits) (hL : Lies w w.heap.size A (ptC l)) :
    Calls Try.prog 10 #[.slice A l.length c, .int .i64 n, .int .i64 bd] w (GivesPts w (ptsOf n bd l)) := by
  have HL := Lib.hid hL
  have HW := Lib.hid hw
  obtain ⟨i0, hi0, hz0, hz1, hz2⟩ := info_parts pt_info
  have Hi0 := Lib.hid hi0
  have Hz0 := Lib.hid hz0
  have Hz1 := Lib.hid hz1
  have Hz2 := Lib.hid hz2
  clear hi0 hz0 hz1 hz2 hL hw
  go_enter Try.func10, Try.ntmps10
  go_wp2_with fail
  go_loopw [7, 8] (fun v a w' => ∃ j : Nat, j ≤ l.length ∧ j ≤ n ∧ a = .int .i64 j ∧ w'.ownsRow w.heap.size 30 3 v j (ptC (ptsOf j bd l)) ∧ Below w.heap.size w w') (fun _ a _ => n - (intOf a).toNat)
  case atStart => exact ⟨0, Nat.zero_le _, Nat.zero_le _, rfl, World.ownsRow_nil _ _ _ _, Below.refl _ _⟩
  case round =>
    obtain ⟨j, hj1, hj2, rfl, hown, hbl⟩ := hrel
    by_cases hlt : j < l.length
    · by_cases hlt2 : j < n
      · have hget : l[j]? = some l[j] := List.getElem?_eq_getElem hlt
        generalize l[j] = x at *
        obtain ⟨b, o, rfl, hb, q0, q1, q2⟩ := pts_at (HL.out.on hbl) hget
        obtain ⟨f0, f1, f2⟩ := HW.out x (List.mem_of_getElem? hget)
        have HX := Lib.hid (ptsOf_step (b := bd) hget)
        have HP0 := Lib.hid (fun W => pick_any x.x bd W hp0 (by omega) f0)
        have HP1 := Lib.hid (fun W => pick_any x.y bd W hp0 (by omega) f1)
        have HP2 : Hid (∀ W, Calls Try.prog 14 #[.int .i64 x.w, .int .i64 20] W fun e w' => e = .returned (.int .i64 (pick 20 x.w : Nat)) ∧ W = w') := Lib.hid (fun W => pick_any x.w 20 W (by decide) (by decide) f2)
        have h1 := pick_lt hp0 x.x
        have h2 := pick_lt hp0 x.y
        have h3 := pick_lt (n := 20) (by decide) x.w
        have HOp : Hid ((ptOf bd x).cells = [.int .i64 (pick bd x.x : Int), .int .i64 (pick bd x.y : Int), .int .i64 (pick 20 x.w : Int)]) := Lib.hid rfl
        rw [HOp.out] at HX
        clear HOp hget f0 f1 f2
        generalize pick bd x.x = p1 at *
        generalize pick bd x.y = p2 at *
        generalize pick 20 x.w = p3 at *
        have hjI : (j : Int) < (l.length : Int) := by omega
        have hjn : (j : Int) < (n : Int) := by omega
        have hsz := hbl.size
        have hjl : j * 3 ≤ 300 := by omega
        go_wp2_with fail
        go_region_law (first
          | ((refine step_append_lies _ (by rfl) _ _ _ (by rfl) w.heap.size 30 i0 _ 3 24 Try.underlying22 Hi0.out Hz0.out Hz1.out Hz2.out rfl (by omega) u7 j _ (by rfl) (by exact hown.alloc _) ⟨wr.heap.size, 0, none⟩ 1 1 [.int .i64 (p1 : Int), .int .i64 (p2 : Int), .int .i64 (p3 : Int)] (by rfl) (by rfl) (new_three _ _ _ rfl _ _ _) (three_one _ _ _) (by omega) (by simp only [maxLen]; omega) (by omega) (by simp; omega) (wr.heap.size + 1) (by simp) ?_; intro gg cap w2 hown2 hgrow hat hlt2))
          | (go_simp; go_at_call_of 14 (Value.int IntKind.i64 x.x); (with_reducible refine (HP0.out _).mono ?_); rintro e w' ⟨rfl, rfl⟩)
          | (go_simp; go_at_call_of 14 (Value.int IntKind.i64 x.y); (with_reducible refine (HP1.out _).mono ?_); rintro e w' ⟨rfl, rfl⟩)
          | (go_simp; go_at_call_of 14 (Value.int IntKind.i64 x.w); (with_reducible refine (HP2.out _).mono ?_); rintro e w' ⟨rfl, rfl⟩))
        all_goals
          clear HP0 HP1 HP2 q0 q1 q2
          go_wp2_with fail
          go_roundw
          case rel =>
            refine ⟨j + 1, by omega, by omega, by go_num, by rw [HX.out]; exact hown2, ?_⟩
            exact Below.grown ((hbl.drew).alloc (by show w.heap.size ≤ wr.heap.size; omega) _) hgrow (by simp; omega) (fun q hq => (hown.lt q hq).1)
          case measure => simp [intOf]; omega
      · obtain rfl : n = j := by omega
        have HO := Lib.hid hown
        clear hown
        go_wp2_with fail
        go_ret
        refine ⟨_, rfl, ?_, hbl⟩
        rw [ptsOf_length, Nat.min_eq_left hj1]
        exact HO.out
    · obtain rfl : l.length = j := by omega
      have HO := Lib.hid hown
      clear hown
      go_wp2_with fail
      go_ret
      refine ⟨_, rfl, ?_, hbl⟩
      rw [ptsOf_length, Nat.min_eq_right hj2, ptsOf_all hj2]
      exact HO.out
end Go.Proofs.Ytpkclmfadlkbeaa
