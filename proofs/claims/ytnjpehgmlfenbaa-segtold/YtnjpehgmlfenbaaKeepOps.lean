/-
  damaskkeep.Ops: its contract, walked over the translated text. No condition but what each theorem names.
-/
import Derived.Test.YtnjpehgmlfenbaaFrameS
import Derived.Test.YtnjpehgmlfenbaaKeep3
import Derived.Deep.RegionLaw
import Derived.Deep.AppendLies
namespace Go.Proofs.Ytnjpehgmlfenbaa
open Go.RowKit Words

theorem op_info : (Try.prog.info? 39).map (fun i => (i.zero, i.size, i.bytes)) = some (some (.agg #[.int .i64 0, .int .i64 0, .int .i64 0, .int .i64 0]), 4, 32) := by kernel_rfl

/-- The operation on so many places that four raw numbers stand for. -/
def opOf (places : Nat) (x : Op9) : Op9 := ⟨1 + (pick 4 x.k : Int), pick places x.lo, (pick places x.lo : Int) + (pick (places - pick places x.lo) x.hi : Int), (pick 2001 x.by_ : Int) - 1000⟩
/-- At most n of them. -/
def opsOf (n places : Nat) (l : List Op9) : List Op9 := (l.take n).map (opOf places)
theorem opsOf_length (n places : Nat) (l : List Op9) : (opsOf n places l).length = min n l.length := by unfold opsOf; rw [List.length_map, List.length_take]
theorem opsOf_step {j places : Nat} {l : List Op9} {x : Op9} (h : l[j]? = some x) : opsC (opsOf (j + 1) places l) = opsC (opsOf j places l) ++ (opOf places x).cells := by
  unfold opsOf
  rw [List.take_add_one, h, List.map_append, opsC_append]
  show _ ++ opsC [opOf places x] = _
  unfold opsC opsC
  rw [List.append_nil]
theorem opsOf_all {n places : Nat} {l : List Op9} (h : l.length ≤ n) : opsOf n places l = opsOf l.length places l := by
  unfold opsOf
  rw [List.take_of_length_le h, List.take_of_length_le (Nat.le_refl _)]

/-- What Ops returns: a row of operations, its caller's own. -/
def GivesOps (w : World) (os : List Op9) (e : Ending) (w' : World) : Prop := ∃ v, e = .returned v ∧ w'.ownsRow w.heap.size 39 4 v os.length (opsC os) ∧ Below w.heap.size w w'

theorem four_one (a b c d : Int) : ∀ u ∈ ([Value.int .i64 a, .int .i64 b, .int .i64 c, .int .i64 d] : List Value), u.oneCell' = true := by
  intro u hu
  simp only [List.mem_cons, List.not_mem_nil, or_false] at hu
  rcases hu with rfl | rfl | rfl | rfl <;> rfl

theorem new_four (w : World) (t : TypeId) (n : Nat) (hn : w.heap.size = n) (a b c d : Value) : ∀ j u, ([a, b, c, d] : List Value)[j]? = some u → (w.alloc (.cells #[a, b, c, d] t)).cell? ((⟨n, 0, none⟩ : Addr).add j) = some u := by
  subst hn
  intro j u h
  rw [← h, Addr.add_lit, Nat.zero_add]
  exact (Blk.new w t [a, b, c, d]).cell j

set_option maxHeartbeats 4000000 in
/-- damaskkeep.Ops. -/
theorem ops_any (A : Option Addr) (l : List Op9) (c n places : Nat) (w : World) (hn : n ≤ 100) (hp0 : 0 < places) (hp : places ≤ 1000) (hw : ∀ o ∈ l, o.Fits) (hL : Lies w w.heap.size A (opsC l)) :
    Calls Try.prog 11 #[.slice A l.length c, .int .i64 n, .int .i64 places] w (GivesOps w (opsOf n places l)) := by
  have HL := Lib.hid hL
  have HW := Lib.hid hw
  obtain ⟨i0, hi0, hz0, hz1, hz2⟩ := info_parts op_info
  have Hi0 := Lib.hid hi0
  have Hz0 := Lib.hid hz0
  have Hz1 := Lib.hid hz1
  have Hz2 := Lib.hid hz2
  clear hi0 hz0 hz1 hz2 hL hw
  go_enter Try.func11, Try.ntmps11
  go_wp2_with fail
  go_loopw [7, 8] (fun v a w' => ∃ j : Nat, j ≤ l.length ∧ j ≤ n ∧ a = .int .i64 j ∧ w'.ownsRow w.heap.size 39 4 v j (opsC (opsOf j places l)) ∧ Below w.heap.size w w') (fun _ a _ => n - (intOf a).toNat)
  case atStart => exact ⟨0, Nat.zero_le _, Nat.zero_le _, rfl, World.ownsRow_nil _ _ _ _, Below.refl _ _⟩
  case round =>
    obtain ⟨j, hj1, hj2, rfl, hown, hbl⟩ := hrel
    by_cases hlt : j < l.length
    · by_cases hlt2 : j < n
      · have hget : l[j]? = some l[j] := List.getElem?_eq_getElem hlt
        generalize l[j] = x at *
        obtain ⟨b, o, rfl, hb, q0, q1, q2, q3⟩ := ops_at (HL.out.on hbl) hget
        obtain ⟨f0, f1, f2, f3⟩ := HW.out x (List.mem_of_getElem? hget)
        have HX := Lib.hid (opsOf_step (places := places) hget)
        have hlo := pick_lt hp0 x.lo
        have HP0 := Lib.hid (fun W => pick_any x.lo places W hp0 (by omega) f1)
        have HP1 : Hid (∀ W, Calls Try.prog 13 #[.int .i64 x.k, .int .i64 4] W fun e w' => e = .returned (.int .i64 (pick 4 x.k : Nat)) ∧ W = w') := Lib.hid (fun W => pick_any x.k 4 W (by decide) (by decide) f0)
        have HP2 := Lib.hid (fun W => pick_any x.hi (places - pick places x.lo) W (by omega) (by omega) f2)
        have HP3 : Hid (∀ W, Calls Try.prog 13 #[.int .i64 x.by_, .int .i64 2001] W fun e w' => e = .returned (.int .i64 (pick 2001 x.by_ : Nat)) ∧ W = w') := Lib.hid (fun W => pick_any x.by_ 2001 W (by decide) (by decide) f3)
        have h1 := pick_lt (n := 4) (by decide) x.k
        have h2 := pick_lt (n := places - pick places x.lo) (by omega) x.hi
        have h3 := pick_lt (n := 2001) (by decide) x.by_
        have HOp : Hid ((opOf places x).cells = [.int .i64 (1 + (pick 4 x.k : Int)), .int .i64 (pick places x.lo : Int), .int .i64 ((pick places x.lo : Int) + (pick (places - pick places x.lo) x.hi : Int)), .int .i64 ((pick 2001 x.by_ : Int) - 1000)]) := Lib.hid rfl
        rw [HOp.out] at HX
        clear HOp hget f0 f1 f2 f3
        generalize pick 4 x.k = p1 at *
        generalize pick 2001 x.by_ = p3 at *
        generalize pick places x.lo = lo at *
        generalize hq : places - lo = q at *
        generalize pick q x.hi = p2 at *
        have hw2 : IntKind.i64.wrap ((places : Int) - (lo : Int)) = (q : Int) := by rw [IntWalk.i64_in _ (by omega)]; omega
        have hw1 : IntKind.i64.wrap (1 + (p1 : Int)) = 1 + (p1 : Int) := IntWalk.i64_in _ (by omega)
        have hw3 : IntKind.i64.wrap ((lo : Int) + (p2 : Int)) = (lo : Int) + (p2 : Int) := IntWalk.i64_in _ (by omega)
        have hw4 : IntKind.i64.wrap ((p3 : Int) - 1000) = (p3 : Int) - 1000 := IntWalk.i64_in _ (by omega)
        have hjI : (j : Int) < (l.length : Int) := by omega
        have hjn : (j : Int) < (n : Int) := by omega
        have hsz := hbl.size
        have hjl : j * 4 ≤ 400 := by omega
        clear hq
        go_wp2_with fail
        refine (HP0.out _).mono ?_
        rintro e w1 ⟨rfl, rfl⟩
        go_wp2_with fail
        go_region_law (first
          | ((refine step_append_lies _ (by rfl) _ _ _ (by rfl) w.heap.size 39 i0 _ 4 32 Try.underlying23 Hi0.out Hz0.out Hz1.out Hz2.out rfl (by omega) u7 j _ (by rfl) (by exact hown.alloc _) ⟨wr.heap.size, 0, none⟩ 1 1 [.int .i64 (1 + (p1 : Int)), .int .i64 (lo : Int), .int .i64 ((lo : Int) + (p2 : Int)), .int .i64 ((p3 : Int) - 1000)] (by rfl) (by rfl) (new_four _ _ _ rfl _ _ _ _) (four_one _ _ _ _) (by omega) (by simp only [maxLen]; omega) (by omega) (by simp; omega) (wr.heap.size + 1) (by simp) ?_; intro gg cap w2 hown2 hgrow hat hlt2))
          | (go_simp; go_at_call_of 13 (Value.int IntKind.i64 4); (with_reducible refine (HP1.out _).mono ?_); rintro e w' ⟨rfl, rfl⟩)
          | (go_simp; go_at_call_of 13 (Value.int IntKind.i64 2001); (with_reducible refine (HP3.out _).mono ?_); rintro e w' ⟨rfl, rfl⟩)
          | (go_simp; go_at_call_of 13 (Value.int IntKind.i64 x.hi); (with_reducible refine (HP2.out _).mono ?_); rintro e w' ⟨rfl, rfl⟩))
        all_goals
          clear hw1 hw2 hw3 hw4 HP0 HP1 HP2 HP3 q0 q1 q2 q3
          go_wp2_with fail
          go_roundw
          case rel =>
            refine ⟨j + 1, by omega, by omega, by go_num, by rw [HX.out]; exact hown2, ?_⟩
            exact Below.grown ((hbl.drew).alloc (by show w.heap.size ≤ wr.heap.size; omega) _) hgrow (by simp; omega) (fun q hq => (hown.lt q hq).1)
          case measure => simp [intOf]; omega
      · obtain rfl : n = j := by omega
        have HO := Lib.hid hown
        clear hown
        go_wp2_with fail
        go_ret
        refine ⟨_, rfl, ?_, hbl⟩
        rw [opsOf_length, Nat.min_eq_left hj1]
        exact HO.out
    · obtain rfl : l.length = j := by omega
      have HO := Lib.hid hown
      clear hown
      go_wp2_with fail
      go_ret
      refine ⟨_, rfl, ?_, hbl⟩
      rw [opsOf_length, Nat.min_eq_right hj2, opsOf_all hj2]
      exact HO.out
end Go.Proofs.Ytnjpehgmlfenbaa
