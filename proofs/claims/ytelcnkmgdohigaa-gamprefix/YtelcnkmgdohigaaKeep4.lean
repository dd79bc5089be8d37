/-
  The small functions of the fourth chapter's statements: contracts, walked over the translated text. No condition but what each theorem names.
-/
import Derived.Test.YtelcnkmgdohigaaKeep3
import Derived.Deep.RegionLaw
import Derived.Deep.AppendLies
import Derived.Deep.RegionWith
namespace Go.Proofs.Ytelcnkmgdohigaa
open Go.RowKit Words

/-- damaskkeep.kindOf. -/
theorem kindOf_any (a : Int) (w : World) (ha : (Lit.int .i64 a).wf = true) : Calls Try.prog 17 #[.int .i64 a] w fun e w' => e = .returned (.int .i64 (1 + pick 2 a : Nat)) ∧ w = w' := by
  have hlt := pick_lt (n := 2) (by decide) a
  have HP := Lib.hid (pick_any a 2 · (by decide) (by decide) ha)
  generalize pick 2 a = y at *
  go_enter Try.func17, Try.ntmps17
  go_wp2_with fail
  refine (HP.out _).mono ?_
  rintro e w' ⟨rfl, rfl⟩
  go_wp2
  go_ret
  exact ⟨by go_num, rfl⟩

/-- The bound below which a raw number is brought. -/
def codN (x : Int) : Nat := match pick 4 (x.tdiv 5) with | 0 => 3 | 1 => 40 | 2 => 1000 | _ => 1048576
/-- The number that has a code, for a raw number. -/
def codOf (x : Int) : Nat := 1 + pick (codN x) x
def codList (k : Nat) (l : List Int) : List Nat := (l.take k).map codOf

theorem codN_pos (x : Int) : 0 < codN x ∧ codN x ≤ 1048576 := by
  unfold codN
  split <;> decide
theorem codOf_code (x : Int) : 1 ≤ codOf x ∧ codOf x ≤ 1048576 := by
  obtain ⟨h0, h1⟩ := codN_pos x
  have := pick_lt h0 x
  unfold codOf
  omega
theorem codList_code (k : Nat) (l : List Int) : ∀ n ∈ codList k l, 1 ≤ n ∧ n ≤ 1048576 := by
  intro n hn
  obtain ⟨x, _, rfl⟩ := List.mem_map.1 hn
  exact codOf_code x
theorem codList_length (k : Nat) (l : List Int) : (codList k l).length ≤ k := by simp [codList]; omega

theorem wf_tdiv (x : Int) (h : (Lit.int .i64 x).wf = true) : (Lit.int .i64 (x.tdiv 5)).wf = true := by
  have hb := bounds_i64 h
  simp [Lit.wf, IntKind.min, IntKind.max, IntKind.signed, IntKind.bits]
  rcases Int.lt_or_le x 0 with h0 | h0
  · have e : x.tdiv 5 = -((-x) / 5) := by
      have := Int.neg_tdiv (a := -x) (b := 5)
      rw [Int.neg_neg] at this
      rw [this, Int.tdiv_eq_ediv_of_nonneg (by omega)]
    omega
  · rw [Int.tdiv_eq_ediv_of_nonneg h0]
    omega

theorem wrap_tdiv (x : Int) (h : (Lit.int .i64 x).wf = true) : IntKind.i64.wrap (x.tdiv 5) = x.tdiv 5 := by
  have hb := bounds_i64 (wf_tdiv x h)
  exact IntWalk.i64_in _ (by omega)

set_option maxHeartbeats 8000000 in
/-- damaskkeep.Codable. -/
theorem codable_keep (A : Option Addr) (l : List Int) (c k : Nat) (w : World) (hk : k ≤ 4096) (hw : ∀ z ∈ l, (Lit.int .i64 z).wf = true) (hL : Lies w w.heap.size A (l.map (.int .i64))) :
    Calls Try.prog 18 #[.slice A l.length c, .int .i64 k] w (GivesSlice w ((codList k l).map fun n : Nat => .int .i64 (n : Int))) := by
  obtain ⟨i0, hi0, hz0, hz1, hz2⟩ := info_parts int_info
  have HL := Lib.hid hL
  have HWF := Lib.hid hw
  clear hL hw
  generalize hm : l.length = m at *
  have HM := Lib.hid hm
  have Hi0 := Lib.hid hi0
  have Hz0 := Lib.hid hz0
  have Hz1 := Lib.hid hz1
  have Hz2 := Lib.hid hz2
  clear hm hi0 hz0 hz1 hz2
  go_enter Try.func18, Try.ntmps18
  go_wp2
  go_loopw [5, 6] (fun v i w' => ∃ j : Nat, j ≤ min m k ∧ i = .int .i64 j ∧ w'.ownsRow w.heap.size 3 1 v j ((codList j l).map fun n : Nat => .int .i64 (n : Int)) ∧ Below w.heap.size w w') (fun _ i _ => m - (intOf i).toNat)
  case atStart => exact ⟨0, Nat.zero_le _, rfl, World.ownsRow_nil _ _ _ _, Below.refl _ _⟩
  case round =>
    obtain ⟨j, hj, rfl, hown, hbl⟩ := hrel
    have hjm : j ≤ m := by omega
    have hjk : j ≤ k := by omega
    clear hj
    by_cases hlt : j < m
    · by_cases hlk : j < k
      · obtain ⟨b, o, x, rfl, hb, hx, hc0⟩ := HL.out.at_ (k := j) (by rw [HM.out]; exact hlt)
        have hc : wr.cell? ⟨b, o + j, none⟩ = some (.int .i64 x) := (bcell hbl b (o + j) hb).trans hc0
        have hwx := HWF.out x (List.mem_of_getElem? hx)
        have HX := Lib.hid (show (codList (j + 1) l) = codList j l ++ [codOf x] by unfold codList; rw [List.take_add_one, hx]; simp)
        have hsz := hbl.size
        have HP1 := Lib.hid (fun W => pick_any (x.tdiv 5) 4 W (by decide) (by decide) (wf_tdiv x hwx))
        have HP2 := Lib.hid (fun N W h0 h1 => pick_any x N W h0 h1 hwx)
        have HB := Lib.hid hbl
        have hy2 := pick_lt (n := 4) (by decide) (x.tdiv 5)
        have harr : (#[Value.int .i64 3, Value.int .i64 40, Value.int .i64 1000, Value.int .i64 1048576] : Array Value)[pick 4 (x.tdiv 5)]? = some (.int .i64 (codN x : Int)) := by
          unfold codN
          rcases (show pick 4 (x.tdiv 5) = 0 ∨ pick 4 (x.tdiv 5) = 1 ∨ pick 4 (x.tdiv 5) = 2 ∨ pick 4 (x.tdiv 5) = 3 by omega) with e | e | e | e <;> rw [e] <;> simp
        have hne5 : some b ≠ u5.ownBlock := fun e => by have := (hown.lt b e.symm).1; omega
        have hbw : b < wr.heap.size := Nat.lt_of_lt_of_le hb hsz
        obtain ⟨hN0, hN1⟩ := codN_pos x
        have hpl := pick_lt hN0 x
        have hco : codOf x = 1 + pick (codN x) x := rfl
        rw [hco] at HX
        have HP3 := Lib.hid (fun W => HP2.out (codN x) W hN0 (by omega))
        have hwr := wrap_tdiv x hwx
        have hq1 : ∀ W, Calls Try.prog 21 #[.int .i64 (x.tdiv 5), .int .i64 4] W fun e w' => e = .returned (.int .i64 (pick 4 (x.tdiv 5) : Nat)) ∧ W = w' := fun W => HP1.out W
        have HQ1 := Lib.hid hq1
        clear hx hc0 hbl hwx hco HP2 HP1 hq1
        generalize pick (codN x) x = y at *
        generalize codN x = N at *
        generalize pick 4 (x.tdiv 5) = y2 at *
        have hb2 : (y2 : Int) < 4 := by omega
        have hb3 : (0 : Int) ≤ (y2 : Int) := by omega
        have hl4 : y2 < ([Value.int .i64 3, Value.int .i64 40, Value.int .i64 1000, Value.int .i64 1048576] : List Value).length := hy2
        have hlist : ([Value.int .i64 3, Value.int .i64 40, Value.int .i64 1000, Value.int .i64 1048576] : List Value)[y2]'hl4 = .int .i64 N := by
          have := harr
          rw [List.getElem?_toArray, List.getElem?_eq_getElem hl4] at this
          exact Option.some.inj this
        clear harr
        have hy1 : IntKind.i64.wrap (1 + (y : Int)) = 1 + (y : Int) := IntWalk.i64_in _ (by omega)
        go_wp2_with fail
        go_region_law (first
          | ((refine step_append_lies _ (by rfl) _ _ _ (by rfl) w.heap.size 3 i0 _ 1 8 Try.underlying22 Hi0.out Hz0.out Hz1.out Hz2.out rfl (by omega) u5 j _ (by rfl) (by exact (hown.alloc _).alloc _) ⟨wr.heap.size + 1, 0, none⟩ 1 1 [.int .i64 (1 + (y : Int))] (by rfl) (by rfl) (fun q u hq => by cases q with | zero => (obtain rfl := Option.some.inj hq; simp [Addr.add]) | succ q => simp at hq) (by simp [Value.oneCell']) (by omega) (by simp only [maxLen]; omega) (by omega) (by simp; omega) (wr.heap.size + 2) (by simp) ?_; intro gg cap w2 hown2 hgrow hat hlt2))
          | (go_simp; go_at_call_of 21 (Value.int IntKind.i64 4); (with_reducible refine (HQ1.out _).mono ?_); rintro e w' ⟨rfl, rfl⟩)
          | (go_simp; go_at_call_of 21 (Value.int IntKind.i64 x); (with_reducible refine (HP3.out _).mono ?_); rintro e w' ⟨rfl, rfl⟩))
        all_goals
          clear hlist hl4 hy1 hwr
          go_wp2
          go_roundw
          case rel =>
            refine ⟨j + 1, by omega, by go_num, by rw [HX.out, List.map_append, List.map_cons, List.map_nil, Int.natCast_add]; exact hown2, ?_⟩
            first
              | exact Below.grown (((HB.out.alloc hsz _).drew).alloc (by simp; omega) _) hgrow (by simp; omega) (fun q hq => (hown.lt q hq).1)
              | exact Below.grown (((HB.out.alloc hsz _).alloc (by simp; omega) _).drew) hgrow (by simp; omega) (fun q hq => (hown.lt q hq).1)
              | exact Below.grown (((HB.out.drew).alloc (by simp; omega) _).alloc (by simp; omega) _) hgrow (by simp; omega) (fun q hq => (hown.lt q hq).1)
          case measure => simp [intOf]; omega
      · obtain rfl : k = j := by omega
        obtain ⟨A', c', rfl, hle1, hlen, hlies, hnone, hnew⟩ := own_slice hown
        go_wp2
        go_ret
        exact ⟨A', c', by rw [hlen]; rfl, by rw [hlen]; exact hle1, hlies, hnone, hnew, hbl⟩
    · obtain rfl : m = j := by omega
      have HT : codList m l = codList k l := by
        unfold codList
        rw [List.take_of_length_le (by rw [HM.out]; omega), List.take_of_length_le (by rw [HM.out]; omega)]
      rw [HT] at hown
      obtain ⟨A', c', rfl, hle1, hlen, hlies, hnone, hnew⟩ := own_slice hown
      clear HT
      go_wp2
      go_ret
      exact ⟨A', c', by rw [hlen]; rfl, by rw [hlen]; exact hle1, hlies, hnone, hnew, hbl⟩
end Go.Proofs.Ytelcnkmgdohigaa
