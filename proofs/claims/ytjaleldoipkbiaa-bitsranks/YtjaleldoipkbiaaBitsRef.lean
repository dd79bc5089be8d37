/-
  What the document's answers to package bits return: contracts, walked over the translated text. No condition but what each theorem names.
-/
import Derived.Test.YtjaleldoipkbiaaBitsAt
namespace Go.Proofs.Ytjaleldoipkbiaa
open Go.RowKit Words

theorem bool_info : (Try.prog.info? 4).map (fun i => (i.zero, i.size, i.bytes)) = some (some (.bool false), 1, 1) := by kernel_rfl

set_option maxHeartbeats 1000000 in
/-- The document's bits, one by one. -/
theorem bools_any (m : Nat) (A : Option Addr) (ws : List Nat) (c : Nat) (w : World) (hV : Valid m ws) (hW : Words64 w w.heap.size A ws) :
    Calls Try.prog 25 #[.agg #[.int .i64 m, .slice A ws.length c]] w (GivesSlice w ((List.range m).map fun i => .bool (bit ws i))) := by
  have HW := Lib.hid hW
  have hm := hV.hi
  have hl := hV.len
  have hlo : m ≤ 64 * ws.length := by omega
  clear hW hV hl
  generalize hk : ws.length = k at *
  have HK := Lib.hid hk
  clear hk
  go_enter Try.func25, Try.ntmps25
  go_wp2
  go_loopw [3, 4] (fun v i w' => ∃ j : Nat, j ≤ m ∧ i = .int .i64 j ∧ w'.ownsRow (w.heap.size + 1) 4 1 v j ((List.range j).map fun i => .bool (bit ws i)) ∧ Below (w.heap.size + 1) (w.alloc (.cells #[.int .i64 m, .slice A k c] 25)) w') (fun _ i _ => m - (intOf i).toNat)
  case atStart => exact ⟨0, Nat.zero_le _, rfl, World.ownsRow_nil _ _ _ _, Below.refl _ _⟩
  case round =>
    obtain ⟨j, hj, rfl, hown, hbl⟩ := hrel
    have hc1 := bcell hbl
    by_cases hlt : j < m
    · obtain ⟨b, o, x, rfl, hb, hx, hxl, hc⟩ := HW.out.at_ (k := j / 64) (by rw [HK.out]; omega)
      have hbo := Lib.hid (bitOf_any x (j % 64) · hxl (by omega))
      have hbit : bit ws j = x.testBit (j % 64) := by unfold bit; simp [List.getD, hx]
      have HX := Lib.hid hbit
      have hsz : w.heap.size + 1 ≤ wr.heap.size := by simpa using hbl.size
      clear hx hbit
      go_wp2_with (first
        | (go_at_call 24; refine (hbo.out _).mono ?_; rintro e w' ⟨rfl, rfl⟩)
        | (at_builtin; go_loud (refine append_one _ rfl (.tmp 11) (.tmp 21) 22 rfl (w.heap.size + 1) 4 (.bool false) 1 Try.underlying22 bool_info rfl u3 j _ rfl (hown.alloc _) wr.heap.size 1 (.bool (x.testBit (j % 64))) rfl (by simp) rfl (by simp only [maxLen]; omega) (by omega) (by simp; omega) ?_)))
      intro v1 w2 hown1 hg1
      go_wp2
      go_roundw
      case rel => exact ⟨j + 1, by omega, by go_num, by rw [List.range_succ, List.map_append, List.map_cons, List.map_nil, HX.out]; exact hown1, (hbl.alloc hsz _).grown hg1 (by simp; omega) (fun q hq => (hown.lt q hq).1)⟩
      case measure => simp [intOf]; omega
    · obtain rfl : m = j := by omega
      obtain ⟨A', c', rfl, hle, hlen, hlies, hnone, hnew⟩ := own_slice hown
      go_wp2
      go_ret
      exact ⟨A', c', by rw [hlen]; rfl, by rw [hlen]; exact hle, hlies, hnone, hnew.mono (by omega), ((Below.refl _ _).alloc (Nat.le_refl _) _).trans (hbl.mono (by omega))⟩

set_option maxHeartbeats 400000 in
/-- The document's At of what is not valid. -/
theorem rat_form (n i : Int) (A : Option Addr) (ws : List Nat) (c : Nat) (w : World) (hV : ∀ m : Nat, n = m → ¬ Valid m ws) (hk : ws.length ≤ 17592186044416) (hW : Words64 w w.heap.size A ws) :
    Calls Try.prog 15 #[.agg #[.int .i64 n, .slice A ws.length c], .int .i64 i] w fun e w' => e = .returned (.tuple #[.bool false, .int .i64 4]) ∧ Below w.heap.size w w' := by
  have HM := Lib.hid (fun W (h : Words64 W W.heap.size A ws) => rmay_no n A ws c W hV hk h)
  have HW := Lib.hid hW
  clear hW hV
  go_enter Try.func15, Try.ntmps15
  go_wp2_with (go_at_call 13; refine (HM.out _ (by exact HW.out.alloc _)).mono ?_; rintro e w1 ⟨rfl, hb1⟩)
  go_ret2
  exact ⟨rfl, ((Below.refl _ _).alloc (Nat.le_refl _) _).trans (hb1.mono (by simp))⟩

set_option maxHeartbeats 400000 in
/-- The document's At at a number that no bit has. -/
theorem rat_out (m : Nat) (i : Int) (A : Option Addr) (ws : List Nat) (c : Nat) (w : World) (hV : Valid m ws) (hW : Words64 w w.heap.size A ws) (h : i < 0 ∨ (m : Int) ≤ i) :
    Calls Try.prog 15 #[.agg #[.int .i64 m, .slice A ws.length c], .int .i64 i] w fun e w' => e = .returned (.tuple #[.bool false, .int .i64 2]) ∧ Below w.heap.size w w' := by
  have HM := Lib.hid (fun W (h : Words64 W W.heap.size A ws) => rmay_yes m A ws c W hV h)
  have HW := Lib.hid hW
  clear hW hV
  have hh : i < 0 ∨ (¬ i < 0 ∧ (m : Int) ≤ i) := by omega
  clear h
  rcases hh with h0 | ⟨h0, h1⟩
  all_goals
    go_enter Try.func15, Try.ntmps15
    go_wp2_with (go_at_call 13; refine (HM.out _ (by exact HW.out.alloc _)).mono ?_; rintro e w1 ⟨rfl, hb1⟩; have hc1 := bcell hb1)
    go_ret2
    exact ⟨rfl, ((Below.refl _ _).alloc (Nat.le_refl _) _).trans (hb1.mono (by simp))⟩

set_option maxHeartbeats 400000 in
/-- The document's At: the bit. -/
theorem rat_in (m i : Nat) (A : Option Addr) (ws : List Nat) (c : Nat) (w : World) (hV : Valid m ws) (hW : Words64 w w.heap.size A ws) (h : i < m) :
    Calls Try.prog 15 #[.agg #[.int .i64 m, .slice A ws.length c], .int .i64 i] w fun e w' => e = .returned (.tuple #[.bool (bit ws i), .int .i64 0]) ∧ Below w.heap.size w w' := by
  have HM := Lib.hid (fun W (h : Words64 W W.heap.size A ws) => rmay_yes m A ws c W hV h)
  have HB := Lib.hid (fun W (h : Words64 W W.heap.size A ws) => bools_any m A ws c W hV h)
  have HW := Lib.hid hW
  clear hW hV
  go_enter Try.func15, Try.ntmps15
  go_wp2_with (go_at_call 13; refine (HM.out _ (by exact HW.out.alloc _)).mono ?_; rintro e w1 ⟨rfl, hb1⟩; have hc1 := bcell hb1)
  refine (HB.out _ (by exact (HW.out.alloc _).on hb1)).mono ?_
  rintro e w2 ⟨A', c', rfl, hle, hlies, _, _, hb2⟩
  obtain ⟨b', o', x', rfl, hb', hx', hc'⟩ := hlies.at_ (l := List.range m) (f := fun i => Value.bool (bit ws i)) (k := i) (by simpa using h)
  obtain rfl : x' = i := by
    rw [List.getElem?_range h] at hx'
    exact (Option.some.inj hx').symm
  simp only [List.length_map, List.length_range]
  clear hx'
  go_wp2
  go_ret2
  exact ⟨rfl, (((Below.refl _ _).alloc (Nat.le_refl _) _).trans (hb1.mono (by simp))).trans (hb2.mono (by have := hb1.size; simp at this; omega))⟩

set_option maxHeartbeats 400000 in
/-- The document's Rank of what is not valid. -/
theorem rbrank_form (n i : Int) (A : Option Addr) (ws : List Nat) (c : Nat) (w : World) (hV : ∀ m : Nat, n = m → ¬ Valid m ws) (hk : ws.length ≤ 17592186044416) (hW : Words64 w w.heap.size A ws) :
    Calls Try.prog 17 #[.agg #[.int .i64 n, .slice A ws.length c], .int .i64 i] w fun e w' => e = .returned (.tuple #[.int .i64 0, .int .i64 4]) ∧ Below w.heap.size w w' := by
  have HM := Lib.hid (fun W (h : Words64 W W.heap.size A ws) => rmay_no n A ws c W hV hk h)
  have HW := Lib.hid hW
  clear hW hV
  go_enter Try.func17, Try.ntmps17
  go_wp2_with (go_at_call 13; refine (HM.out _ (by exact HW.out.alloc _)).mono ?_; rintro e w1 ⟨rfl, hb1⟩)
  go_ret2
  exact ⟨rfl, ((Below.refl _ _).alloc (Nat.le_refl _) _).trans (hb1.mono (by simp))⟩

set_option maxHeartbeats 400000 in
/-- The document's Rank out of range. -/
theorem rbrank_out (m : Nat) (i : Int) (A : Option Addr) (ws : List Nat) (c : Nat) (w : World) (hV : Valid m ws) (hW : Words64 w w.heap.size A ws) (h : i < 0 ∨ (m : Int) < i) :
    Calls Try.prog 17 #[.agg #[.int .i64 m, .slice A ws.length c], .int .i64 i] w fun e w' => e = .returned (.tuple #[.int .i64 0, .int .i64 2]) ∧ Below w.heap.size w w' := by
  have HM := Lib.hid (fun W (h : Words64 W W.heap.size A ws) => rmay_yes m A ws c W hV h)
  have HW := Lib.hid hW
  clear hW hV
  have hh : i < 0 ∨ (¬ i < 0 ∧ (m : Int) < i) := by omega
  clear h
  rcases hh with h0 | ⟨h0, h1⟩
  all_goals
    go_enter Try.func17, Try.ntmps17
    go_wp2_with (go_at_call 13; refine (HM.out _ (by exact HW.out.alloc _)).mono ?_; rintro e w1 ⟨rfl, hb1⟩; have hc1 := bcell hb1)
    go_ret2
    exact ⟨rfl, ((Below.refl _ _).alloc (Nat.le_refl _) _).trans (hb1.mono (by simp))⟩

set_option maxHeartbeats 1000000 in
/-- The document's Rank: how many one bits have a smaller number. -/
theorem rbrank_in (m r : Nat) (A : Option Addr) (ws : List Nat) (c : Nat) (w : World) (hV : Valid m ws) (hW : Words64 w w.heap.size A ws) (h : r ≤ m) :
    Calls Try.prog 17 #[.agg #[.int .i64 m, .slice A ws.length c], .int .i64 r] w fun e w' => e = .returned (.tuple #[.int .i64 (tally (bit ws) r), .int .i64 0]) ∧ Below w.heap.size w w' := by
  have HM := Lib.hid (fun W (h : Words64 W W.heap.size A ws) => rmay_yes m A ws c W hV h)
  have HB := Lib.hid (fun W (h : Words64 W W.heap.size A ws) => bools_any m A ws c W hV h)
  have HW := Lib.hid hW
  have hm := hV.hi
  clear hW hV
  have hd : decide ((r : Int) < 0) = false := by simp
  have hd1 : decide (m < r) = false := by simp; omega
  go_enter Try.func17, Try.ntmps17
  go_wp2_with (go_at_call 13; refine (HM.out _ (by exact HW.out.alloc _)).mono ?_; rintro e w1 ⟨rfl, hb1⟩; have hc1 := bcell hb1)
  refine (HB.out _ (by exact (HW.out.alloc _).on hb1)).mono ?_
  rintro e w2 ⟨A', c', rfl, hle, hlies, _, _, hb2⟩
  have HLi := Lib.hid hlies
  clear hlies
  simp only [List.length_map, List.length_range] at hle ⊢
  have hrc : r ≤ c' := by omega
  go_wp2
  go_loop [6, 25] (fun n v => ∃ j : Nat, j ≤ r ∧ v = .int .i64 j ∧ n = .int .i64 (tally (bit ws) j)) (fun _ v => r - (intOf v).toNat)
  case atStart => exact ⟨0, Nat.zero_le _, rfl, rfl⟩
  case round =>
    obtain ⟨j, hj, rfl, rfl⟩ := hrel
    have hb0 := tally_le (bit ws) j
    by_cases hlt : j < r
    · obtain ⟨b', o', x', rfl, hb', hx', hc'⟩ := HLi.out.at_ (l := List.range m) (f := fun i => Value.bool (bit ws i)) (k := j) (by simp; omega)
      obtain rfl : j = x' := by
        rw [List.getElem?_range (by omega)] at hx'
        exact Option.some.inj hx'
      have HS := Lib.hid (tally_succ (bit ws) j)
      clear hx'
      generalize tally (bit ws) j = u at *
      cases hbb : bit ws j
      all_goals
        rw [hbb] at hc' HS
        clear hbb
        go_wp2
        go_round
        case rel => exact ⟨j + 1, by omega, by go_num, by rw [HS.out]; go_num⟩
        case measure => simp [intOf]; omega
    · obtain rfl : r = j := by omega
      go_wp2
      go_ret2
      exact ⟨rfl, (((Below.refl _ _).alloc (Nat.le_refl _) _).trans (hb1.mono (by simp))).trans (hb2.mono (by have := hb1.size; simp at this; omega))⟩
end Go.Proofs.Ytjaleldoipkbiaa
