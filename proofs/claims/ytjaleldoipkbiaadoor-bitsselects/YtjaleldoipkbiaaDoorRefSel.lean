/-
  What the document's answer to bits.Select returns: contracts, walked over the translated text. No condition but what each theorem names.
-/
import Derived.Test.YtjaleldoipkbiaaDoorBitsRef
import Derived.Test.YtjaleldoipkbiaaDoorSel
namespace Go.Proofs.YtjaleldoipkbiaaDoor
open Go.RowKit Words

set_option maxHeartbeats 400000 in
/-- The document's Select of what is not valid. -/
theorem rbsel_form (n k : Int) (one : Bool) (A : Option Addr) (ws : List Nat) (c : Nat) (w : World) (hV : ∀ m : Nat, n = m → ¬ Valid m ws) (hl : ws.length ≤ 17592186044416) (hW : Words64 w w.heap.size A ws) :
    Calls Tryd.prog 6 #[.agg #[.int .i64 n, .slice A ws.length c], .bool one, .int .i64 k] w fun e w' => e = .returned (.tuple #[.int .i64 0, .int .i64 4]) ∧ Below w.heap.size w w' := by
  have HM := Lib.hid (fun W (h : Words64 W W.heap.size A ws) => rmay_no n A ws c W hV hl h)
  have HW := Lib.hid hW
  clear hW hV
  go_enter Tryd.func6, Tryd.ntmps6
  go_wp2_with (go_at_call 15; refine (HM.out _ (by exact HW.out.alloc _)).mono ?_; rintro e w1 ⟨rfl, hb1⟩)
  go_ret2
  exact ⟨rfl, chain (bnew _ _) hb1⟩

set_option maxHeartbeats 400000 in
/-- The document's Select at a negative number. -/
theorem rbsel_neg (m : Nat) (k : Int) (one : Bool) (A : Option Addr) (ws : List Nat) (c : Nat) (w : World) (hV : Valid m ws) (hW : Words64 w w.heap.size A ws) (hk : k < 0) :
    Calls Tryd.prog 6 #[.agg #[.int .i64 m, .slice A ws.length c], .bool one, .int .i64 k] w fun e w' => e = .returned (.tuple #[.int .i64 0, .int .i64 2]) ∧ Below w.heap.size w w' := by
  have HM := Lib.hid (fun W (h : Words64 W W.heap.size A ws) => rmay_yes m A ws c W hV h)
  have HW := Lib.hid hW
  clear hW hV
  go_enter Tryd.func6, Tryd.ntmps6
  go_wp2_with (go_at_call 15; refine (HM.out _ (by exact HW.out.alloc _)).mono ?_; rintro e w1 ⟨rfl, hb1⟩)
  go_ret2
  exact ⟨rfl, chain (bnew _ _) hb1⟩

set_option maxHeartbeats 1000000 in
/-- The document's Select where there are too few such bits. -/
theorem rbsel_none (m k : Nat) (one : Bool) (A : Option Addr) (ws : List Nat) (c : Nat) (w : World) (hV : Valid m ws) (hW : Words64 w w.heap.size A ws) (hkk : k ≤ 9223372036854775807) (hk : tally (kind ws m one) m ≤ k) :
    Calls Tryd.prog 6 #[.agg #[.int .i64 m, .slice A ws.length c], .bool one, .int .i64 k] w fun e w' => e = .returned (.tuple #[.int .i64 0, .int .i64 7]) ∧ Below w.heap.size w w' := by
  have HM := Lib.hid (fun W (h : Words64 W W.heap.size A ws) => rmay_yes m A ws c W hV h)
  have HB := Lib.hid (fun W (h : Words64 W W.heap.size A ws) => bools_any m A ws c W hV h)
  have HW := Lib.hid hW
  have hm := hV.hi
  have HK := Lib.hid hk
  clear hW hV hk
  have hd : decide ((k : Int) < 0) = false := by simp
  go_enter Tryd.func6, Tryd.ntmps6
  go_wp2_with (go_at_call 15; refine (HM.out _ (by exact HW.out.alloc _)).mono ?_; rintro e w1 ⟨rfl, hb1⟩; have hc1 := bcell hb1)
  refine (HB.out _ (by exact (HW.out.alloc _).on hb1)).mono ?_
  rintro e w2 ⟨A', c', rfl, hle, hlies, _, _, hb2⟩
  have HLi := Lib.hid hlies
  clear hlies
  simp only [List.length_map, List.length_range] at hle ⊢
  go_wp2
  go_loop [2, 18] (fun v i => ∃ j r : Nat, j ≤ m ∧ i = .int .i64 j ∧ v = .int .i64 r ∧ r + tally (kind ws m one) j = k) (fun _ i => m - (intOf i).toNat)
  case atStart => exact ⟨0, k, Nat.zero_le _, rfl, rfl, by simp [tally]⟩
  case round =>
    obtain ⟨j, r, hj, rfl, rfl, hr⟩ := hrel
    have hr9 : r ≤ 9223372036854775807 := by omega
    by_cases hlt : j < m
    · obtain ⟨b', o', x', rfl, hb', hx', hc'⟩ := HLi.out.at_ (l := List.range m) (f := fun i => Value.bool (bit ws i)) (k := j) (by simpa using hlt)
      obtain rfl : j = x' := by
        rw [List.getElem?_range hlt] at hx'
        exact Option.some.inj hx'
      clear hx'
      have hks := tally_succ (kind ws m one) j
      rw [kind_in ws m one hlt] at hks
      have hup : bit ws j = one → tally (kind ws m one) j < k := fun e => Nat.lt_of_lt_of_le (tally_lt _ hlt (by rw [kind_in ws m one hlt, e]; simp)) HK.out
      cases hbb : bit ws j
      all_goals
        rw [hbb] at hc' hks hup
        clear hbb
        cases one
        all_goals
          first
          | (have hr1 : 1 ≤ r := by have := hup rfl; omega
             have hz : ((r : Int) == 0) = false := by simp; omega
             have HS : Hid (r - 1 + tally (kind ws m _) (j + 1) = k) := Lib.hid (by rw [hks]; simp; omega)
             clear hks hup hr
             go_wp2
             go_round
             case rel => exact ⟨j + 1, r - 1, by omega, by go_num, by congr 1; omega, HS.out⟩
             case measure => simp [intOf]; omega)
          | (have HS : Hid (r + tally (kind ws m _) (j + 1) = k) := Lib.hid (by rw [hks]; simpa using hr)
             clear hks hup hr
             go_wp2
             go_round
             case rel => exact ⟨j + 1, r, by omega, by go_num, rfl, HS.out⟩
             case measure => simp [intOf]; omega)
    · go_wp2
      go_ret2
      exact ⟨rfl, chain (chain (bnew _ _) hb1) hb2⟩

set_option maxHeartbeats 1000000 in
/-- The document's Select: the bit that has exactly k such bits before it. -/
theorem rbsel_some (m k p : Nat) (one : Bool) (A : Option Addr) (ws : List Nat) (c : Nat) (w : World) (hV : Valid m ws) (hW : Words64 w w.heap.size A ws) (hp : p < m) (hb : bit ws p = one) (hc : tally (kind ws m one) p = k) :
    Calls Tryd.prog 6 #[.agg #[.int .i64 m, .slice A ws.length c], .bool one, .int .i64 k] w fun e w' => e = .returned (.tuple #[.int .i64 p, .int .i64 0]) ∧ Below w.heap.size w w' := by
  have HM := Lib.hid (fun W (h : Words64 W W.heap.size A ws) => rmay_yes m A ws c W hV h)
  have HB := Lib.hid (fun W (h : Words64 W W.heap.size A ws) => bools_any m A ws c W hV h)
  have HW := Lib.hid hW
  have hm := hV.hi
  have hkm : k ≤ 4096 := by have := tally_le (kind ws m one) p; omega
  have HK := Lib.hid hc
  have HBit := Lib.hid hb
  clear hW hV hc hb
  have hd : decide ((k : Int) < 0) = false := by simp
  go_enter Tryd.func6, Tryd.ntmps6
  go_wp2_with (go_at_call 15; refine (HM.out _ (by exact HW.out.alloc _)).mono ?_; rintro e w1 ⟨rfl, hb1⟩; have hc1 := bcell hb1)
  refine (HB.out _ (by exact (HW.out.alloc _).on hb1)).mono ?_
  rintro e w2 ⟨A', c', rfl, hle, hlies, _, _, hb2⟩
  have HLi := Lib.hid hlies
  clear hlies
  simp only [List.length_map, List.length_range] at hle ⊢
  go_wp2
  go_loop [2, 18] (fun v i => ∃ j r : Nat, j ≤ p ∧ i = .int .i64 j ∧ v = .int .i64 r ∧ r + tally (kind ws m one) j = k) (fun _ i => m - (intOf i).toNat)
  case atStart => exact ⟨0, k, Nat.zero_le _, rfl, rfl, by simp [tally]⟩
  case round =>
    obtain ⟨j, r, hj, rfl, rfl, hr⟩ := hrel
    have hr9 : r ≤ 4096 := by omega
    have hlt : j < m := by omega
    obtain ⟨b', o', x', rfl, hb', hx', hc'⟩ := HLi.out.at_ (l := List.range m) (f := fun i => Value.bool (bit ws i)) (k := j) (by simpa using hlt)
    obtain rfl : j = x' := by
      rw [List.getElem?_range hlt] at hx'
      exact Option.some.inj hx'
    clear hx'
    by_cases hjp : j < p
    · have hks := tally_succ (kind ws m one) j
      rw [kind_in ws m one hlt] at hks
      have hup : bit ws j = one → tally (kind ws m one) j < k := fun e => by
        rw [← HK.out]
        exact tally_lt _ hjp (by rw [kind_in ws m one hlt, e]; simp)
      cases hbb : bit ws j
      all_goals
        rw [hbb] at hc' hks hup
        clear hbb
        cases one
        all_goals
          first
          | (have hr1 : 1 ≤ r := by have := hup rfl; omega
             have hz : ((r : Int) == 0) = false := by simp; omega
             have HS : Hid (r - 1 + tally (kind ws m _) (j + 1) = k) := Lib.hid (by rw [hks]; simp; omega)
             clear hks hup hr
             go_wp2
             go_round
             case rel => exact ⟨j + 1, r - 1, by omega, by go_num, by congr 1; omega, HS.out⟩
             case measure => simp [intOf]; omega)
          | (have HS : Hid (r + tally (kind ws m _) (j + 1) = k) := Lib.hid (by rw [hks]; simpa using hr)
             clear hks hup hr
             go_wp2
             go_round
             case rel => exact ⟨j + 1, r, by omega, by go_num, rfl, HS.out⟩
             case measure => simp [intOf]; omega)
    · obtain rfl : j = p := by omega
      obtain rfl : r = 0 := by have := HK.out; omega
      rw [HBit.out] at hc'
      clear hr
      cases one
      all_goals
        go_wp2
        go_ret2
        exact ⟨rfl, chain (chain (bnew _ _) hb1) hb2⟩
end Go.Proofs.YtjaleldoipkbiaaDoor
