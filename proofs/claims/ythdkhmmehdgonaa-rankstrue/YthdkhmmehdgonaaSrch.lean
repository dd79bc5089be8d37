/-
  What slices.BinarySearch of a list of int that does not fall returns: a contract, walked over the translated text. No condition but what each theorem names.
-/
import Derived.Test.YthdkhmmehdgonaaDsts
import Derived.Test.YthdkhmmehdgonaaPop
import Derived.Test.YthdkhmmehdgonaaMem
import Derived.Deep.QuietTactic
import Derived.BigQuiet
import Derived.IntWalk
namespace Go.Proofs.Ythdkhmmehdgonaa
open Go.RowKit Words

/-- In a list that does not fall: what is less stands before the count. -/
theorem cnt_below {s : List Int} (hs : s.Pairwise (· ≤ ·)) {k : Nat} {x y : Int} (h : s[k]? = some y) (hy : y < x) : k < cntL s x := by
  obtain ⟨hk, e⟩ := List.getElem?_eq_some_iff.1 h
  unfold cntL
  rw [← List.take_append_drop (k + 1) s, List.countP_append]
  have h1 : (s.take (k + 1)).countP (fun y => decide (y < x)) = (s.take (k + 1)).length := List.countP_eq_length.2 fun z hz => by
    obtain ⟨j, hj, rfl⟩ := List.getElem_of_mem hz
    rw [List.length_take] at hj
    rw [List.getElem_take]
    have : s[j] ≤ s[k] := by
      rcases Nat.lt_or_ge j k with h | h
      · exact List.pairwise_iff_getElem.1 hs j k (by omega) hk h
      · obtain rfl : j = k := by omega
        exact Int.le_refl _
    simp only [decide_eq_true_eq]
    omega
  rw [h1, List.length_take]
  omega
theorem cnt_above {s : List Int} (hs : s.Pairwise (· ≤ ·)) {k : Nat} {x y : Int} (h : s[k]? = some y) (hy : ¬ y < x) : cntL s x ≤ k := by
  obtain ⟨hk, e⟩ := List.getElem?_eq_some_iff.1 h
  unfold cntL
  rw [← List.take_append_drop k s, List.countP_append]
  have h1 : (s.drop k).countP (fun y => decide (y < x)) = 0 := List.countP_eq_zero.2 fun z hz => by
    obtain ⟨j, hj, rfl⟩ := List.getElem_of_mem hz
    rw [List.length_drop] at hj
    rw [List.getElem_drop]
    have : s[k] ≤ s[k + j] := by
      rcases Nat.eq_zero_or_pos j with h0 | h0
      · subst h0; exact Int.le_refl _
      · exact List.pairwise_iff_getElem.1 hs k (k + j) hk (by omega) (by omega)
    simp only [decide_eq_true_eq]
    omega
  have h2 : (s.take k).countP (fun y => decide (y < x)) ≤ (s.take k).length := List.countP_le_length
  rw [List.length_take] at h2
  rw [h1]
  omega

theorem nan1_int (a : Int) (w : World) : Calls Try.prog 39 #[.int .i64 a] w fun e w' => e = .returned (.bool false) ∧ w = w' := by
  have h : (a != a) = false := by simp
  go_enter Try.func39, Try.ntmps39
  go_wp2
  go_ret
  exact ⟨rfl, rfl⟩
theorem nan2_int (a : Int) (w : World) : Calls Try.prog 28 #[.int .i64 a] w fun e w' => e = .returned (.bool false) ∧ w = w' := by
  have h : (a != a) = false := by simp
  go_enter Try.func28, Try.ntmps28
  go_wp2
  go_ret
  exact ⟨rfl, rfl⟩
/-- cmp.Less of two int. -/
theorem less_int (a b : Int) (w : World) (t : Bool) (ht : decide (a < b) = t) : Calls Try.prog 27 #[.int .i64 a, .int .i64 b] w fun e w' => e = .returned (.bool t) ∧ w = w' := by
  have HN := Lib.hid (fun (a : Int) (w : World) => nan1_int a w)
  go_enter Try.func27, Try.ntmps27
  go_wp2_with (go_at_call 39; refine (HN.out _ _).mono ?_; rintro e w' ⟨rfl, rfl⟩)
  go_ret
  exact ⟨rfl, rfl⟩

/-- What a search leaves: the place; the second answer is not asked for. -/
def FoundI (w : World) (i : Nat) (e : Ending) (w' : World) : Prop := ∃ t : Bool, e = .returned (.tuple #[.int .i64 i, .bool t]) ∧ w = w'

set_option maxHeartbeats 1000000 in
/-- slices.BinarySearch of int that do not fall: how many are less. -/
theorem search_int (A : Option Addr) (l : List Int) (c : Nat) (x : Int) (w : World) (hn : l.length ≤ 1000000) (hs : l.Pairwise (· ≤ ·)) (hL : Lies w w.heap.size A (l.map (.int .i64))) :
    Calls Try.prog 24 #[.slice A l.length c, .int .i64 x] w (FoundI w (cntL l x)) := by
  have HL := Lib.hid hL
  have HLo := Lib.hid (fun k y (h : l[k]? = some y) (hy : y < x) => cnt_below hs h hy)
  have HHi := Lib.hid (fun k y (h : l[k]? = some y) (hy : ¬ y < x) => cnt_above hs h hy)
  have hi := cntL_le l x
  have HLs := Lib.hid (fun a t w ht => less_int a x w t ht)
  have HNa := Lib.hid (fun (a : Int) (w : World) => nan2_int a w)
  obtain ⟨i, hi2⟩ : ∃ i, cntL l x = i := ⟨_, rfl⟩
  rw [hi2] at hi HLo HHi ⊢
  obtain ⟨n, hnn⟩ : ∃ n, l.length = n := ⟨_, rfl⟩
  have HN := Lib.hid hnn
  rw [hnn] at hi hn ⊢
  clear hnn hs hL hi2
  go_enter Try.func24, Try.ntmps24
  go_wp2
  go_loop [7, 8] (fun a b => ∃ lo hi : Nat, lo ≤ i ∧ i ≤ hi ∧ hi ≤ n ∧ a = .int .i64 lo ∧ b = .int .i64 hi) (fun a b => (intOf b).toNat - (intOf a).toNat)
  case atStart => exact ⟨0, n, Nat.zero_le _, hi, Nat.le_refl _, rfl, rfl⟩
  case round =>
    obtain ⟨lo, hi, h1, h2, h3, rfl, rfl⟩ := hrel
    by_cases hlt : lo < hi
    · obtain ⟨s, hs⟩ : ∃ s, s = lo + hi := ⟨_, rfl⟩
      have hsum : (lo : Int) + (hi : Int) = (s : Int) := by omega
      have hhf : (s : Int) / 2 = ((s / 2 : Nat) : Int) := by omega
      have hm1 : lo ≤ s / 2 := by omega
      have hm2 : s / 2 < hi := by omega
      have hsb : s ≤ 2000000 := by omega
      clear hs
      generalize s / 2 = k at *
      obtain ⟨b, o, y, rfl, hb, hy, hc⟩ := HL.out.at_ (k := k) (by rw [HN.out]; omega)
      by_cases hx : y < x
      · have hki := HLo.out k y hy hx
        clear hy
        have HLt := Lib.hid (fun W => HLs.out y true W (by simpa using hx))
        go_wp2_with (go_at_call 27; refine (HLt.out _).mono ?_; rintro e w' ⟨rfl, rfl⟩)
        go_round
        case rel => exact ⟨k + 1, hi, by omega, h2, h3, by go_num, rfl⟩
        case measure => simp [intOf]; omega
      · have hki := HHi.out k y hy (by omega)
        clear hy
        have HLt := Lib.hid (fun W => HLs.out y false W (by simpa using hx))
        go_wp2_with (go_at_call 27; refine (HLt.out _).mono ?_; rintro e w' ⟨rfl, rfl⟩)
        go_round
        case rel => exact ⟨lo, k, h1, hki, by omega, rfl, rfl⟩
        case measure => simp [intOf]; omega
    · obtain rfl : i = lo := by omega
      by_cases hin : i < n
      · obtain ⟨b, o, y, rfl, hb, hy, hc⟩ := HL.out.at_ (k := i) (by rw [HN.out]; exact hin)
        clear hy
        by_cases hx : y = x
        · subst hx
          go_wp2_with (go_at_call 28; refine (HNa.out _ _).mono ?_; rintro e w' ⟨rfl, rfl⟩)
          go_ret2
          exact ⟨_, rfl, rfl⟩
        · have hxe : (y == x) = false := by simpa using hx
          go_wp2_with (go_at_call 28; refine (HNa.out _ _).mono ?_; rintro e w' ⟨rfl, rfl⟩)
          go_ret2
          exact ⟨_, rfl, rfl⟩
      · go_wp2
        go_ret2
        exact ⟨_, rfl, rfl⟩
end Go.Proofs.Ythdkhmmehdgonaa
