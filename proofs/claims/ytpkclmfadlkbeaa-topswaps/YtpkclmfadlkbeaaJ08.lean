/-
  What slices.BinarySearch of a list of int that does not fall returns: a contract, walked over the translated text. What ranks.increasing, countLess, Find and the document's RanksFind return: contracts, walked over the translated text. No condition but what each theorem names.
-/
import Derived.Test.YtpkclmfadlkbeaaJ01
import Derived.Test.YtpkclmfadlkbeaaJ02
import Derived.Deep.QuietTactic
import Derived.BigQuiet
import Derived.IntWalk
namespace Go.Proofs.Ytpkclmfadlkbeaa
open Go.RowKit Words

/-- In a list that does not fall: what is less stands before the count. -/
theorem cnt_below {s : List Int} (hs : s.Pairwise (· ≤ ·)) {k : Nat} {x y : Int} (h : s[k]? = some y) (hy : y < x) : k < cntL s x := by
  obtain ⟨hk, e⟩ := List.getElem?_eq_some_iff.1 h
  unfold cntL
  rw [← List.take_append_drop (k + 1) s, List.countP_append]
  have h1 : (s.take (k + 1)).countP (fun y => decide (y < x)) = (s.take (k + 1)).length := List.countP_eq_length.2 fun z hz => by
    obtain ⟨j, hj, rfl⟩ := List.getElem_of_mem hz
    rw [List.length_take] at hj
    rw [List.getElem_take]
    have : s[j] ≤ s[k] := by
      rcases Nat.lt_or_ge j k with h | h
      · exact List.pairwise_iff_getElem.1 hs j k (by omega) hk h
      · obtain rfl : j = k := by omega
        exact Int.le_refl _
    simp only [decide_eq_true_eq]
    omega
  rw [h1, List.length_take]
  omega
theorem cnt_above {s : List Int} (hs : s.Pairwise (· ≤ ·)) {k : Nat} {x y : Int} (h : s[k]? = some y) (hy : ¬ y < x) : cntL s x ≤ k := by
  obtain ⟨hk, e⟩ := List.getElem?_eq_some_iff.1 h
  unfold cntL
  rw [← List.take_append_drop k s, List.countP_append]
  have h1 : (s.drop k).countP (fun y => decide (y < x)) = 0 := List.countP_eq_zero.2 fun z hz => by
    obtain ⟨j, hj, rfl⟩ := List.getElem_of_mem hz
    rw [List.length_drop] at hj
    rw [List.getElem_drop]
    have : s[k] ≤ s[k + j] := by
      rcases Nat.eq_zero_or_pos j with h0 | h0
      · subst h0; exact Int.le_refl _
      · exact List.pairwise_iff_getElem.1 hs k (k + j) hk (by omega) (by omega)
    simp only [decide_eq_true_eq]
    omega
  have h2 : (s.take k).countP (fun y => decide (y < x)) ≤ (s.take k).length := List.countP_le_length
  rw [List.length_take] at h2
  rw [h1]
  omega

theorem nan1_int (a : Int) (w : World) : Calls Try.prog 102 #[.int .i64 a] w fun e w' => e = .returned (.bool false) ∧ w = w' := by
  have h : (a != a) = false := by simp
  go_enter Try.func102, Try.ntmps102
  go_wp2
  go_ret
  exact ⟨rfl, rfl⟩
theorem nan2_int (a : Int) (w : World) : Calls Try.prog 93 #[.int .i64 a] w fun e w' => e = .returned (.bool false) ∧ w = w' := by
  have h : (a != a) = false := by simp
  go_enter Try.func93, Try.ntmps93
  go_wp2
  go_ret
  exact ⟨rfl, rfl⟩
/-- cmp.Less of two int. -/
theorem less_int (a b : Int) (w : World) (t : Bool) (ht : decide (a < b) = t) : Calls Try.prog 92 #[.int .i64 a, .int .i64 b] w fun e w' => e = .returned (.bool t) ∧ w = w' := by
  have HN := Lib.hid (fun (a : Int) (w : World) => nan1_int a w)
  go_enter Try.func92, Try.ntmps92
  go_wp2_with (go_at_call 102; refine (HN.out _ _).mono ?_; rintro e w' ⟨rfl, rfl⟩)
  go_ret
  exact ⟨rfl, rfl⟩

/-- What a search leaves: the place; the second answer is not asked for. -/
def FoundI (w : World) (i : Nat) (e : Ending) (w' : World) : Prop := ∃ t : Bool, e = .returned (.tuple #[.int .i64 i, .bool t]) ∧ w = w'

set_option maxHeartbeats 1000000 in
/-- slices.BinarySearch of int that do not fall: how many are less. -/
theorem search_int (A : Option Addr) (l : List Int) (c : Nat) (x : Int) (w : World) (hn : l.length ≤ 1000000) (hs : l.Pairwise (· ≤ ·)) (hL : Lies w w.heap.size A (l.map (.int .i64))) :
    Calls Try.prog 88 #[.slice A l.length c, .int .i64 x] w (FoundI w (cntL l x)) := by
  have HL := Lib.hid hL
  have HLo := Lib.hid (fun k y (h : l[k]? = some y) (hy : y < x) => cnt_below hs h hy)
  have HHi := Lib.hid (fun k y (h : l[k]? = some y) (hy : ¬ y < x) => cnt_above hs h hy)
  have hi := cntL_le l x
  have HLs := Lib.hid (fun a t w ht => less_int a x w t ht)
  have HNa := Lib.hid (fun (a : Int) (w : World) => nan2_int a w)
  obtain ⟨i, hi2⟩ : ∃ i, cntL l x = i := ⟨_, rfl⟩
  rw [hi2] at hi HLo HHi ⊢
  obtain ⟨n, hnn⟩ : ∃ n, l.length = n := ⟨_, rfl⟩
  have HN := Lib.hid hnn
  rw [hnn] at hi hn ⊢
  clear hnn hs hL hi2
  go_enter Try.func88, Try.ntmps88
  go_wp2
  go_loop [7, 8] (fun a b => ∃ lo hi : Nat, lo ≤ i ∧ i ≤ hi ∧ hi ≤ n ∧ a = .int .i64 lo ∧ b = .int .i64 hi) (fun a b => (intOf b).toNat - (intOf a).toNat)
  case atStart => exact ⟨0, n, Nat.zero_le _, hi, Nat.le_refl _, rfl, rfl⟩
  case round =>
    obtain ⟨lo, hi, h1, h2, h3, rfl, rfl⟩ := hrel
    by_cases hlt : lo < hi
    · obtain ⟨s, hs⟩ : ∃ s, s = lo + hi := ⟨_, rfl⟩
      have hsum : (lo : Int) + (hi : Int) = (s : Int) := by omega
      have hhf : (s : Int) / 2 = ((s / 2 : Nat) : Int) := by omega
      have hm1 : lo ≤ s / 2 := by omega
      have hm2 : s / 2 < hi := by omega
      have hsb : s ≤ 2000000 := by omega
      clear hs
      generalize s / 2 = k at *
      obtain ⟨b, o, y, rfl, hb, hy, hc⟩ := HL.out.at_ (k := k) (by rw [HN.out]; omega)
      by_cases hx : y < x
      · have hki := HLo.out k y hy hx
        clear hy
        have HLt := Lib.hid (fun W => HLs.out y true W (by simpa using hx))
        go_wp2_with (go_at_call 92; refine (HLt.out _).mono ?_; rintro e w' ⟨rfl, rfl⟩)
        go_round
        case rel => exact ⟨k + 1, hi, by omega, h2, h3, by go_num, rfl⟩
        case measure => simp [intOf]; omega
      · have hki := HHi.out k y hy (by omega)
        clear hy
        have HLt := Lib.hid (fun W => HLs.out y false W (by simpa using hx))
        go_wp2_with (go_at_call 92; refine (HLt.out _).mono ?_; rintro e w' ⟨rfl, rfl⟩)
        go_round
        case rel => exact ⟨lo, k, h1, hki, by omega, rfl, rfl⟩
        case measure => simp [intOf]; omega
    · obtain rfl : i = lo := by omega
      by_cases hin : i < n
      · obtain ⟨b, o, y, rfl, hb, hy, hc⟩ := HL.out.at_ (k := i) (by rw [HN.out]; exact hin)
        clear hy
        by_cases hx : y = x
        · subst hx
          go_wp2_with (go_at_call 93; refine (HNa.out _ _).mono ?_; rintro e w' ⟨rfl, rfl⟩)
          go_ret2
          exact ⟨_, rfl, rfl⟩
        · have hxe : (y == x) = false := by simpa using hx
          go_wp2_with (go_at_call 93; refine (HNa.out _ _).mono ?_; rintro e w' ⟨rfl, rfl⟩)
          go_ret2
          exact ⟨_, rfl, rfl⟩
      · go_wp2
        go_ret2
        exact ⟨_, rfl, rfl⟩
end Go.Proofs.Ytpkclmfadlkbeaa

namespace Go.Proofs.Ytpkclmfadlkbeaa
open Go.RowKit Words

set_option maxHeartbeats 1000000 in
/-- ranks.countLess. -/
theorem less_count (A : Option Addr) (l : List Int) (c : Nat) (x : Int) (w : World) (hn : l.length ≤ 1000000) (hs : l.Pairwise (· ≤ ·)) (hL : Lies w w.heap.size A (l.map (.int .i64))) :
    Calls Try.prog 83 #[.slice A l.length c, .int .i64 x] w fun e w' => e = .returned (.int .i64 (cntL l x : Nat)) ∧ w = w' := by
  have HS := Lib.hid (search_int A l c x w hn hs hL)
  clear hs hL
  generalize cntL l x = r at *
  generalize l.length = n at *
  go_enter Try.func83, Try.ntmps83
  go_wp2_with (go_at_call 88; refine HS.out.mono ?_; rintro e w' ⟨t, rfl, rfl⟩)
  go_ret
  exact ⟨rfl, rfl⟩

set_option maxHeartbeats 1000000 in
/-- ranks.increasing. -/
theorem incr_any (A : Option Addr) (l : List Int) (c : Nat) (w : World) (hn : l.length ≤ 17592186044416) (hL : Lies w w.heap.size A (l.map (.int .i64))) :
    Calls Try.prog 89 #[.slice A l.length c] w fun e w' => e = .returned (.bool (inc l)) ∧ ∃ d, w' = w.drewN d := by
  have HL := Lib.hid hL
  obtain ⟨n, hnn⟩ : ∃ n, l.length = n := ⟨_, rfl⟩
  have HN := Lib.hid hnn
  obtain ⟨r, hr⟩ : ∃ r, inc l = r := ⟨_, rfl⟩
  have HR := Lib.hid hr
  rw [hr]
  rw [hnn] at hn ⊢
  clear hnn hL hr
  go_enter Try.func89, Try.ntmps89
  go_wp2
  go_loopw [3] (fun u w' => ∃ k d : Nat, k ≤ n ∧ u = .int .i64 (k + 1 : Nat) ∧ w' = w.drewN d ∧ IncTo l (k + 1)) (fun u _ => n + 1 - (intOf u).toNat)
  case atStart => exact ⟨0, 0, Nat.zero_le _, rfl, rfl, IncTo.one l⟩
  case round =>
    obtain ⟨k, d, hk, rfl, rfl, hin⟩ := hrel
    have HI := Lib.hid hin
    clear hin
    obtain ⟨i, hi⟩ : ∃ i, k + 1 = i := ⟨_, rfl⟩
    rw [hi] at HI ⊢
    have HK := Lib.hid hi
    have hsub : (i : Int) - 1 = (k : Int) := by omega
    have hik : i ≤ n + 1 := by omega
    by_cases hlt : i < n
    · have hkn : k < n := by omega
      have hki : (i : Int) < (n : Int) := by omega
      have hkk : (k : Int) < (n : Int) := by omega
      obtain ⟨b, o, y, rfl, hb, hy, hc⟩ := HL.out.at_ (k := i) (by rw [HN.out]; exact hlt)
      obtain ⟨b2, o2, x, hA, hb2, hx, hc2⟩ := HL.out.at_ (k := k) (by rw [HN.out]; exact hkn)
      obtain ⟨rfl, rfl⟩ : b = b2 ∧ o = o2 := by injection hA with hA; injection hA with h1 h2; exact ⟨h1, h2⟩
      have HX := Lib.hid hx
      have HY := Lib.hid (show l[k + 1]? = some y by rw [HK.out]; exact hy)
      clear hx hy hA hi
      by_cases hle : y ≤ x
      · have HF := Lib.hid (inc_no HX.out HY.out hle)
        go_wp2
        go_quiet (fail)
        go_wp2
        go_ret
        exact ⟨by rw [← HR.out, HF.out]; rfl, by first | exact ⟨_, rfl⟩ | exact ⟨_, World.drewN_drewN _ _ _⟩⟩
      · have HF := Lib.hid (IncTo.step (by rw [HK.out]; exact HI.out) HX.out HY.out (by omega))
        go_wp2
        go_quiet (fail)
        go_wp2
        go_roundw
        case rel => exact ⟨i, _, by omega, by go_num, by first | rfl | (simp only [World.drewN_drewN]; rfl), by have := HF.out; rwa [show k + 2 = i + 1 by have := HK.out; omega] at this⟩
        case measure => simp [intOf]; omega
    · have HF := Lib.hid (HI.out.past (by rw [HN.out]; omega))
      clear hi
      go_wp2
      go_ret
      exact ⟨by rw [← HR.out, HF.out]; rfl, _, rfl⟩

/-- What Find answers: the error; the number. -/
def fndE (l : List Int) : Int := if 300 < l.length then 1 else if inc l then 0 else 4
def fndV (l : List Int) (x : Int) : Int := if 300 < l.length then 0 else if inc l then (cntL l x : Int) else 0

set_option maxHeartbeats 1000000 in
/-- ranks.Find. -/
theorem find_any (A : Option Addr) (l : List Int) (c : Nat) (x : Int) (w : World) (hn : l.length ≤ 17592186044416) (hL : Lies w w.heap.size A (l.map (.int .i64))) :
    Calls Try.prog 84 #[.slice A l.length c, .int .i64 x] w fun e w' => e = .returned (.tuple #[.int .i64 (fndV l x), .int .i64 (fndE l)]) ∧ ∃ d, w' = w.drewN d := by
  by_cases hb : 300 < l.length
  · rw [fndV, fndE, if_pos hb, if_pos hb]
    generalize l.length = n at *
    clear hL
    go_enter Try.func84, Try.ntmps84
    go_wp2
    go_ret2
    exact ⟨rfl, 0, rfl⟩
  · rw [fndV, fndE, if_neg hb, if_neg hb]
    have HI := Lib.hid (incr_any A l c w hn hL)
    have HC := Lib.hid (fun (h : inc l = true) d => less_count A l c x (w.drewN d) (by omega) (rise_le (inc_lt h)) (hL.drewN d))
    generalize cntL l x = r at *
    generalize l.length = n at *
    cases hi : inc l with
    | true =>
      have HC2 := Lib.hid (HC.out hi)
      rw [hi] at HI
      clear HC hi hL
      go_enter Try.func84, Try.ntmps84
      go_wp2_with (go_at_call 89; refine HI.out.mono ?_; rintro e w' ⟨rfl, d, rfl⟩)
      go_wp2_with (go_at_call 83; refine (HC2.out _).mono ?_; rintro e w' ⟨rfl, rfl⟩)
      go_ret2
      exact ⟨rfl, _, rfl⟩
    | false =>
      rw [hi] at HI
      clear HC hi hL
      go_enter Try.func84, Try.ntmps84
      go_wp2_with (go_at_call 89; refine HI.out.mono ?_; rintro e w' ⟨rfl, d, rfl⟩)
      go_ret2
      exact ⟨rfl, _, rfl⟩
/-- .. of a strictly increasing list. -/
theorem find_ok (A : Option Addr) (l : List Int) (c : Nat) (x : Int) (w : World) (hn : l.length ≤ 300) (hs : l.Pairwise (· < ·)) (hL : Lies w w.heap.size A (l.map (.int .i64))) :
    Calls Try.prog 84 #[.slice A l.length c, .int .i64 x] w fun e w' => e = .returned (.tuple #[.int .i64 (cntL l x : Nat), .int .i64 0]) ∧ ∃ d, w' = w.drewN d := by
  have h := find_any A l c x w (by omega) hL
  have e1 : fndV l x = (cntL l x : Int) := by unfold fndV; rw [if_neg (by omega), inc_of hs, if_pos rfl]
  have e2 : fndE l = 0 := by unfold fndE; rw [if_neg (by omega), inc_of hs, if_pos rfl]
  rwa [e1, e2] at h

end Go.Proofs.Ytpkclmfadlkbeaa
