/-
  What the document's answers to Kth and Next of a matrix return: contracts, walked over the translated text. No condition but what each theorem names.
-/
import Derived.Test.YtefgfkicacbmeaaWavRs
namespace Go.Proofs.Ytefgfkicacbmeaa
open Go.RowKit Words

/-- The document's Kth of what is not valid, and out of range. -/
theorem rwkt_form (A : Option Addr) (vs : List Lev) (c : Nat) (a b k1 : Int) (w : World) (hk : vs.length ≤ 17592186044416) (hws : ∀ v ∈ vs, v.ws.length ≤ 17592186044416) (hS : ¬ Sound vs) (hM : Mat w w.heap.size A vs) :
    Calls Try.prog 26 #[.agg #[.slice A vs.length c], .int .i64 a, .int .i64 b, .int .i64 k1] w fun e w' => e = .returned (.tuple #[.int .i64 0, .int .i64 4]) ∧ Below w.heap.size w w' := by
  have HC := Lib.hid (fun W hW => rwsort_form A vs c a b W hk hws hS hW)
  have HM := Lib.hid hM
  clear hM hS hws
  generalize vs.length = k at *
  go_enter Try.func26, Try.ntmps26
  go_wp2_with fail
  refine (HC.out _ (by exact HM.out.alloc _)).mono ?_
  rintro e w1 ⟨rfl, hb1⟩
  go_wp2_with fail
  go_ret2
  exact ⟨rfl, chain (bnew _ _) hb1⟩
theorem rwkt_out (n : Nat) (A : Option Addr) (vs : List Lev) (c : Nat) (a b k1 : Int) (w : World) (hV : WV n vs) (hws : ∀ v ∈ vs, v.ws.length ≤ 17592186044416) (hM : Mat w w.heap.size A vs) (h : a < 0 ∨ b < a ∨ (n : Int) < b) :
    Calls Try.prog 26 #[.agg #[.slice A vs.length c], .int .i64 a, .int .i64 b, .int .i64 k1] w fun e w' => e = .returned (.tuple #[.int .i64 0, .int .i64 2]) ∧ Below w.heap.size w w' := by
  have HC := Lib.hid (fun W hW => rwsort_out n A vs c a b W hV hws hW h)
  have HM := Lib.hid hM
  clear hM hV hws h
  generalize vs.length = k at *
  go_enter Try.func26, Try.ntmps26
  go_wp2_with fail
  refine (HC.out _ (by exact HM.out.alloc _)).mono ?_
  rintro e w1 ⟨rfl, hb1⟩
  go_wp2_with fail
  go_ret2
  exact ⟨rfl, chain (bnew _ _) hb1⟩

set_option maxHeartbeats 1000000 in
theorem rwkt_neg (n : Nat) (A : Option Addr) (vs : List Lev) (c a b : Nat) (k1 : Int) (w : World) (hV : WV n vs) (hws : ∀ v ∈ vs, v.ws.length ≤ 17592186044416) (hM : Mat w w.heap.size A vs) (hab : a ≤ b) (hbn : b ≤ n) (hk1 : k1 < 0) :
    Calls Try.prog 26 #[.agg #[.slice A vs.length c], .int .i64 a, .int .i64 b, .int .i64 k1] w fun e w' => e = .returned (.tuple #[.int .i64 0, .int .i64 2]) ∧ Below w.heap.size w w' := by
  have HC := Lib.hid (fun W hW => rwsort_in n A vs c a b W hV hws hW hab hbn)
  have HM := Lib.hid hM
  clear hM hV hws
  generalize srt (rng n (fns vs) a b) = S at *
  unfold GivesSorted at HC
  generalize S.length = sl at *
  generalize vs.length = k at *
  go_enter Try.func26, Try.ntmps26
  go_wp2_with fail
  refine (HC.out _ (by exact HM.out.alloc _)).mono ?_
  rintro e w1 ⟨A1, c1, rfl, hle1, hl1, hb1⟩
  have HB := Lib.hid (chain (bnew _ _) hb1)
  clear hl1 hb1
  go_wp2_with fail
  go_ret2
  exact ⟨rfl, HB.out⟩

set_option maxHeartbeats 1000000 in
theorem rwkt_none (n : Nat) (A : Option Addr) (vs : List Lev) (c a b m : Nat) (w : World) (hV : WV n vs) (hws : ∀ v ∈ vs, v.ws.length ≤ 17592186044416) (hM : Mat w w.heap.size A vs) (hab : a ≤ b) (hbn : b ≤ n) (hm : b - a ≤ m) :
    Calls Try.prog 26 #[.agg #[.slice A vs.length c], .int .i64 a, .int .i64 b, .int .i64 m] w fun e w' => e = .returned (.tuple #[.int .i64 0, .int .i64 7]) ∧ Below w.heap.size w w' := by
  have HC := Lib.hid (fun W hW => rwsort_in n A vs c a b W hV hws hW hab hbn)
  have HM := Lib.hid hM
  have hrl := rng_length n (fns vs) a b hbn
  have hsl := srt_length (rng n (fns vs) a b)
  clear hM hV hws
  generalize srt (rng n (fns vs) a b) = S at *
  have hSl : S.length ≤ m := by omega
  clear hrl hsl
  have hd0 : decide ((m : Int) < 0) = false := by simp
  unfold GivesSorted at HC
  generalize S.length = sl at *
  have hd1 : decide (sl ≤ m) = true := by simpa using hSl
  generalize vs.length = k at *
  go_enter Try.func26, Try.ntmps26
  go_wp2_with fail
  refine (HC.out _ (by exact HM.out.alloc _)).mono ?_
  rintro e w1 ⟨A1, c1, rfl, hle1, hl1, hb1⟩
  have HB := Lib.hid (chain (bnew _ _) hb1)
  clear hl1 hb1
  go_wp2_with fail
  go_ret2
  exact ⟨rfl, HB.out⟩

set_option maxHeartbeats 1000000 in
/-- The document's Kth. -/
theorem rwkt_in (n : Nat) (A : Option Addr) (vs : List Lev) (c a b m : Nat) (w : World) (hV : WV n vs) (hws : ∀ v ∈ vs, v.ws.length ≤ 17592186044416) (hM : Mat w w.heap.size A vs) (hbn : b ≤ n) (hm : m < b - a) :
    Calls Try.prog 26 #[.agg #[.slice A vs.length c], .int .i64 a, .int .i64 b, .int .i64 m] w fun e w' => e = .returned (.tuple #[.int .i64 (kv n (fns vs) a b m : Nat), .int .i64 0]) ∧ Below w.heap.size w w' := by
  have hab : a ≤ b := by omega
  have HC := Lib.hid (fun W hW => rwsort_in n A vs c a b W hV hws hW hab hbn)
  have HM := Lib.hid hM
  have hrl := rng_length n (fns vs) a b hbn
  have hsl := srt_length (rng n (fns vs) a b)
  have HKv := Lib.hid (fun x hx => sorted_kv n (fns vs) a b m hab hbn _ (srt_sorted (rng n (fns vs) a b)) (srt_perm (rng n (fns vs) a b)) x hx)
  clear hM hV hws
  generalize kv n (fns vs) a b m = V at *
  generalize srt (rng n (fns vs) a b) = S at *
  have hSl : m < S.length := by omega
  clear hrl hsl
  have hd0 : decide ((m : Int) < 0) = false := by simp
  unfold GivesSorted at HC
  generalize hss : S.length = sl at *
  have HSS := Lib.hid hss
  clear hss
  have hd1 : decide (sl ≤ m) = false := by simp; omega
  generalize vs.length = k at *
  go_enter Try.func26, Try.ntmps26
  go_wp2_with fail
  refine (HC.out _ (by exact HM.out.alloc _)).mono ?_
  rintro e w1 ⟨A1, c1, rfl, hle1, hl1, hb1⟩
  obtain ⟨b1, o1, y, rfl, _, hy, hc⟩ := hl1.at_ (k := m) (by rw [HSS.out]; exact hSl)
  obtain rfl : y = (V : Int) := HKv.out y hy
  have HB := Lib.hid (chain (bnew _ _) hb1)
  clear hl1 hb1 hy
  go_wp2_with fail
  go_ret2
  exact ⟨rfl, HB.out⟩
theorem rwkt_any (n : Nat) (A : Option Addr) (vs : List Lev) (c : Nat) (a b k1 : Int) (w : World) (hV : WV n vs) (hws : ∀ v ∈ vs, v.ws.length ≤ 17592186044416) (hM : Mat w w.heap.size A vs) :
    Calls Try.prog 26 #[.agg #[.slice A vs.length c], .int .i64 a, .int .i64 b, .int .i64 k1] w fun e w' => e = .returned (.tuple #[.int .i64 (kthV10 n (fns vs) a b k1), .int .i64 (kthE10 n a b k1)]) ∧ Below w.heap.size w w' := by
  unfold kthV10 kthE10
  by_cases h : 0 ≤ a ∧ a ≤ b ∧ b ≤ n
  · obtain ⟨i, rfl⟩ : ∃ i : Nat, a = i := ⟨a.toNat, by omega⟩
    obtain ⟨j, rfl⟩ : ∃ j : Nat, b = j := ⟨b.toNat, by omega⟩
    by_cases h0 : 0 ≤ k1
    · obtain ⟨m, rfl⟩ : ∃ m : Nat, k1 = m := ⟨k1.toNat, by omega⟩
      by_cases hlt : (m : Int) < (j : Int) - (i : Int)
      · rw [if_pos ⟨h, h0, hlt⟩, if_pos ⟨h, h0⟩, if_pos hlt]
        exact rwkt_in n A vs c i j m w hV hws hM (by omega) (by omega)
      · rw [if_neg (fun g => hlt g.2.2), if_pos ⟨h, h0⟩, if_neg hlt]
        exact rwkt_none n A vs c i j m w hV hws hM (by omega) (by omega) (by omega)
    · rw [if_neg (fun g => h0 g.2.1), if_neg (fun g => h0 g.2)]
      exact rwkt_neg n A vs c i j k1 w hV hws hM (by omega) (by omega) (by omega)
  · rw [if_neg (fun g => h g.1), if_neg (fun g => h g.1)]
    exact rwkt_out n A vs c a b k1 w hV hws hM (by omega)

/-- The document's Next of what is not valid, and out of range. -/
theorem rwnx_form (A : Option Addr) (vs : List Lev) (c : Nat) (a b x : Int) (w : World) (hk : vs.length ≤ 17592186044416) (hws : ∀ v ∈ vs, v.ws.length ≤ 17592186044416) (hS : ¬ Sound vs) (hM : Mat w w.heap.size A vs) :
    Calls Try.prog 28 #[.agg #[.slice A vs.length c], .int .i64 a, .int .i64 b, .int .i64 x] w fun e w' => e = .returned (.tuple #[.int .i64 0, .int .i64 4]) ∧ Below w.heap.size w w' := by
  have HC := Lib.hid (fun W hW => rwsort_form A vs c a b W hk hws hS hW)
  have HM := Lib.hid hM
  clear hM hS hws
  generalize vs.length = k at *
  go_enter Try.func28, Try.ntmps28
  go_wp2_with fail
  refine (HC.out _ (by exact HM.out.alloc _)).mono ?_
  rintro e w1 ⟨rfl, hb1⟩
  go_wp2_with fail
  go_ret2
  exact ⟨rfl, chain (bnew _ _) hb1⟩
theorem rwnx_out (n : Nat) (A : Option Addr) (vs : List Lev) (c : Nat) (a b x : Int) (w : World) (hV : WV n vs) (hws : ∀ v ∈ vs, v.ws.length ≤ 17592186044416) (hM : Mat w w.heap.size A vs) (h : a < 0 ∨ b < a ∨ (n : Int) < b) :
    Calls Try.prog 28 #[.agg #[.slice A vs.length c], .int .i64 a, .int .i64 b, .int .i64 x] w fun e w' => e = .returned (.tuple #[.int .i64 0, .int .i64 2]) ∧ Below w.heap.size w w' := by
  have HC := Lib.hid (fun W hW => rwsort_out n A vs c a b W hV hws hW h)
  have HM := Lib.hid hM
  clear hM hV hws h
  generalize vs.length = k at *
  go_enter Try.func28, Try.ntmps28
  go_wp2_with fail
  refine (HC.out _ (by exact HM.out.alloc _)).mono ?_
  rintro e w1 ⟨rfl, hb1⟩
  go_wp2_with fail
  go_ret2
  exact ⟨rfl, chain (bnew _ _) hb1⟩

set_option maxHeartbeats 2000000 in
/-- The document's Next. -/
theorem rwnx_in (n : Nat) (A : Option Addr) (vs : List Lev) (c a b : Nat) (x : Int) (w : World) (hV : WV n vs) (hws : ∀ v ∈ vs, v.ws.length ≤ 17592186044416) (hM : Mat w w.heap.size A vs) (hab : a ≤ b) (hbn : b ≤ n) (V Q : Int)
    (hVQ : (lessI n (fns vs) x a b < (b : Int) - a ∧ V = (kv n (fns vs) a b (lessI n (fns vs) x a b).toNat : Nat) ∧ Q = 0) ∨ (¬ lessI n (fns vs) x a b < (b : Int) - a ∧ V = 0 ∧ Q = 7)) :
    Calls Try.prog 28 #[.agg #[.slice A vs.length c], .int .i64 a, .int .i64 b, .int .i64 x] w fun e w' => e = .returned (.tuple #[.int .i64 V, .int .i64 Q]) ∧ Below w.heap.size w w' := by
  have HC := Lib.hid (fun W hW => rwsort_in n A vs c a b W hV hws hW hab hbn)
  have HM := Lib.hid hM
  have hn := hV.hi
  have hrl := rng_length n (fns vs) a b hbn
  have hsl := srt_length (rng n (fns vs) a b)
  obtain ⟨m, hm, hm1, hm2⟩ := cut_ex (srt (rng n (fns vs) a b)) x
  rw [lessI_cut n (fns vs) x a b m hab hbn hm hm1 hm2, Int.toNat_natCast] at hVQ
  have HKv := Lib.hid (fun x hx => sorted_kv n (fns vs) a b m hab hbn _ (srt_sorted (rng n (fns vs) a b)) (srt_perm (rng n (fns vs) a b)) x hx)
  clear hM hV hws
  generalize kv n (fns vs) a b m = U at *
  generalize srt (rng n (fns vs) a b) = S at *
  have hSl : S.length ≤ 300 := by omega
  have hba : (b : Int) - a = (S.length : Nat) := by omega
  rw [hba] at hVQ
  have HVQ := Lib.hid hVQ
  clear hrl hsl hba hVQ
  have HM1 := Lib.hid hm1
  have HM2 := Lib.hid hm2
  clear hm1 hm2
  unfold GivesSorted at HC
  generalize hss : S.length = sl at *
  have HSS := Lib.hid hss
  clear hss
  generalize vs.length = k at *
  go_enter Try.func28, Try.ntmps28
  go_wp2_with fail
  refine (HC.out _ (by exact HM.out.alloc _)).mono ?_
  rintro e w1 ⟨A1, c1, rfl, hle1, hl1, hb1⟩
  have HL := Lib.hid hl1
  have HB := Lib.hid (chain (bnew _ _) hb1)
  clear hl1 hb1
  go_wp2_with fail
  go_loop [26] (fun s26 => ∃ j : Nat, j ≤ m ∧ s26 = .int .i64 j) (fun s26 => m - (intOf s26).toNat)
  case atStart => exact ⟨0, Nat.zero_le _, rfl⟩
  case round =>
    obtain ⟨j, hj, rfl⟩ := hrel
    by_cases hlt : j < sl
    · obtain ⟨b1, o1, y, rfl, _, hy, hc⟩ := HL.out.at_ (k := j) (by rw [HSS.out]; exact hlt)
      by_cases hjm : j < m
      · have hyx := HM1.out j y hjm hy
        have hd : decide (x ≤ y) = false := by simp; omega
        clear hy hyx
        go_wp2_with fail
        go_round
        case rel => exact ⟨j + 1, by omega, by go_num⟩
        case measure => simp [intOf]; omega
      · obtain rfl : m = j := by omega
        have hyx := HM2.out y hy
        have hd : decide (x ≤ y) = true := by simpa using hyx
        have hyU := HKv.out y hy
        have hc2 : V = y ∧ Q = 0 := by
          rcases HVQ.out with ⟨_, h1, h2⟩ | ⟨h1, _, _⟩
          · exact ⟨by rw [h1, hyU], h2⟩
          · omega
        obtain ⟨rfl, rfl⟩ := hc2
        clear hy hyx hyU HVQ HKv
        go_wp2_with fail
        go_ret2
        exact ⟨rfl, HB.out⟩
    · have hc2 : V = 0 ∧ Q = 7 := by
        rcases HVQ.out with ⟨h0, h1, h2⟩ | ⟨_, h1, h2⟩
        · omega
        · exact ⟨h1, h2⟩
      obtain ⟨rfl, rfl⟩ := hc2
      obtain rfl : m = j := by omega
      clear HVQ HKv
      go_wp2_with fail
      go_ret2
      exact ⟨rfl, HB.out⟩
theorem rwnx_any (n : Nat) (A : Option Addr) (vs : List Lev) (c : Nat) (a b x : Int) (w : World) (hV : WV n vs) (hws : ∀ v ∈ vs, v.ws.length ≤ 17592186044416) (hM : Mat w w.heap.size A vs) :
    Calls Try.prog 28 #[.agg #[.slice A vs.length c], .int .i64 a, .int .i64 b, .int .i64 x] w fun e w' => e = .returned (.tuple #[.int .i64 (nextV10 n (fns vs) a b x), .int .i64 (nextE10 n (fns vs) a b x)]) ∧ Below w.heap.size w w' := by
  unfold nextV10 nextE10
  by_cases h : 0 ≤ a ∧ a ≤ b ∧ b ≤ n
  · obtain ⟨i, rfl⟩ : ∃ i : Nat, a = i := ⟨a.toNat, by omega⟩
    obtain ⟨j, rfl⟩ : ∃ j : Nat, b = j := ⟨b.toNat, by omega⟩
    rw [if_pos h]
    simp only [Int.toNat_natCast]
    by_cases hlt : lessI n (fns vs) x i j < (j : Int) - (i : Int)
    · rw [if_pos ⟨h, hlt⟩, if_pos hlt]
      exact rwnx_in n A vs c i j x w hV hws hM (by omega) (by omega) _ _ (.inl ⟨hlt, rfl, rfl⟩)
    · rw [if_neg (fun g => hlt g.2), if_neg hlt]
      exact rwnx_in n A vs c i j x w hV hws hM (by omega) (by omega) _ _ (.inr ⟨hlt, rfl, rfl⟩)
  · rw [if_neg (fun g => h g.1), if_neg h]
    exact rwnx_out n A vs c a b x w hV hws hM (by omega)
end Go.Proofs.Ytefgfkicacbmeaa
