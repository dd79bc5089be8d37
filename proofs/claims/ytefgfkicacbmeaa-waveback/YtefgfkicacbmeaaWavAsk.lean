/-
  What wave.At, Rank, Below, Kth and Next return: contracts, walked over the translated text. No condition but what each theorem names.
-/
import Derived.Test.YtefgfkicacbmeaaWavKt
namespace Go.Proofs.Ytefgfkicacbmeaa
open Go.RowKit Words

/-- The answers, of a valid matrix of n numbers. -/
def atV10 (n : Nat) (bs : List (Nat → Bool)) (i : Int) : Int := if 0 ≤ i ∧ i < n then (val n bs i.toNat : Int) else 0
def atE10 (n : Nat) (i : Int) : Int := if 0 ≤ i ∧ i < n then 0 else 2
def rankV10 (n : Nat) (bs : List (Nat → Bool)) (x i : Int) : Int := if 0 ≤ i ∧ i ≤ n then sameI n bs x 0 i.toNat else 0
def rankE10 (n : Nat) (i : Int) : Int := if 0 ≤ i ∧ i ≤ n then 0 else 2
def belV10 (n : Nat) (bs : List (Nat → Bool)) (a b x : Int) : Int := if 0 ≤ a ∧ a ≤ b ∧ b ≤ n then lessI n bs x a.toNat b.toNat else 0
def belE10 (n : Nat) (a b : Int) : Int := if 0 ≤ a ∧ a ≤ b ∧ b ≤ n then 0 else 2
def kthV10 (n : Nat) (bs : List (Nat → Bool)) (a b k : Int) : Int := if (0 ≤ a ∧ a ≤ b ∧ b ≤ n) ∧ 0 ≤ k ∧ k < b - a then (kv n bs a.toNat b.toNat k.toNat : Int) else 0
def kthE10 (n : Nat) (a b k : Int) : Int := if (0 ≤ a ∧ a ≤ b ∧ b ≤ n) ∧ 0 ≤ k then (if k < b - a then 0 else 7) else 2
def nextV10 (n : Nat) (bs : List (Nat → Bool)) (a b x : Int) : Int := if (0 ≤ a ∧ a ≤ b ∧ b ≤ n) ∧ lessI n bs x a.toNat b.toNat < b - a then (kv n bs a.toNat b.toNat (lessI n bs x a.toNat b.toNat).toNat : Int) else 0
def nextE10 (n : Nat) (bs : List (Nat → Bool)) (a b x : Int) : Int := if 0 ≤ a ∧ a ≤ b ∧ b ≤ n then (if lessI n bs x a.toNat b.toNat < b - a then 0 else 7) else 2

/-- wave.At of what is not valid. -/
theorem wat_form (A : Option Addr) (vs : List Lev) (c : Nat) (i : Int) (w : World) (hk : vs.length ≤ 17592186044416) (hS : ¬ Sound vs) (hM : Mat w w.heap.size A vs) :
    Calls Try.prog 19 #[.agg #[.slice A vs.length c], .int .i64 i] w fun e w' => e = .returned (.tuple #[.int .i64 0, .int .i64 4]) ∧ Below w.heap.size w w' := by
  have HMy := Lib.hid (fun W hW => wmay_no A vs c W hk hS hW)
  have HM := Lib.hid hM
  clear hM hS
  generalize vs.length = k at *
  go_enter Try.func19, Try.ntmps19
  go_wp2_with fail
  refine (HMy.out _ (by exact HM.out.alloc _)).mono ?_
  rintro e w1 ⟨rfl, hb1⟩
  go_wp2
  go_ret2
  exact ⟨rfl, chain (bnew _ _) hb1⟩

set_option maxHeartbeats 1000000 in
/-- wave.At. -/
theorem wat_any (n : Nat) (A : Option Addr) (vs : List Lev) (c : Nat) (i : Int) (w : World) (hV : WV n vs) (hM : Mat w w.heap.size A vs) :
    Calls Try.prog 19 #[.agg #[.slice A vs.length c], .int .i64 i] w fun e w' => e = .returned (.tuple #[.int .i64 (atV10 n (fns vs) i), .int .i64 (atE10 n i)]) ∧ Below w.heap.size w w' := by
  have HMy := Lib.hid (fun W hW => wmay_yes A vs c W hV.sound hW)
  have HLn := Lib.hid (fun W hW => length_any A vs c W hW)
  rw [hV.len] at HLn
  have hn := hV.hi
  have HM := Lib.hid hM
  have hcs : (i < 0) ∨ (¬ i < 0 ∧ (n : Int) ≤ i) ∨ (0 ≤ i ∧ i < n) := by omega
  rcases hcs with h0 | ⟨h0, h1⟩ | ⟨h0, h1⟩
  · have e1 : atV10 n (fns vs) i = 0 := if_neg (by omega)
    have e2 : atE10 n i = 2 := if_neg (by omega)
    rw [e1, e2]
    clear hM hV e1 e2 HLn
    generalize vs.length = k at *
    go_enter Try.func19, Try.ntmps19
    go_wp2_with fail
    refine (HMy.out _ (by exact HM.out.alloc _)).mono ?_
    rintro e w1 ⟨rfl, hb1⟩
    go_wp2
    go_ret2
    exact ⟨rfl, chain (bnew _ _) hb1⟩
  · have e1 : atV10 n (fns vs) i = 0 := if_neg (by omega)
    have e2 : atE10 n i = 2 := if_neg (by omega)
    rw [e1, e2]
    clear hM hV e1 e2
    generalize vs.length = k at *
    go_enter Try.func19, Try.ntmps19
    go_wp2_with fail
    refine (HMy.out _ (by exact HM.out.alloc _)).mono ?_
    rintro e w1 ⟨rfl, hb1⟩
    have hc1 := bcell hb1
    have HMr := Lib.hid ((HM.out.alloc (.cells #[.slice A k c] 25)).on hb1)
    have HB := Lib.hid (chain (bnew _ _) hb1)
    clear hb1
    go_wp2_with (go_at_call 44; refine (HLn.out _ (by exact HMr.out)).mono ?_; rintro e w2 ⟨rfl, hb2⟩)
    go_ret2
    exact ⟨rfl, chain HB.out hb2⟩
  · obtain ⟨j, rfl⟩ : ∃ j : Nat, i = j := ⟨i.toNat, by omega⟩
    have e1 : atV10 n (fns vs) j = (val n (fns vs) j : Nat) := if_pos ⟨h0, h1⟩
    have e2 : atE10 n j = 0 := if_pos ⟨h0, h1⟩
    rw [e1, e2, ← kv_one]
    have HK := Lib.hid (fun W hW => wkth_any n A vs c j (j + 1) 0 W hV hW (by omega) (by omega))
    clear hM hV e1 e2
    generalize kv n (fns vs) j (j + 1) 0 = V at *
    have hd : decide ((j : Int) < 0) = false := by simp
    generalize vs.length = k at *
    have hj1 : ((j + 1 : Nat) : Int) = (j : Int) + 1 := by omega
    simp only [hj1] at HK
    clear hj1
    go_enter Try.func19, Try.ntmps19
    go_wp2_with fail
    refine (HMy.out _ (by exact HM.out.alloc _)).mono ?_
    rintro e w1 ⟨rfl, hb1⟩
    have hc1 := bcell hb1
    have HMr := Lib.hid ((HM.out.alloc (.cells #[.slice A k c] 25)).on hb1)
    have HB := Lib.hid (chain (bnew _ _) hb1)
    have hz1 : w.heap.size < w1.heap.size := by have := hb1.size; simp at this; omega
    clear hb1
    go_wp2_with fail
    refine (HLn.out _ (by exact HMr.out)).mono ?_
    rintro e w2 ⟨rfl, hb2⟩
    have hc2 := bcell hb2
    have HMs := Lib.hid (HMr.out.on hb2)
    have HB2 := Lib.hid (chain HB.out hb2)
    clear hb2
    go_wp2_with fail
    refine (HK.out _ (by exact HMs.out)).mono ?_
    rintro e w3 ⟨rfl, hb3⟩
    go_wp2
    go_ret2
    exact ⟨rfl, chain HB2.out hb3⟩

/-- wave.Rank of what is not valid. -/
theorem wrank_form (A : Option Addr) (vs : List Lev) (c : Nat) (x i : Int) (w : World) (hk : vs.length ≤ 17592186044416) (hS : ¬ Sound vs) (hM : Mat w w.heap.size A vs) :
    Calls Try.prog 21 #[.agg #[.slice A vs.length c], .int .i64 x, .int .i64 i] w fun e w' => e = .returned (.tuple #[.int .i64 0, .int .i64 4]) ∧ Below w.heap.size w w' := by
  have HC := Lib.hid (fun W hW => wcheck_form A vs c 0 i W hk hS hW)
  have HM := Lib.hid hM
  clear hM hS
  generalize vs.length = k at *
  go_enter Try.func21, Try.ntmps21
  go_wp2_with fail
  refine (HC.out _ (by exact HM.out.alloc _)).mono ?_
  rintro e w1 ⟨rfl, hb1⟩
  go_wp2
  go_ret2
  exact ⟨rfl, chain (bnew _ _) hb1⟩

/-- wave.Rank out of range. -/
theorem wrank_out (n : Nat) (A : Option Addr) (vs : List Lev) (c : Nat) (x i : Int) (w : World) (hV : WV n vs) (hM : Mat w w.heap.size A vs) (h : i < 0 ∨ (n : Int) < i) :
    Calls Try.prog 21 #[.agg #[.slice A vs.length c], .int .i64 x, .int .i64 i] w fun e w' => e = .returned (.tuple #[.int .i64 0, .int .i64 2]) ∧ Below w.heap.size w w' := by
  have HC := Lib.hid (fun W hW => wcheck_out A vs c 0 i W hV.sound hW (by rw [hV.len]; omega))
  have HM := Lib.hid hM
  clear hM hV h
  generalize vs.length = k at *
  go_enter Try.func21, Try.ntmps21
  go_wp2_with fail
  refine (HC.out _ (by exact HM.out.alloc _)).mono ?_
  rintro e w1 ⟨rfl, hb1⟩
  go_wp2
  go_ret2
  exact ⟨rfl, chain (bnew _ _) hb1⟩

/-- wave.Rank. -/
theorem wrank_in (n : Nat) (A : Option Addr) (vs : List Lev) (c : Nat) (x : Int) (i : Nat) (w : World) (hV : WV n vs) (hM : Mat w w.heap.size A vs) (hi : i ≤ n) :
    Calls Try.prog 21 #[.agg #[.slice A vs.length c], .int .i64 x, .int .i64 i] w fun e w' => e = .returned (.tuple #[.int .i64 (sameI n (fns vs) x 0 i), .int .i64 0]) ∧ Below w.heap.size w w' := by
  have HC := Lib.hid (fun W hW => wcheck_in A vs c 0 i W hV.sound hW (by omega) (by omega) (by rw [hV.len]; omega))
  have HP := Lib.hid (fun W hW => wcmp_any n A vs c 0 i x W hV hW (Nat.zero_le _) hi)
  clear hV
  generalize sameI n (fns vs) x 0 i = V at *
  generalize lessI n (fns vs) x 0 i = U at *
  have HM := Lib.hid hM
  clear hM
  generalize vs.length = k at *
  go_enter Try.func21, Try.ntmps21
  go_wp2_with fail
  refine (HC.out _ (by exact HM.out.alloc _)).mono ?_
  rintro e w1 ⟨rfl, hb1⟩
  have hc1 := bcell hb1
  have HMr := Lib.hid ((HM.out.alloc (.cells #[.slice A k c] 25)).on hb1)
  have HB := Lib.hid (chain (bnew _ _) hb1)
  have hz1 : w.heap.size < w1.heap.size := by have := hb1.size; simp at this; omega
  clear hb1
  go_wp2_with fail
  refine (HP.out _ (by exact HMr.out)).mono ?_
  rintro e w2 ⟨rfl, hb2⟩
  go_wp2
  go_ret2
  exact ⟨rfl, chain HB.out hb2⟩
theorem wrank_any (n : Nat) (A : Option Addr) (vs : List Lev) (c : Nat) (x i : Int) (w : World) (hV : WV n vs) (hM : Mat w w.heap.size A vs) :
    Calls Try.prog 21 #[.agg #[.slice A vs.length c], .int .i64 x, .int .i64 i] w fun e w' => e = .returned (.tuple #[.int .i64 (rankV10 n (fns vs) x i), .int .i64 (rankE10 n i)]) ∧ Below w.heap.size w w' := by
  unfold rankV10 rankE10
  by_cases h : 0 ≤ i ∧ i ≤ n
  · rw [if_pos h, if_pos h]
    obtain ⟨j, rfl⟩ : ∃ j : Nat, i = j := ⟨i.toNat, by omega⟩
    exact wrank_in n A vs c x j w hV hM (by omega)
  · rw [if_neg h, if_neg h]
    exact wrank_out n A vs c x i w hV hM (by omega)

/-- wave.Below of what is not valid. -/
theorem wbel_form (A : Option Addr) (vs : List Lev) (c : Nat) (a b x : Int) (w : World) (hk : vs.length ≤ 17592186044416) (hS : ¬ Sound vs) (hM : Mat w w.heap.size A vs) :
    Calls Try.prog 23 #[.agg #[.slice A vs.length c], .int .i64 a, .int .i64 b, .int .i64 x] w fun e w' => e = .returned (.tuple #[.int .i64 0, .int .i64 4]) ∧ Below w.heap.size w w' := by
  have HC := Lib.hid (fun W hW => wcheck_form A vs c a b W hk hS hW)
  have HM := Lib.hid hM
  clear hM hS
  generalize vs.length = k at *
  go_enter Try.func23, Try.ntmps23
  go_wp2_with fail
  refine (HC.out _ (by exact HM.out.alloc _)).mono ?_
  rintro e w1 ⟨rfl, hb1⟩
  go_wp2
  go_ret2
  exact ⟨rfl, chain (bnew _ _) hb1⟩

/-- wave.Below out of range. -/
theorem wbel_out (n : Nat) (A : Option Addr) (vs : List Lev) (c : Nat) (a b x : Int) (w : World) (hV : WV n vs) (hM : Mat w w.heap.size A vs) (h : a < 0 ∨ b < a ∨ (n : Int) < b) :
    Calls Try.prog 23 #[.agg #[.slice A vs.length c], .int .i64 a, .int .i64 b, .int .i64 x] w fun e w' => e = .returned (.tuple #[.int .i64 0, .int .i64 2]) ∧ Below w.heap.size w w' := by
  have HC := Lib.hid (fun W hW => wcheck_out A vs c a b W hV.sound hW (by rw [hV.len]; omega))
  have HM := Lib.hid hM
  clear hM hV h
  generalize vs.length = k at *
  go_enter Try.func23, Try.ntmps23
  go_wp2_with fail
  refine (HC.out _ (by exact HM.out.alloc _)).mono ?_
  rintro e w1 ⟨rfl, hb1⟩
  go_wp2
  go_ret2
  exact ⟨rfl, chain (bnew _ _) hb1⟩

/-- wave.Below. -/
theorem wbel_in (n : Nat) (A : Option Addr) (vs : List Lev) (c a b : Nat) (x : Int) (w : World) (hV : WV n vs) (hM : Mat w w.heap.size A vs) (hab : a ≤ b) (hb : b ≤ n) :
    Calls Try.prog 23 #[.agg #[.slice A vs.length c], .int .i64 a, .int .i64 b, .int .i64 x] w fun e w' => e = .returned (.tuple #[.int .i64 (lessI n (fns vs) x a b), .int .i64 0]) ∧ Below w.heap.size w w' := by
  have HC := Lib.hid (fun W hW => wcheck_in A vs c a b W hV.sound hW (by omega) (by omega) (by rw [hV.len]; omega))
  have HP := Lib.hid (fun W hW => wcmp_any n A vs c a b x W hV hW hab hb)
  clear hV
  generalize sameI n (fns vs) x a b = V at *
  generalize lessI n (fns vs) x a b = U at *
  have HM := Lib.hid hM
  clear hM
  generalize vs.length = k at *
  go_enter Try.func23, Try.ntmps23
  go_wp2_with fail
  refine (HC.out _ (by exact HM.out.alloc _)).mono ?_
  rintro e w1 ⟨rfl, hb1⟩
  have hc1 := bcell hb1
  have HMr := Lib.hid ((HM.out.alloc (.cells #[.slice A k c] 25)).on hb1)
  have HB := Lib.hid (chain (bnew _ _) hb1)
  have hz1 : w.heap.size < w1.heap.size := by have := hb1.size; simp at this; omega
  clear hb1
  go_wp2_with fail
  refine (HP.out _ (by exact HMr.out)).mono ?_
  rintro e w2 ⟨rfl, hb2⟩
  go_wp2
  go_ret2
  exact ⟨rfl, chain HB.out hb2⟩
theorem wbel_any (n : Nat) (A : Option Addr) (vs : List Lev) (c : Nat) (a b x : Int) (w : World) (hV : WV n vs) (hM : Mat w w.heap.size A vs) :
    Calls Try.prog 23 #[.agg #[.slice A vs.length c], .int .i64 a, .int .i64 b, .int .i64 x] w fun e w' => e = .returned (.tuple #[.int .i64 (belV10 n (fns vs) a b x), .int .i64 (belE10 n a b)]) ∧ Below w.heap.size w w' := by
  unfold belV10 belE10
  by_cases h : 0 ≤ a ∧ a ≤ b ∧ b ≤ n
  · rw [if_pos h, if_pos h]
    obtain ⟨i, rfl⟩ : ∃ i : Nat, a = i := ⟨a.toNat, by omega⟩
    obtain ⟨j, rfl⟩ : ∃ j : Nat, b = j := ⟨b.toNat, by omega⟩
    exact wbel_in n A vs c i j x w hV hM (by omega) (by omega)
  · rw [if_neg h, if_neg h]
    exact wbel_out n A vs c a b x w hV hM (by omega)

/-- wave.Kth of what is not valid. -/
theorem wkt_form (A : Option Addr) (vs : List Lev) (c : Nat) (a b k1 : Int) (w : World) (hk : vs.length ≤ 17592186044416) (hS : ¬ Sound vs) (hM : Mat w w.heap.size A vs) :
    Calls Try.prog 25 #[.agg #[.slice A vs.length c], .int .i64 a, .int .i64 b, .int .i64 k1] w fun e w' => e = .returned (.tuple #[.int .i64 0, .int .i64 4]) ∧ Below w.heap.size w w' := by
  have HC := Lib.hid (fun W hW => wcheck_form A vs c a b W hk hS hW)
  have HM := Lib.hid hM
  clear hM hS
  generalize vs.length = k at *
  go_enter Try.func25, Try.ntmps25
  go_wp2_with fail
  refine (HC.out _ (by exact HM.out.alloc _)).mono ?_
  rintro e w1 ⟨rfl, hb1⟩
  go_wp2
  go_ret2
  exact ⟨rfl, chain (bnew _ _) hb1⟩

/-- wave.Kth out of range. -/
theorem wkt_out (n : Nat) (A : Option Addr) (vs : List Lev) (c : Nat) (a b k1 : Int) (w : World) (hV : WV n vs) (hM : Mat w w.heap.size A vs) (h : a < 0 ∨ b < a ∨ (n : Int) < b) :
    Calls Try.prog 25 #[.agg #[.slice A vs.length c], .int .i64 a, .int .i64 b, .int .i64 k1] w fun e w' => e = .returned (.tuple #[.int .i64 0, .int .i64 2]) ∧ Below w.heap.size w w' := by
  have HC := Lib.hid (fun W hW => wcheck_out A vs c a b W hV.sound hW (by rw [hV.len]; omega))
  have HM := Lib.hid hM
  clear hM hV h
  generalize vs.length = k at *
  go_enter Try.func25, Try.ntmps25
  go_wp2_with fail
  refine (HC.out _ (by exact HM.out.alloc _)).mono ?_
  rintro e w1 ⟨rfl, hb1⟩
  go_wp2
  go_ret2
  exact ⟨rfl, chain (bnew _ _) hb1⟩

/-- wave.Kth of a negative index, or of one behind the last. -/
theorem wkt_neg (n : Nat) (A : Option Addr) (vs : List Lev) (c a b : Nat) (k1 : Int) (w : World) (hV : WV n vs) (hM : Mat w w.heap.size A vs) (hab : a ≤ b) (hb : b ≤ n) (hk1 : k1 < 0) :
    Calls Try.prog 25 #[.agg #[.slice A vs.length c], .int .i64 a, .int .i64 b, .int .i64 k1] w fun e w' => e = .returned (.tuple #[.int .i64 0, .int .i64 2]) ∧ Below w.heap.size w w' := by
  have HC := Lib.hid (fun W hW => wcheck_in A vs c a b W hV.sound hW (by omega) (by omega) (by rw [hV.len]; omega))
  clear hV
  have HM := Lib.hid hM
  clear hM
  generalize vs.length = k at *
  go_enter Try.func25, Try.ntmps25
  go_wp2_with fail
  refine (HC.out _ (by exact HM.out.alloc _)).mono ?_
  rintro e w1 ⟨rfl, hb1⟩
  have hc1 := bcell hb1
  have HB := Lib.hid (chain (bnew _ _) hb1)
  clear hb1
  go_wp2_with fail
  go_ret2
  exact ⟨rfl, HB.out⟩
theorem wkt_none (n : Nat) (A : Option Addr) (vs : List Lev) (c a b m : Nat) (w : World) (hV : WV n vs) (hM : Mat w w.heap.size A vs) (hab : a ≤ b) (hb : b ≤ n) (hm : b - a ≤ m) :
    Calls Try.prog 25 #[.agg #[.slice A vs.length c], .int .i64 a, .int .i64 b, .int .i64 m] w fun e w' => e = .returned (.tuple #[.int .i64 0, .int .i64 7]) ∧ Below w.heap.size w w' := by
  have HC := Lib.hid (fun W hW => wcheck_in A vs c a b W hV.sound hW (by omega) (by omega) (by rw [hV.len]; omega))
  have hn := hV.hi
  have hd : decide ((m : Int) < 0) = false := by simp
  have hs : (b : Int) - (a : Int) = ((b - a : Nat) : Int) := by omega
  have hd2 : decide (b - a ≤ m) = true := by simpa using hm
  have hba : b - a ≤ 300 := by omega
  clear hV
  generalize b - a = d at *
  have HM := Lib.hid hM
  clear hM
  generalize vs.length = k at *
  go_enter Try.func25, Try.ntmps25
  go_wp2_with fail
  refine (HC.out _ (by exact HM.out.alloc _)).mono ?_
  rintro e w1 ⟨rfl, hb1⟩
  have hc1 := bcell hb1
  have HB := Lib.hid (chain (bnew _ _) hb1)
  clear hb1
  go_wp2_with fail
  go_ret2
  exact ⟨rfl, HB.out⟩
/-- wave.Kth. -/
theorem wkt_in (n : Nat) (A : Option Addr) (vs : List Lev) (c a b m : Nat) (w : World) (hV : WV n vs) (hM : Mat w w.heap.size A vs) (hb : b ≤ n) (hm : m < b - a) :
    Calls Try.prog 25 #[.agg #[.slice A vs.length c], .int .i64 a, .int .i64 b, .int .i64 m] w fun e w' => e = .returned (.tuple #[.int .i64 (kv n (fns vs) a b m : Nat), .int .i64 0]) ∧ Below w.heap.size w w' := by
  have HC := Lib.hid (fun W hW => wcheck_in A vs c a b W hV.sound hW (by omega) (by omega) (by rw [hV.len]; omega))
  have HK := Lib.hid (fun W hW => wkth_any n A vs c a b m W hV hW hm hb)
  have hn := hV.hi
  have hd : decide ((m : Int) < 0) = false := by simp
  have hs : (b : Int) - (a : Int) = ((b - a : Nat) : Int) := by omega
  have hd2 : decide (b - a ≤ m) = false := by simp; omega
  have hba : b - a ≤ 300 := by omega
  clear hV
  generalize kv n (fns vs) a b m = V at *
  generalize b - a = d at *
  have HM := Lib.hid hM
  clear hM
  generalize vs.length = k at *
  go_enter Try.func25, Try.ntmps25
  go_wp2_with fail
  refine (HC.out _ (by exact HM.out.alloc _)).mono ?_
  rintro e w1 ⟨rfl, hb1⟩
  have hc1 := bcell hb1
  have HMr := Lib.hid ((HM.out.alloc (.cells #[.slice A k c] 25)).on hb1)
  have HB := Lib.hid (chain (bnew _ _) hb1)
  have hz1 : w.heap.size < w1.heap.size := by have := hb1.size; simp at this; omega
  clear hb1
  go_wp2_with fail
  refine (HK.out _ (by exact HMr.out)).mono ?_
  rintro e w2 ⟨rfl, hb2⟩
  go_wp2
  go_ret2
  exact ⟨rfl, chain HB.out hb2⟩
theorem wkt_any (n : Nat) (A : Option Addr) (vs : List Lev) (c : Nat) (a b k1 : Int) (w : World) (hV : WV n vs) (hM : Mat w w.heap.size A vs) :
    Calls Try.prog 25 #[.agg #[.slice A vs.length c], .int .i64 a, .int .i64 b, .int .i64 k1] w fun e w' => e = .returned (.tuple #[.int .i64 (kthV10 n (fns vs) a b k1), .int .i64 (kthE10 n a b k1)]) ∧ Below w.heap.size w w' := by
  unfold kthV10 kthE10
  by_cases h : 0 ≤ a ∧ a ≤ b ∧ b ≤ n
  · obtain ⟨i, rfl⟩ : ∃ i : Nat, a = i := ⟨a.toNat, by omega⟩
    obtain ⟨j, rfl⟩ : ∃ j : Nat, b = j := ⟨b.toNat, by omega⟩
    by_cases h0 : 0 ≤ k1
    · obtain ⟨m, rfl⟩ : ∃ m : Nat, k1 = m := ⟨k1.toNat, by omega⟩
      by_cases hlt : (m : Int) < (j : Int) - (i : Int)
      · rw [if_pos ⟨h, h0, hlt⟩, if_pos ⟨h, h0⟩, if_pos hlt]
        exact wkt_in n A vs c i j m w hV hM (by omega) (by omega)
      · rw [if_neg (fun g => hlt g.2.2), if_pos ⟨h, h0⟩, if_neg hlt]
        exact wkt_none n A vs c i j m w hV hM (by omega) (by omega) (by omega)
    · rw [if_neg (fun g => h0 g.2.1), if_neg (fun g => h0 g.2)]
      exact wkt_neg n A vs c i j k1 w hV hM (by omega) (by omega) (by omega)
  · rw [if_neg (fun g => h g.1), if_neg (fun g => h g.1)]
    exact wkt_out n A vs c a b k1 w hV hM (by omega)

/-- wave.Next of what is not valid. -/
theorem wnx_form (A : Option Addr) (vs : List Lev) (c : Nat) (a b x : Int) (w : World) (hk : vs.length ≤ 17592186044416) (hS : ¬ Sound vs) (hM : Mat w w.heap.size A vs) :
    Calls Try.prog 27 #[.agg #[.slice A vs.length c], .int .i64 a, .int .i64 b, .int .i64 x] w fun e w' => e = .returned (.tuple #[.int .i64 0, .int .i64 4]) ∧ Below w.heap.size w w' := by
  have HC := Lib.hid (fun W hW => wcheck_form A vs c a b W hk hS hW)
  have HM := Lib.hid hM
  clear hM hS
  generalize vs.length = k at *
  go_enter Try.func27, Try.ntmps27
  go_wp2_with fail
  refine (HC.out _ (by exact HM.out.alloc _)).mono ?_
  rintro e w1 ⟨rfl, hb1⟩
  go_wp2
  go_ret2
  exact ⟨rfl, chain (bnew _ _) hb1⟩

/-- wave.Next out of range. -/
theorem wnx_out (n : Nat) (A : Option Addr) (vs : List Lev) (c : Nat) (a b x : Int) (w : World) (hV : WV n vs) (hM : Mat w w.heap.size A vs) (h : a < 0 ∨ b < a ∨ (n : Int) < b) :
    Calls Try.prog 27 #[.agg #[.slice A vs.length c], .int .i64 a, .int .i64 b, .int .i64 x] w fun e w' => e = .returned (.tuple #[.int .i64 0, .int .i64 2]) ∧ Below w.heap.size w w' := by
  have HC := Lib.hid (fun W hW => wcheck_out A vs c a b W hV.sound hW (by rw [hV.len]; omega))
  have HM := Lib.hid hM
  clear hM hV h
  generalize vs.length = k at *
  go_enter Try.func27, Try.ntmps27
  go_wp2_with fail
  refine (HC.out _ (by exact HM.out.alloc _)).mono ?_
  rintro e w1 ⟨rfl, hb1⟩
  go_wp2
  go_ret2
  exact ⟨rfl, chain (bnew _ _) hb1⟩

/-- wave.Next where there is none. -/
theorem wnx_none (n : Nat) (A : Option Addr) (vs : List Lev) (c a b : Nat) (x : Int) (w : World) (hV : WV n vs) (hM : Mat w w.heap.size A vs) (hab : a ≤ b) (hb : b ≤ n) (hx : lessI n (fns vs) x a b = (b : Int) - a) :
    Calls Try.prog 27 #[.agg #[.slice A vs.length c], .int .i64 a, .int .i64 b, .int .i64 x] w fun e w' => e = .returned (.tuple #[.int .i64 0, .int .i64 7]) ∧ Below w.heap.size w w' := by
  have HC := Lib.hid (fun W hW => wcheck_in A vs c a b W hV.sound hW (by omega) (by omega) (by rw [hV.len]; omega))
  have HP := Lib.hid (fun W hW => wcmp_any n A vs c a b x W hV hW hab hb)
  have hn := hV.hi
  have hs : (b : Int) - (a : Int) = ((b - a : Nat) : Int) := by omega
  rw [hx, hs] at HP
  have hba : b - a ≤ 300 := by omega
  clear hV hx
  generalize sameI n (fns vs) x a b = V at *
  generalize b - a = d at *
  have HM := Lib.hid hM
  clear hM
  generalize vs.length = k at *
  go_enter Try.func27, Try.ntmps27
  go_wp2_with fail
  refine (HC.out _ (by exact HM.out.alloc _)).mono ?_
  rintro e w1 ⟨rfl, hb1⟩
  have hc1 := bcell hb1
  have HMr := Lib.hid ((HM.out.alloc (.cells #[.slice A k c] 25)).on hb1)
  have HB := Lib.hid (chain (bnew _ _) hb1)
  have hz1 : w.heap.size < w1.heap.size := by have := hb1.size; simp at this; omega
  clear hb1
  go_wp2_with fail
  refine (HP.out _ (by exact HMr.out)).mono ?_
  rintro e w2 ⟨rfl, hb2⟩
  go_wp2
  go_ret2
  exact ⟨rfl, chain HB.out hb2⟩
/-- wave.Next. -/
theorem wnx_in (n : Nat) (A : Option Addr) (vs : List Lev) (c a b m : Nat) (x : Int) (w : World) (hV : WV n vs) (hM : Mat w w.heap.size A vs) (hab : a ≤ b) (hb : b ≤ n) (hx : lessI n (fns vs) x a b = m) (hm : m < b - a) :
    Calls Try.prog 27 #[.agg #[.slice A vs.length c], .int .i64 a, .int .i64 b, .int .i64 x] w fun e w' => e = .returned (.tuple #[.int .i64 (kv n (fns vs) a b m : Nat), .int .i64 0]) ∧ Below w.heap.size w w' := by
  have HC := Lib.hid (fun W hW => wcheck_in A vs c a b W hV.sound hW (by omega) (by omega) (by rw [hV.len]; omega))
  have HP := Lib.hid (fun W hW => wcmp_any n A vs c a b x W hV hW hab hb)
  have HK := Lib.hid (fun W hW => wkth_any n A vs c a b m W hV hW hm hb)
  have hn := hV.hi
  have hs : (b : Int) - (a : Int) = ((b - a : Nat) : Int) := by omega
  rw [hx] at HP
  have hba : b - a ≤ 300 := by omega
  have hd : ((m : Int) == ((b - a : Nat) : Int)) = false := by simp; omega
  clear hV hx
  generalize sameI n (fns vs) x a b = V at *
  generalize kv n (fns vs) a b m = U at *
  generalize b - a = d at *
  have HM := Lib.hid hM
  clear hM
  generalize vs.length = k at *
  go_enter Try.func27, Try.ntmps27
  go_wp2_with fail
  refine (HC.out _ (by exact HM.out.alloc _)).mono ?_
  rintro e w1 ⟨rfl, hb1⟩
  have hc1 := bcell hb1
  have HMr := Lib.hid ((HM.out.alloc (.cells #[.slice A k c] 25)).on hb1)
  have HB := Lib.hid (chain (bnew _ _) hb1)
  have hz1 : w.heap.size < w1.heap.size := by have := hb1.size; simp at this; omega
  clear hb1
  go_wp2_with fail
  refine (HP.out _ (by exact HMr.out)).mono ?_
  rintro e w2 ⟨rfl, hb2⟩
  have hc2 := bcell hb2
  have HMs := Lib.hid (HMr.out.on hb2)
  have HB2 := Lib.hid (chain HB.out hb2)
  clear hb2
  go_wp2_with fail
  refine (HK.out _ (by exact HMs.out)).mono ?_
  rintro e w3 ⟨rfl, hb3⟩
  go_wp2
  go_ret2
  exact ⟨rfl, chain HB2.out hb3⟩
theorem lessI_le (n : Nat) (bs : List (Nat → Bool)) (x : Int) (f t : Nat) (h : f ≤ t) : lessI n bs x f t ≤ (t : Int) - f := num_le _ _ _ _ _ h
theorem lessI_nonneg (n : Nat) (bs : List (Nat → Bool)) (x : Int) (f t : Nat) (h : f ≤ t) : 0 ≤ lessI n bs x f t := num_nonneg _ _ _ _ _ h
theorem wnx_any (n : Nat) (A : Option Addr) (vs : List Lev) (c : Nat) (a b x : Int) (w : World) (hV : WV n vs) (hM : Mat w w.heap.size A vs) :
    Calls Try.prog 27 #[.agg #[.slice A vs.length c], .int .i64 a, .int .i64 b, .int .i64 x] w fun e w' => e = .returned (.tuple #[.int .i64 (nextV10 n (fns vs) a b x), .int .i64 (nextE10 n (fns vs) a b x)]) ∧ Below w.heap.size w w' := by
  unfold nextV10 nextE10
  by_cases h : 0 ≤ a ∧ a ≤ b ∧ b ≤ n
  · obtain ⟨i, rfl⟩ : ∃ i : Nat, a = i := ⟨a.toNat, by omega⟩
    obtain ⟨j, rfl⟩ : ∃ j : Nat, b = j := ⟨b.toNat, by omega⟩
    rw [if_pos h]
    simp only [Int.toNat_natCast]
    have h1 := lessI_le n (fns vs) x i j (by omega)
    have h2 := lessI_nonneg n (fns vs) x i j (by omega)
    by_cases hlt : lessI n (fns vs) x i j < (j : Int) - (i : Int)
    · rw [if_pos ⟨h, hlt⟩, if_pos hlt]
      exact wnx_in n A vs c i j (lessI n (fns vs) x i j).toNat x w hV hM (by omega) (by omega) (by omega) (by omega)
    · rw [if_neg (fun g => hlt g.2), if_neg hlt]
      exact wnx_none n A vs c i j x w hV hM (by omega) (by omega) (by omega)
  · rw [if_neg (fun g => h g.1), if_neg h]
    exact wnx_out n A vs c a b x w hV hM (by omega)
end Go.Proofs.Ytefgfkicacbmeaa
