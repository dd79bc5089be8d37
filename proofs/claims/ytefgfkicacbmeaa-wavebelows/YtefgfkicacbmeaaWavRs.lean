/-
  What the document's answers to Below, Kth and Next of a matrix return: contracts, walked over the translated text. No condition but what each theorem names.
-/
import Derived.Test.YtefgfkicacbmeaaWavRa
import Derived.Test.YtefgfkicacbmeaaSrtRow
namespace Go.Proofs.Ytefgfkicacbmeaa
open Go.RowKit Words

/-- The document's sorted range of what is not valid. -/
theorem rwsort_form (A : Option Addr) (vs : List Lev) (c : Nat) (a b : Int) (w : World) (hk : vs.length ≤ 17592186044416) (hws : ∀ v ∈ vs, v.ws.length ≤ 17592186044416) (hS : ¬ Sound vs) (hM : Mat w w.heap.size A vs) :
    Calls Try.prog 51 #[.agg #[.slice A vs.length c], .int .i64 a, .int .i64 b] w fun e w' => e = .returned (.tuple #[.slice none 0 0, .int .i64 4]) ∧ Below w.heap.size w w' := by
  have HMy := Lib.hid (fun W hW => rwmay_no A vs c W hk hws hS hW)
  have HM := Lib.hid hM
  clear hM hS hws
  generalize vs.length = k at *
  go_enter Try.func51, Try.ntmps51
  go_wp2_with fail
  refine (HMy.out _ (by exact HM.out.alloc _)).mono ?_
  rintro e w1 ⟨rfl, hb1⟩
  go_wp2
  go_ret2
  exact ⟨rfl, chain (bnew _ _) hb1⟩

set_option maxHeartbeats 1000000 in
/-- .. out of range. -/
theorem rwsort_out (n : Nat) (A : Option Addr) (vs : List Lev) (c : Nat) (a b : Int) (w : World) (hV : WV n vs) (hws : ∀ v ∈ vs, v.ws.length ≤ 17592186044416) (hM : Mat w w.heap.size A vs) (h : a < 0 ∨ b < a ∨ (n : Int) < b) :
    Calls Try.prog 51 #[.agg #[.slice A vs.length c], .int .i64 a, .int .i64 b] w fun e w' => e = .returned (.tuple #[.slice none 0 0, .int .i64 2]) ∧ Below w.heap.size w w' := by
  have HMy := Lib.hid (fun W hW => rwmay_yes A vs c W hV.sound hws hW)
  have HRd := Lib.hid (fun W hW => rwread_any n A vs c W hV hW)
  have hn := hV.hi
  have HM := Lib.hid hM
  have hlsl := lsI_length n (fns vs)
  clear hM hV hws
  generalize vs.length = k at *
  have hh : a < 0 ∨ (¬ a < 0 ∧ b < a) ∨ (¬ a < 0 ∧ ¬ b < a ∧ (n : Int) < b) := by omega
  clear h
  rcases hh with h0 | ⟨h0, h1⟩ | ⟨h0, h1, h2⟩
  all_goals
    go_enter Try.func51, Try.ntmps51
    go_wp2_with fail
    refine (HMy.out _ (by exact HM.out.alloc _)).mono ?_
    rintro e w1 ⟨rfl, hb1⟩
    have hc1 := bcell hb1
    go_wp2_with fail
    refine (HRd.out _ (by exact (HM.out.alloc _).on hb1)).mono ?_
    rintro e w2 ⟨A', c', rfl, _, _, _, _, hb2⟩
    simp only [List.length_map, hlsl]
    clear hlsl
    go_wp2
    go_ret2
    exact ⟨rfl, chain (chain (bnew _ _) hb1) hb2⟩

/-- What it leaves that sorted a range. -/
def GivesSorted (w : World) (l : List Int) (e : Ending) (w' : World) : Prop := ∃ A c, e = .returned (.tuple #[.slice A l.length c, .int .i64 0]) ∧ l.length ≤ c ∧ Lies w' w'.heap.size A (l.map (.int .i64)) ∧ Below w.heap.size w w'

theorem rng_cells (n : Nat) (bs : List (Nat → Bool)) (a b : Nat) : ((((lsI n bs).map (Value.int .i64)).drop a).take (b - a)) = (rng n bs a b).map (.int .i64) := by
  unfold rng; rw [List.map_take, List.map_drop]

set_option maxHeartbeats 2000000 in
/-- The document's sorted range. -/
theorem rwsort_in (n : Nat) (A : Option Addr) (vs : List Lev) (c a b : Nat) (w : World) (hV : WV n vs) (hws : ∀ v ∈ vs, v.ws.length ≤ 17592186044416) (hM : Mat w w.heap.size A vs) (hab : a ≤ b) (hbn : b ≤ n) :
    Calls Try.prog 51 #[.agg #[.slice A vs.length c], .int .i64 a, .int .i64 b] w (GivesSorted w (srt (rng n (fns vs) a b))) := by
  have HMy := Lib.hid (fun W hW => rwmay_yes A vs c W hV.sound hws hW)
  have HRd := Lib.hid (fun W hW => rwread_any n A vs c W hV hW)
  have hn := hV.hi
  have HM := Lib.hid hM
  have hlsl := lsI_length n (fns vs)
  have hrl := rng_length n (fns vs) a b hbn
  have HRC := Lib.hid (rng_cells n (fns vs) a b)
  have hd0 : decide ((a : Int) < 0) = false := by simp
  have hd1 : decide (b < a) = false := by simp; omega
  have hd2 : decide (n < b) = false := by simp; omega
  have HO := Lib.hid (cells_one (rng n (fns vs) a b))
  clear hM hV hws
  generalize vs.length = k at *
  generalize rng n (fns vs) a b = R at *
  generalize hll : (lsI n (fns vs)).map (Value.int .i64) = xs at *
  have hxl : xs.length = n := by rw [← hll, List.length_map, hlsl]
  have HXL := Lib.hid hxl
  have HRL := Lib.hid hrl
  have hsr := Lib.hid (srt_length R)
  clear hll hxl hlsl hrl
  go_enter Try.func51, Try.ntmps51
  go_wp2_with fail
  refine (HMy.out _ (by exact HM.out.alloc _)).mono ?_
  rintro e w1 ⟨rfl, hb1⟩
  have hc1 := bcell hb1
  go_wp2_with fail
  refine (HRd.out _ (by exact (HM.out.alloc _).on hb1)).mono ?_
  rintro e w2 ⟨A', c', rfl, hle, hl, hnone, _, hb2⟩
  rw [HXL.out] at hle ⊢
  have HB := Lib.hid (chain (chain (bnew _ _) hb1) hb2)
  obtain ⟨A3, hrun, hl3, hnone3⟩ := slice_row (P := Try.prog) 22 (by kernel_rfl) (fun W => by kernel_rfl) hab hbn hle hl HXL.out hnone
  have hsa : ∀ W, (Instr.sliceAt 22 (.slice A' n c') (some (.int .i64 (a : Int))) (some (.int .i64 (b : Int))) none).run Try.prog W = .ok (.slice A3 (b - a) (c' - a)) W := fun W => (run_sliceAt_slice W 22 _ _ _ _ (by kernel_rfl)).trans (hrun W)
  rw [HRC.out] at hl3
  have HL3 := Lib.hid hl3
  have HN3 := Lib.hid hnone3
  clear hl hnone hb1 hb2 hc1 hl3 hnone3
  generalize hdd : b - a = d at *
  have HD := Lib.hid hdd
  have hdn : d ≤ 300 := by omega
  generalize c' - a = c3 at *
  have hac : (a : Int) ≤ (b : Int) := by omega
  have hbc : (b : Int) ≤ (c' : Int) := by omega
  clear hdd
  go_wp2_with (at_builtin; go_loud (refine append_from _ rfl (.const (.slice none 0 0)) (.tmp 31) 22 rfl w2.heap.size 3 (.int .i64 0) 8 Try.underlying22 wint_info rfl (.slice none 0 0) 0 [] rfl (World.ownsRow_nil _ _ _ _) A3 d c3 (R.map (.int .i64)) rfl (by rw [List.length_map, HRL.out]) HN3.out HL3.out HO.out (by simp only [maxLen]; omega) (by omega) (Nat.le_refl _) ?_))
  intro v1 w3 hown1 hg1
  have hownR : w3.ownsRow w2.heap.size 3 1 v1 R.length (R.map (.int .i64)) := by rw [HRL.out]; simpa using hown1
  have HSI := Lib.hid (sortInts_own w2.heap.size v1 R w3 hownR (by rw [HRL.out]; omega))
  have hb3 : Below w2.heap.size w2 w3 := (Below.refl _ _).grown hg1 (Nat.le_refl _) (fun q hq => by cases hq)
  have HB3 := Lib.hid (chain HB.out hb3)
  have hv1 := Lib.hid (fun q hq => (hownR.lt q hq).1)
  have hs3 := hb3.size
  have hs2 := HB.out.size
  clear hownR hown1 hg1 hb3 HB
  go_wp2_with fail
  refine HSI.out.mono ?_
  rintro e w4 ⟨rfl, hown4, hg4⟩
  obtain ⟨A4, c4, rfl, hle4, hlen4, hl4, hn4, _⟩ := own_slice hown4
  have HB4 := Lib.hid (HB3.out.grown hg4 (by have := HB3.out.size; omega) (fun q hq => Nat.le_trans hs2 (hv1.out q hq)))
  have HL4 := Lib.hid hl4
  have hres : GivesSorted w (srt R) (.returned (.tuple #[.slice A4 R.length c4, .int .i64 0])) w4 := ⟨A4, c4, by rw [hsr.out], by rw [hsr.out]; exact hle4, HL4.out, HB4.out⟩
  have HRes := Lib.hid hres
  clear hown4 hg4 hlen4 hl4 hn4 hres
  go_wp2_with fail
  go_ret2
  exact HRes.out

/-- The document's Below of what is not valid, and out of range. -/
theorem rwbel_form (A : Option Addr) (vs : List Lev) (c : Nat) (a b x : Int) (w : World) (hk : vs.length ≤ 17592186044416) (hws : ∀ v ∈ vs, v.ws.length ≤ 17592186044416) (hS : ¬ Sound vs) (hM : Mat w w.heap.size A vs) :
    Calls Try.prog 24 #[.agg #[.slice A vs.length c], .int .i64 a, .int .i64 b, .int .i64 x] w fun e w' => e = .returned (.tuple #[.int .i64 0, .int .i64 4]) ∧ Below w.heap.size w w' := by
  have HC := Lib.hid (fun W hW => rwsort_form A vs c a b W hk hws hS hW)
  have HM := Lib.hid hM
  clear hM hS hws
  generalize vs.length = k at *
  go_enter Try.func24, Try.ntmps24
  go_wp2_with fail
  refine (HC.out _ (by exact HM.out.alloc _)).mono ?_
  rintro e w1 ⟨rfl, hb1⟩
  go_wp2_with fail
  go_loop [12] (fun s12 => s12 = .int .i64 0) (fun _ => 0)
  case atStart => rfl
  case round =>
    subst hrel
    go_wp2_with fail
    go_ret2
    exact ⟨rfl, chain (bnew _ _) hb1⟩
theorem rwbel_out (n : Nat) (A : Option Addr) (vs : List Lev) (c : Nat) (a b x : Int) (w : World) (hV : WV n vs) (hws : ∀ v ∈ vs, v.ws.length ≤ 17592186044416) (hM : Mat w w.heap.size A vs) (h : a < 0 ∨ b < a ∨ (n : Int) < b) :
    Calls Try.prog 24 #[.agg #[.slice A vs.length c], .int .i64 a, .int .i64 b, .int .i64 x] w fun e w' => e = .returned (.tuple #[.int .i64 0, .int .i64 2]) ∧ Below w.heap.size w w' := by
  have HC := Lib.hid (fun W hW => rwsort_out n A vs c a b W hV hws hW h)
  have HM := Lib.hid hM
  clear hM hV hws h
  generalize vs.length = k at *
  go_enter Try.func24, Try.ntmps24
  go_wp2_with fail
  refine (HC.out _ (by exact HM.out.alloc _)).mono ?_
  rintro e w1 ⟨rfl, hb1⟩
  go_wp2_with fail
  go_loop [12] (fun s12 => s12 = .int .i64 0) (fun _ => 0)
  case atStart => rfl
  case round =>
    subst hrel
    go_wp2_with fail
    go_ret2
    exact ⟨rfl, chain (bnew _ _) hb1⟩

theorem lessI_count (n : Nat) (bs : List (Nat → Bool)) (x : Int) (a b : Nat) (hab : a ≤ b) (hb : b ≤ n) : lessI n bs x a b = ((srt (rng n bs a b)).countP (fun z => decide (z < x)) : Int) := by
  rw [(srt_perm (rng n bs a b)).countP_eq]
  exact num_count n bs (fun z => decide (z < x)) a b hab hb
/-- The first place of a sorted list whose number is not less than x. -/
theorem cut_ex (l : List Int) (x : Int) : ∃ m, m ≤ l.length ∧ (∀ j z, j < m → l[j]? = some z → z < x) ∧ (∀ z, l[m]? = some z → x ≤ z) := by
  induction l with
  | nil => exact ⟨0, Nat.le_refl _, (fun j z h => by omega), (fun z h => by cases h)⟩
  | cons y l ih =>
    by_cases h : y < x
    · obtain ⟨m, h1, h2, h3⟩ := ih
      refine ⟨m + 1, by simp; omega, fun j z hj hz => ?_, fun z hz => h3 z (by simpa using hz)⟩
      cases j with
      | zero =>
        obtain rfl : y = z := by simpa using hz
        exact h
      | succ j => exact h2 j z (by omega) (by simpa using hz)
    · exact ⟨0, Nat.zero_le _, (fun j z h => by omega), (fun z hz => by
        obtain rfl : y = z := by simpa using hz
        omega)⟩
theorem lessI_cut (n : Nat) (bs : List (Nat → Bool)) (x : Int) (a b m : Nat) (hab : a ≤ b) (hb : b ≤ n) (hm : m ≤ (srt (rng n bs a b)).length) (h1 : ∀ j z, j < m → (srt (rng n bs a b))[j]? = some z → z < x) (h2 : ∀ z, (srt (rng n bs a b))[m]? = some z → x ≤ z) : lessI n bs x a b = (m : Int) := by
  rw [lessI_count n bs x a b hab hb, sorted_cut _ (srt_sorted _) x m hm h1 h2]

set_option maxHeartbeats 2000000 in
/-- The document's Below. -/
theorem rwbel_in (n : Nat) (A : Option Addr) (vs : List Lev) (c a b : Nat) (x : Int) (w : World) (hV : WV n vs) (hws : ∀ v ∈ vs, v.ws.length ≤ 17592186044416) (hM : Mat w w.heap.size A vs) (hab : a ≤ b) (hbn : b ≤ n) :
    Calls Try.prog 24 #[.agg #[.slice A vs.length c], .int .i64 a, .int .i64 b, .int .i64 x] w fun e w' => e = .returned (.tuple #[.int .i64 (lessI n (fns vs) x a b), .int .i64 0]) ∧ Below w.heap.size w w' := by
  have HC := Lib.hid (fun W hW => rwsort_in n A vs c a b W hV hws hW hab hbn)
  have HM := Lib.hid hM
  have hn := hV.hi
  have hrl := rng_length n (fns vs) a b hbn
  have hsl := srt_length (rng n (fns vs) a b)
  obtain ⟨m, hm, hm1, hm2⟩ := cut_ex (srt (rng n (fns vs) a b)) x
  rw [lessI_cut n (fns vs) x a b m hab hbn hm hm1 hm2]
  clear hM hV hws
  generalize srt (rng n (fns vs) a b) = S at *
  have hSl : S.length ≤ 300 := by omega
  clear hrl hsl
  have HM1 := Lib.hid hm1
  have HM2 := Lib.hid hm2
  clear hm1 hm2
  unfold GivesSorted at HC
  generalize hss : S.length = sl at *
  have HSS := Lib.hid hss
  clear hss
  generalize vs.length = k at *
  go_enter Try.func24, Try.ntmps24
  go_wp2_with fail
  refine (HC.out _ (by exact HM.out.alloc _)).mono ?_
  rintro e w1 ⟨A1, c1, rfl, hle1, hl1, hb1⟩
  have HL := Lib.hid hl1
  have HB := Lib.hid (chain (bnew _ _) hb1)
  clear hl1 hb1
  go_wp2_with fail
  go_loop [12] (fun s12 => ∃ j : Nat, j ≤ m ∧ s12 = .int .i64 j) (fun s12 => m - (intOf s12).toNat)
  case atStart => exact ⟨0, Nat.zero_le _, rfl⟩
  case round =>
    obtain ⟨j, hj, rfl⟩ := hrel
    by_cases hlt : j < sl
    · obtain ⟨b1, o1, y, rfl, _, hy, hc⟩ := HL.out.at_ (k := j) (by rw [HSS.out]; exact hlt)
      by_cases hjm : j < m
      · have hyx := HM1.out j y hjm hy
        have hd : decide (y < x) = true := by simpa using hyx
        clear hy hyx
        go_wp2_with fail
        go_round
        case rel => exact ⟨j + 1, by omega, by go_num⟩
        case measure => simp [intOf]; omega
      · obtain rfl : m = j := by omega
        have hyx := HM2.out y hy
        have hd : decide (y < x) = false := by simp; omega
        clear hy hyx
        go_wp2_with fail
        go_ret2
        exact ⟨rfl, HB.out⟩
    · obtain rfl : m = j := by omega
      go_wp2_with fail
      go_ret2
      exact ⟨rfl, HB.out⟩
theorem rwbel_any (n : Nat) (A : Option Addr) (vs : List Lev) (c : Nat) (a b x : Int) (w : World) (hV : WV n vs) (hws : ∀ v ∈ vs, v.ws.length ≤ 17592186044416) (hM : Mat w w.heap.size A vs) :
    Calls Try.prog 24 #[.agg #[.slice A vs.length c], .int .i64 a, .int .i64 b, .int .i64 x] w fun e w' => e = .returned (.tuple #[.int .i64 (belV10 n (fns vs) a b x), .int .i64 (belE10 n a b)]) ∧ Below w.heap.size w w' := by
  unfold belV10 belE10
  by_cases h : 0 ≤ a ∧ a ≤ b ∧ b ≤ n
  · rw [if_pos h, if_pos h]
    obtain ⟨i, rfl⟩ : ∃ i : Nat, a = i := ⟨a.toNat, by omega⟩
    obtain ⟨j, rfl⟩ : ∃ j : Nat, b = j := ⟨b.toNat, by omega⟩
    exact rwbel_in n A vs c i j x w hV hws hM (by omega) (by omega)
  · rw [if_neg h, if_neg h]
    exact rwbel_out n A vs c a b x w hV hws hM (by omega)
end Go.Proofs.Ytefgfkicacbmeaa
