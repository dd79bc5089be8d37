/-
  What the document's answers to At and Rank of a matrix return: contracts, walked over the translated text. No condition but what each theorem names.
-/
import Derived.Test.YtefgfkicacbmeaaWavRe
import Derived.Test.YtefgfkicacbmeaaWavAsk
namespace Go.Proofs.Ytefgfkicacbmeaa
open Go.RowKit Words

/-- The document's At of what is not valid. -/
theorem rwat_form (A : Option Addr) (vs : List Lev) (c : Nat) (i : Int) (w : World) (hk : vs.length ≤ 17592186044416) (hws : ∀ v ∈ vs, v.ws.length ≤ 17592186044416) (hS : ¬ Sound vs) (hM : Mat w w.heap.size A vs) :
    Calls Try.prog 20 #[.agg #[.slice A vs.length c], .int .i64 i] w fun e w' => e = .returned (.tuple #[.int .i64 0, .int .i64 4]) ∧ Below w.heap.size w w' := by
  have HMy := Lib.hid (fun W hW => rwmay_no A vs c W hk hws hS hW)
  have HM := Lib.hid hM
  clear hM hS hws
  generalize vs.length = k at *
  go_enter Try.func20, Try.ntmps20
  go_wp2_with fail
  refine (HMy.out _ (by exact HM.out.alloc _)).mono ?_
  rintro e w1 ⟨rfl, hb1⟩
  go_wp2
  go_ret2
  exact ⟨rfl, chain (bnew _ _) hb1⟩

set_option maxHeartbeats 1000000 in
/-- The document's At. -/
theorem rwat_any (n : Nat) (A : Option Addr) (vs : List Lev) (c : Nat) (i : Int) (w : World) (hV : WV n vs) (hws : ∀ v ∈ vs, v.ws.length ≤ 17592186044416) (hM : Mat w w.heap.size A vs) :
    Calls Try.prog 20 #[.agg #[.slice A vs.length c], .int .i64 i] w fun e w' => e = .returned (.tuple #[.int .i64 (atV10 n (fns vs) i), .int .i64 (atE10 n i)]) ∧ Below w.heap.size w w' := by
  have HMy := Lib.hid (fun W hW => rwmay_yes A vs c W hV.sound hws hW)
  have HRd := Lib.hid (fun W hW => rwread_any n A vs c W hV hW)
  have hn := hV.hi
  have HM := Lib.hid hM
  have hcs : (i < 0) ∨ (¬ i < 0 ∧ (n : Int) ≤ i) ∨ (0 ≤ i ∧ i < n) := by omega
  have hlsl := lsI_length n (fns vs)
  have HAt := Lib.hid (fun j h => lsI_at n (fns vs) j h)
  unfold atV10 atE10
  clear hM hV hws
  have hVl : ∀ j : Nat, ((val n (fns vs) j : Nat) : Int) = ((val n (fns vs) j : Nat) : Int) := fun _ => rfl
  generalize hvv : (fun j : Nat => ((val n (fns vs) j : Nat) : Int)) = V at *
  have HVV := Lib.hid hvv
  clear hVl hvv
  rcases hcs with h0 | h1
  · rw [if_neg (by omega), if_neg (by omega)]
    generalize vs.length = k at *
    go_enter Try.func20, Try.ntmps20
    go_wp2_with fail
    refine (HMy.out _ (by exact HM.out.alloc _)).mono ?_
    rintro e w1 ⟨rfl, hb1⟩
    have hc1 := bcell hb1
    go_wp2_with fail
    refine (HRd.out _ (by exact (HM.out.alloc _).on hb1)).mono ?_
    rintro e w2 ⟨A', c', rfl, _, _, _, _, hb2⟩
    go_wp2
    go_ret2
    exact ⟨rfl, chain (chain (bnew _ _) hb1) hb2⟩
  · by_cases h2 : 0 ≤ i ∧ i < n
    · rw [if_pos h2, if_pos h2]
      obtain ⟨j, rfl⟩ : ∃ j : Nat, i = j := ⟨i.toNat, by omega⟩
      have hj : j < n := by omega
      have hv : ((val n (fns vs) ((j : Int).toNat) : Nat) : Int) = V j := by rw [← HVV.out]; rfl
      rw [hv]
      have hg := HAt.out j hj
      have hv2 : ((val n (fns vs) j : Nat) : Int) = V j := by rw [← HVV.out]
      rw [hv2] at hg
      have HG := Lib.hid hg
      have hd : decide ((j : Int) < 0) = false := by simp
      have hd2 : decide (n ≤ j) = false := by simp; omega
      clear hv hv2 hg h1 h2
      generalize V j = x at *
      generalize lsI n (fns vs) = l at *
      generalize vs.length = k at *
      go_enter Try.func20, Try.ntmps20
      go_wp2_with fail
      refine (HMy.out _ (by exact HM.out.alloc _)).mono ?_
      rintro e w1 ⟨rfl, hb1⟩
      have hc1 := bcell hb1
      go_wp2_with fail
      refine (HRd.out _ (by exact (HM.out.alloc _).on hb1)).mono ?_
      rintro e w2 ⟨A', c', rfl, _, hl, _, _, hb2⟩
      obtain ⟨b, o, y, rfl, hb, hy, hc⟩ := hl.at_ (k := j) (by omega)
      rw [HG.out] at hy
      obtain rfl := Option.some.inj hy
      simp only [List.length_map, hlsl]
      have HB := Lib.hid (chain (chain (bnew _ _) hb1) hb2)
      clear hlsl hl hy hb1 hb2
      go_wp2
      go_ret2
      exact ⟨rfl, HB.out⟩
    · have h3 : ¬ i < 0 := by omega
      have h4 : (n : Int) ≤ i := by omega
      rw [if_neg h2, if_neg h2]
      clear h1 h2
      generalize vs.length = k at *
      go_enter Try.func20, Try.ntmps20
      go_wp2_with fail
      refine (HMy.out _ (by exact HM.out.alloc _)).mono ?_
      rintro e w1 ⟨rfl, hb1⟩
      have hc1 := bcell hb1
      go_wp2_with fail
      refine (HRd.out _ (by exact (HM.out.alloc _).on hb1)).mono ?_
      rintro e w2 ⟨A', c', rfl, _, _, _, _, hb2⟩
      simp only [List.length_map, hlsl]
      clear hlsl
      go_wp2
      go_ret2
      exact ⟨rfl, chain (chain (bnew _ _) hb1) hb2⟩

/-- How many of the first j numbers are x. -/
def cntS (n : Nat) (bs : List (Nat → Bool)) (x : Int) (j : Nat) : Nat := tally (fun i => decide ((val n bs i : Int) = x)) j
theorem cntS_same (n : Nat) (bs : List (Nat → Bool)) (x : Int) (j : Nat) : sameI n bs x 0 j = (cntS n bs x j : Int) := by unfold sameI num cntS; simp [tally]

/-- The document's Rank of what is not valid. -/
theorem rwrank_form (A : Option Addr) (vs : List Lev) (c : Nat) (x i : Int) (w : World) (hk : vs.length ≤ 17592186044416) (hws : ∀ v ∈ vs, v.ws.length ≤ 17592186044416) (hS : ¬ Sound vs) (hM : Mat w w.heap.size A vs) :
    Calls Try.prog 22 #[.agg #[.slice A vs.length c], .int .i64 x, .int .i64 i] w fun e w' => e = .returned (.tuple #[.int .i64 0, .int .i64 4]) ∧ Below w.heap.size w w' := by
  have HMy := Lib.hid (fun W hW => rwmay_no A vs c W hk hws hS hW)
  have HM := Lib.hid hM
  clear hM hS hws
  generalize vs.length = k at *
  go_enter Try.func22, Try.ntmps22
  go_wp2_with fail
  refine (HMy.out _ (by exact HM.out.alloc _)).mono ?_
  rintro e w1 ⟨rfl, hb1⟩
  go_wp2
  go_ret2
  exact ⟨rfl, chain (bnew _ _) hb1⟩

set_option maxHeartbeats 1000000 in
/-- The document's Rank out of range. -/
theorem rwrank_out (n : Nat) (A : Option Addr) (vs : List Lev) (c : Nat) (x i : Int) (w : World) (hV : WV n vs) (hws : ∀ v ∈ vs, v.ws.length ≤ 17592186044416) (hM : Mat w w.heap.size A vs) (h : i < 0 ∨ (n : Int) < i) :
    Calls Try.prog 22 #[.agg #[.slice A vs.length c], .int .i64 x, .int .i64 i] w fun e w' => e = .returned (.tuple #[.int .i64 0, .int .i64 2]) ∧ Below w.heap.size w w' := by
  have HMy := Lib.hid (fun W hW => rwmay_yes A vs c W hV.sound hws hW)
  have HRd := Lib.hid (fun W hW => rwread_any n A vs c W hV hW)
  have hn := hV.hi
  have HM := Lib.hid hM
  have hlsl := lsI_length n (fns vs)
  clear hM hV hws
  generalize vs.length = k at *
  have hh : i < 0 ∨ (¬ i < 0 ∧ (n : Int) < i) := by omega
  clear h
  rcases hh with h0 | ⟨h0, h1⟩
  all_goals
    go_enter Try.func22, Try.ntmps22
    go_wp2_with fail
    refine (HMy.out _ (by exact HM.out.alloc _)).mono ?_
    rintro e w1 ⟨rfl, hb1⟩
    have hc1 := bcell hb1
    go_wp2_with fail
    refine (HRd.out _ (by exact (HM.out.alloc _).on hb1)).mono ?_
    rintro e w2 ⟨A', c', rfl, _, _, _, _, hb2⟩
    simp only [List.length_map, hlsl]
    clear hlsl
    go_wp2
    go_ret2
    exact ⟨rfl, chain (chain (bnew _ _) hb1) hb2⟩

set_option maxHeartbeats 2000000 in
/-- The document's Rank. -/
theorem rwrank_in (n : Nat) (A : Option Addr) (vs : List Lev) (c : Nat) (x : Int) (i : Nat) (w : World) (hV : WV n vs) (hws : ∀ v ∈ vs, v.ws.length ≤ 17592186044416) (hM : Mat w w.heap.size A vs) (hi : i ≤ n) :
    Calls Try.prog 22 #[.agg #[.slice A vs.length c], .int .i64 x, .int .i64 i] w fun e w' => e = .returned (.tuple #[.int .i64 (sameI n (fns vs) x 0 i), .int .i64 0]) ∧ Below w.heap.size w w' := by
  have HMy := Lib.hid (fun W hW => rwmay_yes A vs c W hV.sound hws hW)
  have HRd := Lib.hid (fun W hW => rwread_any n A vs c W hV hW)
  have hn := hV.hi
  have HM := Lib.hid hM
  have hlsl := lsI_length n (fns vs)
  have HAt := Lib.hid (fun j h => lsI_at n (fns vs) j h)
  have HSt := Lib.hid (fun j => show cntS n (fns vs) x (j + 1) = cntS n (fns vs) x j + (decide ((val n (fns vs) j : Int) = x)).toNat from rfl)
  have H0 := Lib.hid (show cntS n (fns vs) x 0 = 0 from rfl)
  have HLe := Lib.hid (fun j => show cntS n (fns vs) x j ≤ j from tally_le _ j)
  rw [cntS_same]
  clear hM hV hws
  generalize cntS n (fns vs) x = S at *
  generalize val n (fns vs) = V at *
  generalize lsI n (fns vs) = l at *
  have hd : decide ((i : Int) < 0) = false := by simp
  have hd2 : decide (n < i) = false := by simp; omega
  generalize vs.length = k at *
  go_enter Try.func22, Try.ntmps22
  go_wp2_with fail
  refine (HMy.out _ (by exact HM.out.alloc _)).mono ?_
  rintro e w1 ⟨rfl, hb1⟩
  have hc1 := bcell hb1
  go_wp2_with fail
  refine (HRd.out _ (by exact (HM.out.alloc _).on hb1)).mono ?_
  rintro e w2 ⟨A', c', rfl, hle, hl, _, _, hb2⟩
  simp only [List.length_map, hlsl] at hle ⊢
  have hic : i ≤ c' := by omega
  have HL := Lib.hid hl
  have HLl := Lib.hid hlsl
  have HB := Lib.hid (chain (chain (bnew _ _) hb1) hb2)
  clear hlsl hl hb1 hb2 hc1
  go_wp2_with fail
  go_loop [9, 29] (fun s9 s29 => ∃ j : Nat, j ≤ i ∧ s29 = .int .i64 j ∧ s9 = .int .i64 (S j : Nat)) (fun _ s29 => i - (intOf s29).toNat)
  case atStart => exact ⟨0, Nat.zero_le _, rfl, by rw [H0.out]; rfl⟩
  case round =>
    obtain ⟨j, hj, rfl, rfl⟩ := hrel
    by_cases hlt : j < i
    · obtain ⟨b, o, y, rfl, hb, hy, hc⟩ := HL.out.at_ (k := j) (by rw [HLl.out]; omega)
      rw [HAt.out j (by omega)] at hy
      have hye := Option.some.inj hy
      have hst := HSt.out j
      have hle2 := HLe.out j
      rw [hye] at hst
      clear hy hye
      generalize hsj : S j = m at *
      by_cases hxy : y = x
      · have hq : (y == x) = true := by simpa using hxy
        have hst2 : S (j + 1) = m + 1 := by rw [hst]; simp [hxy]
        have HS2 := Lib.hid hst2
        clear hst hst2 hxy hsj
        go_wp2_with fail
        go_round
        case rel => exact ⟨j + 1, by omega, by go_num, by rw [HS2.out]; go_num⟩
        case measure => simp [intOf]; omega
      · have hq : (y == x) = false := by simpa using hxy
        have hst2 : S (j + 1) = m := by rw [hst]; simp [hxy]
        have HS2 := Lib.hid hst2
        clear hst hst2 hxy hsj
        go_wp2_with fail
        go_round
        case rel => exact ⟨j + 1, by omega, by go_num, by rw [HS2.out]⟩
        case measure => simp [intOf]; omega
    · obtain rfl : i = j := by omega
      go_wp2_with fail
      go_ret2
      exact ⟨rfl, HB.out⟩
theorem rwrank_any (n : Nat) (A : Option Addr) (vs : List Lev) (c : Nat) (x i : Int) (w : World) (hV : WV n vs) (hws : ∀ v ∈ vs, v.ws.length ≤ 17592186044416) (hM : Mat w w.heap.size A vs) :
    Calls Try.prog 22 #[.agg #[.slice A vs.length c], .int .i64 x, .int .i64 i] w fun e w' => e = .returned (.tuple #[.int .i64 (rankV10 n (fns vs) x i), .int .i64 (rankE10 n i)]) ∧ Below w.heap.size w w' := by
  unfold rankV10 rankE10
  by_cases h : 0 ≤ i ∧ i ≤ n
  · rw [if_pos h, if_pos h]
    obtain ⟨j, rfl⟩ : ∃ j : Nat, i = j := ⟨i.toNat, by omega⟩
    exact rwrank_in n A vs c x j w hV hws hM (by omega)
  · rw [if_neg h, if_neg h]
    exact rwrank_out n A vs c x i w hV hws hM (by omega)
end Go.Proofs.Ytefgfkicacbmeaa
