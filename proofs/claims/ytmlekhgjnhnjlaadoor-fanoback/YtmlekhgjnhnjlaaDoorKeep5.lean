/-
  The small function of the fifth chapter's statements: numbers that do not fall. A contract, walked over the translated text. No condition but what each theorem names.
-/
import Derived.Test.YtmlekhgjnhnjlaaDoorKeep3
import Derived.Test.YtmlekhgjnhnjlaaDoorFanoMk
namespace Go.Proofs.YtmlekhgjnhnjlaaDoor
open Go.RowKit Words

/-- The sum of the first j numbers, each brought below s. -/
def sumTo (s : Nat) (l : List Int) : Nat → Nat
  | 0 => 0
  | j + 1 => sumTo s l j + pick s (l.getD j 0)
/-- The first j sums. -/
def risesTo (s : Nat) (l : List Int) (j : Nat) : List Nat := (List.range j).map fun i => sumTo s l (i + 1)

theorem risesTo_length (s : Nat) (l : List Int) (j : Nat) : (risesTo s l j).length = j := by simp [risesTo]
theorem risesTo_succ (s : Nat) (l : List Int) (j : Nat) : risesTo s l (j + 1) = risesTo s l j ++ [sumTo s l (j + 1)] := by simp [risesTo, List.range_succ]
theorem risesTo_getD (s : Nat) (l : List Int) (j i : Nat) (h : i < j) : (risesTo s l j).getD i 0 = sumTo s l (i + 1) := by
  unfold risesTo
  rw [List.getD, List.getElem?_map, List.getElem?_range h]
  rfl
theorem sumTo_mono (s : Nat) (l : List Int) {i j : Nat} (h : i ≤ j) : sumTo s l i ≤ sumTo s l j := by
  induction j with
  | zero => obtain rfl : i = 0 := by omega
            exact Nat.le_refl _
  | succ j ih =>
    by_cases e : i = j + 1
    · rw [e]; exact Nat.le_refl _
    · have := ih (by omega)
      simp only [sumTo]
      omega
theorem sumTo_le {s : Nat} (hs : 0 < s) (l : List Int) (j : Nat) : sumTo s l j ≤ j * s := by
  induction j with
  | zero => exact Nat.zero_le _
  | succ j ih =>
    have := pick_lt hs (l.getD j 0)
    simp only [sumTo]
    rw [Nat.add_mul]
    omega
theorem rises_sums (s : Nat) (l : List Int) (j B : Nat) (h : 0 < j → (risesTo s l j).getD (j - 1) 0 ≤ B) : Rises B (risesTo s l j) := by
  refine ⟨fun i hi => ?_, fun i hi => ?_⟩
  · rw [risesTo_length] at hi
    have h1 := h (by omega)
    rw [risesTo_getD s l j (j - 1) (by omega), show j - 1 + 1 = j by omega] at h1
    rw [risesTo_getD s l j i hi]
    exact Nat.le_trans (sumTo_mono s l hi) h1
  · rw [risesTo_length] at hi
    rw [risesTo_getD s l j i (by omega), risesTo_getD s l j (i + 1) hi]
    exact sumTo_mono s l (by omega)

set_option maxHeartbeats 1000000 in
/-- damaskkeep.Rising. -/
theorem rising_any (A : Option Addr) (l : List Int) (c k s : Nat) (w : World) (hk : k ≤ 300) (h0 : 0 < s) (hs : s ≤ 3000) (hw : ∀ z ∈ l, (Lit.int .i64 z).wf = true) (hL : Lies w w.heap.size A (l.map (.int .i64))) :
    Calls Tryd.prog 14 #[.slice A l.length c, .int .i64 k, .int .i64 s] w (GivesSlice w (intVals (risesTo s l (min l.length k)))) := by
  have HL := Lib.hid hL
  have HWF := Lib.hid hw
  have HSL := Lib.hid (fun j => sumTo_le h0 l j)
  clear hL hw
  generalize hm : l.length = m at *
  have HM := Lib.hid hm
  clear hm
  go_enter Tryd.func14, Tryd.ntmps14
  go_wp2
  go_loopw [7, 8, 9] (fun v a i w' => ∃ j : Nat, j ≤ min m k ∧ i = .int .i64 j ∧ a = .int .i64 (sumTo s l j : Nat) ∧ w'.ownsRow w.heap.size 3 1 v j (intVals (risesTo s l j)) ∧ Below w.heap.size w w') (fun _ _ i _ => m - (intOf i).toNat)
  case atStart => exact ⟨0, Nat.zero_le _, rfl, rfl, World.ownsRow_nil _ _ _ _, Below.refl _ _⟩
  case round =>
    obtain ⟨j, hj, rfl, rfl, hown, hbl⟩ := hrel
    have hc1 := bcell hbl
    have hjm : j ≤ m := by omega
    have hjk : j ≤ k := by omega
    have hsl : sumTo s l j ≤ 900000 := by
      have h2 := HSL.out j
      have h3 : j * s ≤ 300 * 3000 := Nat.mul_le_mul (by omega) hs
      omega
    clear hj
    by_cases hlt : j < m
    · by_cases hlk : j < k
      · obtain ⟨b, o, x, rfl, hb, hx, hc⟩ := HL.out.at_ (k := j) (by rw [HM.out]; exact hlt)
        have HP := Lib.hid (pick_any x s · h0 (by omega) (HWF.out x (List.mem_of_getElem? hx)))
        have hpl := pick_lt h0 x
        have hst : sumTo s l (j + 1) = sumTo s l j + pick s x := by
          show sumTo s l j + pick s (l.getD j 0) = _
          rw [List.getD, hx]
          rfl
        have HX := Lib.hid (show intVals (risesTo s l (j + 1)) = intVals (risesTo s l j) ++ [.int .i64 (sumTo s l j + pick s x : Nat)] by rw [risesTo_succ, hst]; simp [intVals, asInts])
        have HST := Lib.hid hst
        have hsz := hbl.size
        clear hx hst
        generalize pick s x = y at *
        generalize sumTo s l j = q at *
        go_wp2_with (first
          | (go_at_call 15; refine (HP.out _).mono ?_; rintro e w' ⟨rfl, rfl⟩)
          | (at_builtin; go_loud (refine append_one _ rfl (.tmp 29) (.tmp 31) 29 rfl w.heap.size 3 (.int .i64 0) 8 Tryd.underlying29 int_info rfl u7 j _ rfl (hown.alloc _) wr.heap.size 1 (.int .i64 ((q : Int) + (y : Int))) rfl (by simp) rfl (by simp only [maxLen]; omega) (by omega) (by simp; omega) ?_)))
        intro v1 w2 hown1 hg1
        go_wp2
        go_roundw
        case rel => exact ⟨j + 1, by omega, by go_num, by rw [HST.out]; go_num, by rw [HX.out]; exact hown1, (hbl.alloc hsz _).grown hg1 (by simp; omega) (fun q hq => (hown.lt q hq).1)⟩
        case measure => simp [intOf]; omega
      · have HE := Lib.hid (show min m k = j by omega)
        obtain ⟨A', c', rfl, hle1, hlen, hlies, hnone, hnew⟩ := own_slice hown
        clear hown
        go_wp2
        go_ret
        refine ⟨A', c', ?_, ?_, ?_, hnone, hnew, hbl⟩
        · rw [HE.out, hlen]; rfl
        · rw [HE.out, hlen]; exact hle1
        · rw [HE.out]; exact hlies
    · have HE := Lib.hid (show min m k = j by omega)
      obtain ⟨A', c', rfl, hle1, hlen, hlies, hnone, hnew⟩ := own_slice hown
      clear hown
      go_wp2
      go_ret
      refine ⟨A', c', ?_, ?_, ?_, hnone, hnew, hbl⟩
      · rw [HE.out, hlen]; rfl
      · rw [HE.out, hlen]; exact hle1
      · rw [HE.out]; exact hlies
end Go.Proofs.YtmlekhgjnhnjlaaDoor
