/-
  What fen.Find returns: contracts, walked over the translated text. No condition but what each theorem names.
-/
import Derived.Test.YtegcpfopdaoebaaFenLs
import Derived.Test.YtegcpfopdaoebaaFenRh
namespace Go.Proofs.Ytegcpfopdaoebaa
open Go.RowKit Words

/-- fen.Find's closure. -/
theorem cl_neg (x : Int) (w : World) : Calls Try.prog 35 #[.int .i64 x] w fun e w' => e = .returned (.bool (decide (x < 0))) ∧ ∃ d, w' = w.drewN d := by
  by_cases h : x < 0
  · have e : decide (x < 0) = true := decide_eq_true h
    rw [e]
    go_enter Try.func35, Try.ntmps35
    go_wp2_with fail
    go_ret
    exact ⟨rfl, 0, rfl⟩
  · have e : decide (x < 0) = false := decide_eq_false h
    rw [e]
    go_enter Try.func35, Try.ntmps35
    go_wp2_with fail
    go_ret
    exact ⟨rfl, 0, rfl⟩

/-- Is an element below 0? -/
theorem negs_any (A : Option Addr) (f : Nat → Int) (n c : Nat) (w : World) (hn : n ≤ 300) (hL : Lies w w.heap.size A (cellsOf f n)) :
    Calls Try.prog 34 #[.slice A n c, .func (.func 35) #[] #[]] w fun e w' => e = .returned (.bool ((vals f n).any fun x => decide (x < 0))) ∧ ∃ d, w' = w.drewN d := by
  have h := contains_neg A (vals f n) c (fun x => decide (x < 0)) w (by rw [vals_length]; omega) hL (fun x d _ => cl_neg x (w.drewN d))
  rw [vals_length] at h
  exact h
theorem negs_yes {f : Nat → Int} {n : Nat} (h : ∃ j, j < n ∧ f j < 0) : ((vals f n).any fun x => decide (x < 0)) = true := by
  obtain ⟨j, hj, hneg⟩ := h
  exact List.any_eq_true.2 ⟨f j, List.mem_of_getElem? (vals_get f n j hj), by simpa using hneg⟩
theorem negs_no {f : Nat → Int} {n : Nat} (h : ∀ j, j < n → 0 ≤ f j) : ((vals f n).any fun x => decide (x < 0)) = false := by
  rw [List.any_eq_false]
  intro x hx
  obtain ⟨j, hj, rfl⟩ := List.mem_map.1 hx
  have := h j (List.mem_range.1 hj)
  simpa using this

theorem ffind_form (A : Option Addr) (l : List Int) (c : Nat) (x : Int) (w : World) (hn : l.length ≤ 17592186044416) (hv : ¬ Valid l) (hL : Lies w w.heap.size A (l.map (.int .i64))) :
    Calls Try.prog 17 #[.slice A l.length c, .int .i64 x] w (Tells8 w 0 4) := by
  have H := Lib.hid (valid_any A l c w hn hL)
  rw [decide_eq_false hv] at H
  clear hv hL
  generalize l.length = n at *
  go_enter Try.func17, Try.ntmps17
  go_wp2_with fail
  refine H.out.mono ?_
  rintro e w1 ⟨rfl, hb⟩
  go_wp2_with fail
  go_ret2
  exact ⟨rfl, hb⟩

set_option maxHeartbeats 1000000 in
/-- .. of a list with an element below 0. -/
theorem ffind_kind (A : Option Addr) (l : List Int) (c : Nat) (x : Int) (w : World) (hv : Valid l) (hk : ∃ j, j < l.length ∧ num (at0 l) j < 0) (hnone : A = none → c = 0) (hL : Lies w w.heap.size A (l.map (.int .i64))) :
    Calls Try.prog 17 #[.slice A l.length c, .int .i64 x] w (Tells8 w 0 3) := by
  have hn := hv.1
  have H := Lib.hid (valid_any A l c w (by omega) hL)
  rw [decide_eq_true hv] at H
  have HNu := Lib.hid (fun W h => list_any A l c W hv hnone h)
  unfold GivesF at HNu
  have HCo := Lib.hid (fun A c W h => negs_any A (num (at0 l)) l.length c W hn h)
  rw [negs_yes hk] at HCo
  have HL := Lib.hid hL
  clear hv hL hk hnone
  generalize at0 l = t at *
  generalize l.length = n at *
  go_enter Try.func17, Try.ntmps17
  go_wp2_with fail
  refine H.out.mono ?_
  rintro e w1 ⟨rfl, hb1⟩
  go_wp2_with fail
  refine (HNu.out _ (HL.out.on hb1)).mono ?_
  rintro e w2 ⟨A2, c2, rfl, hown, hb2⟩
  go_wp2_with fail
  refine (HCo.out A2 c2 _ (own_lies hown)).mono ?_
  rintro e w3 ⟨rfl, d, rfl⟩
  go_wp2_with fail
  go_ret2
  exact ⟨rfl, bdN (chain hb1 hb2) d⟩

set_option maxHeartbeats 2000000 in
/-- fen.Find. -/
theorem ffind_any (A : Option Addr) (l : List Int) (c : Nat) (x v r : Int) (w : World) (hv : Valid l) (hk : ∀ j, j < l.length → 0 ≤ num (at0 l) j) (hc : Comes (num (at0 l)) l.length x v r) (hnone : A = none → c = 0) (hL : Lies w w.heap.size A (l.map (.int .i64))) :
    Calls Try.prog 17 #[.slice A l.length c, .int .i64 x] w (Tells8 w v r) := by
  have hn := hv.1
  have H := Lib.hid (valid_any A l c w (by omega) hL)
  rw [decide_eq_true hv] at H
  have HNu := Lib.hid (fun W h => list_any A l c W hv hnone h)
  unfold GivesF at HNu
  have HNe := Lib.hid (fun A c W h => negs_any A (num (at0 l)) l.length c W hn h)
  rw [negs_no hk] at HNe
  have HL := Lib.hid hL
  have HCo := Lib.hid hc
  have HB := Lib.hid (fun i h => num_300 l hv i h)
  have HNB := Lib.hid (fun j h => num_bound (at0 l) l.length hv.1 1099511627776 (by decide) (fun c hc => hv.2.at0 c hc) j h)
  clear hv hL hk hc hnone
  generalize at0 l = t at *
  generalize l.length = n at *
  go_enter Try.func17, Try.ntmps17
  go_wp2_with fail
  refine H.out.mono ?_
  rintro e w1 ⟨rfl, hb1⟩
  go_wp2_with fail
  refine (HNu.out _ (HL.out.on hb1)).mono ?_
  rintro e w2 ⟨A2, c2, rfl, hown, hb2⟩
  have HOwn := Lib.hid hown
  clear hown
  go_wp2_with fail
  refine (HNe.out A2 c2 _ (own_lies HOwn.out)).mono ?_
  rintro e w3 ⟨rfl, d, rfl⟩
  go_wp2_with fail
  go_loopw [7, 19] (fun s a w' => ∃ k : Nat, k ≤ n ∧ (∀ j, j < k → S (num t) (j + 1) ≤ x) ∧ s = .int .i64 (S (num t) k) ∧ a = .int .i64 k ∧ w' = w2.drewN d) (fun _ a _ => n - (intOf a).toNat)
  case atStart => exact ⟨0, Nat.zero_le _, (fun j hj => by omega), rfl, rfl, rfl⟩
  case round =>
    obtain ⟨k, hk, hp, rfl, rfl, rfl⟩ := hrel
    have HP := Lib.hid hp
    clear hp
    by_cases hlt : k < n
    · obtain ⟨g, rfl, _⟩ := own_at HOwn.out (by omega)
      have hck := own_cell HOwn.out (cellsOf_get (num t) n k hlt)
      obtain ⟨k1, k2⟩ := HB.out k (by omega)
      obtain ⟨k3, k4⟩ := HNB.out k (by omega)
      have hSt := S_succ (num t) k
      have HC2 := Lib.hid (fun h => HCo.out.at_ hlt h HP.out)
      have HSt := Lib.hid hSt
      rw [hSt] at HC2
      clear hSt
      generalize num t k = z at *
      generalize S (num t) k = s at *
      by_cases hx : x < s + z
      · obtain ⟨rfl, rfl⟩ := HC2.out hx
        go_wp2_with fail
        go_ret2
        exact ⟨rfl, bdN (chain hb1 hb2) d⟩
      · go_wp2_with fail
        go_roundw
        case rel => exact ⟨k + 1, by omega, (fun j hj => by
          by_cases e : j = k
          · rw [e, HSt.out]; omega
          · exact HP.out j (by omega)), by rw [HSt.out], by go_num, trivial⟩
        case measure => simp [intOf]; omega
    · obtain rfl : n = k := by omega
      obtain ⟨rfl, rfl⟩ := HCo.out.none HP.out
      go_wp2_with fail
      go_ret2
      exact ⟨rfl, bdN (chain hb1 hb2) d⟩
end Go.Proofs.Ytegcpfopdaoebaa
