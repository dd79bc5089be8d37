/-
  What the document's PointsFault, pointIn, within and the closures of its grid answers return: contracts, walked over the translated text. What grid.allowed and grid.Check return: contracts, walked over the translated text. No condition but what each theorem names.
-/
import Derived.Test.YtpkclmfadlkbeaaDoorJ01
import Derived.Test.YtpkclmfadlkbeaaDoorJ02
import Derived.IntWalk
import Derived.Deep.RegionHeld3
namespace Go.Proofs.YtpkclmfadlkbeaaDoor
open Go.RowKit

set_option maxHeartbeats 1000000 in
/-- The document's coordMay. -/
theorem rco_any (x : Int) (w : World) : Calls Tryd.prog 22 #[.int .i64 x] w fun e w' => e = .returned (.bool (coOk x)) ∧ w = w' := by
  unfold coOk
  by_cases h1 : -1048576 ≤ x
  · by_cases h2 : x ≤ 1048576
    · rw [decide_eq_true h1, decide_eq_true h2]
      go_enter Tryd.func22, Tryd.ntmps22
      go_wp2
      go_ret
      exact ⟨rfl, rfl⟩
    · rw [decide_eq_true h1, decide_eq_false h2]
      go_enter Tryd.func22, Tryd.ntmps22
      go_wp2
      go_ret
      exact ⟨rfl, rfl⟩
  · rw [decide_eq_false h1]
    go_enter Tryd.func22, Tryd.ntmps22
    go_wp2
    go_ret
    exact ⟨rfl, rfl⟩

set_option maxHeartbeats 1000000 in
/-- The document's PointsFault. -/
theorem rpf_size (A : Option Addr) (n c : Nat) (w : World) (hn : 150 < n) (hb : n ≤ 17592186044416) :
    Calls Tryd.prog 12 #[.slice A n c] w fun e w' => e = .returned (.int .i64 1) ∧ Below w.heap.size w w' := by
  go_enter Tryd.func12, Tryd.ntmps12
  go_wp2_with fail
  go_ret
  exact ⟨rfl, Below.refl _ _⟩

theorem all_step {ps : List Pt3} {i : Nat} {p : Pt3} (hp : ps[i]? = some p) (h : ∀ q ∈ ps.take i, ptOk q = true) (hk : ptOk p = true) : ∀ q ∈ ps.take (i + 1), ptOk q = true := fun q hq => by
  rw [List.take_add_one, hp, List.mem_append, Option.toList_some, List.mem_singleton] at hq
  rcases hq with hq | rfl
  · exact h q hq
  · exact hk

set_option maxHeartbeats 2000000 in
theorem rpf_small (A : Option Addr) (ps : List Pt3) (c : Nat) (w : World) (hn : ps.length ≤ 150) (hL : Lies w w.heap.size A (ptC ps)) :
    Calls Tryd.prog 12 #[.slice A ps.length c] w fun e w' => e = .returned (.int .i64 (if ps.all ptOk then 0 else 2)) ∧ Below w.heap.size w w' := by
  have HL := Lib.hid hL
  have HC := Lib.hid (fun x W => rco_any x W)
  have HNo := Lib.hid (fun (i : Nat) (p : Pt3) (hp : ps[i]? = some p) (h : ptOk p = false) => show ps.all ptOk = false by
    rw [List.all_eq_false]
    exact ⟨p, List.mem_of_getElem? hp, by rw [h]; decide⟩)
  have HYes := Lib.hid (fun (h : ∀ q ∈ ps.take ps.length, ptOk q = true) => show ps.all ptOk = true by rw [List.take_length] at h; exact List.all_eq_true.2 h)
  have HSt := Lib.hid (fun i p (hp : ps[i]? = some p) h hk => all_step hp h hk)
  obtain ⟨r, hr⟩ : ∃ r : Int, (if ps.all ptOk then 0 else 2) = r := ⟨_, rfl⟩
  have HR := Lib.hid hr
  rw [hr]
  obtain ⟨n, hk⟩ : ∃ n, ps.length = n := ⟨_, rfl⟩
  have HN := Lib.hid hk
  rw [hk] at hn HYes ⊢
  clear hk hL hr
  have hd : decide ((150 : Int) < (n : Int)) = false := by simp; omega
  go_enter Tryd.func12, Tryd.ntmps12
  go_wp2_with fail
  go_loopw [10] (fun u w' => ∃ i : Nat, i ≤ n ∧ u = .int .i64 i ∧ (∀ q ∈ ps.take i, ptOk q = true) ∧ Below w.heap.size w w') (fun u _ => n - (intOf u).toNat)
  case atStart => exact ⟨0, Nat.zero_le _, rfl, (fun q hq => by rw [List.take_zero] at hq; cases hq), Below.refl _ _⟩
  case round =>
    obtain ⟨i, hi, rfl, hok, hbl⟩ := hrel
    have HOk := Lib.hid hok
    have HB := Lib.hid hbl
    clear hok
    by_cases hlt : i < n
    · obtain ⟨p, hp⟩ : ∃ p, ps[i]? = some p := ⟨_, List.getElem?_eq_getElem (by rw [HN.out]; exact hlt)⟩
      obtain ⟨b, o, rfl, hb, hcx, hcy, hcw⟩ := pts_at (HL.out.below hbl) hp
      have HP := Lib.hid hp
      clear hbl hp
      have HBA := Lib.hid (HB.out.alloc HB.out.size (.cells #[.int .i64 p.x, .int .i64 p.y, .int .i64 p.w] 35))
      have HCx := Lib.hid (fun W => HC.out p.x W)
      have HCy := Lib.hid (fun W => HC.out p.y W)
      have HCw := Lib.hid (fun W => HC.out p.w W)
      have HOkp : Hid (coOk p.x = true → coOk p.y = true → coOk p.w = true → ptOk p = true) := Lib.hid (fun h1 h2 h3 => by unfold ptOk; rw [h1, h2, h3]; rfl)
      have HNp : Hid (coOk p.x = false ∨ coOk p.y = false ∨ coOk p.w = false → r = 2) := Lib.hid (fun h => by
        rw [← HR.out, HNo.out i p HP.out (by unfold ptOk; rcases h with h | h | h <;> rw [h] <;> simp)]; rfl)
      generalize hx : coOk p.x = kx at *
      generalize hy : coOk p.y = ky at *
      generalize hw : coOk p.w = kw at *
      clear hx hy hw
      cases kx with
      | false =>
        go_wp2_with fail
        refine (HCx.out _).mono ?_
        rintro e w' ⟨rfl, rfl⟩
        go_wp2_with fail
        go_ret
        exact ⟨by rw [HNp.out (.inl (by first | rfl | trivial))]; rfl, HBA.out⟩
      | true =>
        go_wp2_with fail
        refine (HCx.out _).mono ?_
        rintro e w' ⟨rfl, rfl⟩
        go_wp2_with fail
        refine (HCy.out _).mono ?_
        rintro e w' ⟨rfl, rfl⟩
        cases ky with
        | false =>
          go_wp2_with fail
          go_ret
          exact ⟨by rw [HNp.out (.inr (.inl (by first | rfl | trivial)))]; rfl, HBA.out⟩
        | true =>
          go_wp2_with fail
          refine (HCw.out _).mono ?_
          rintro e w' ⟨rfl, rfl⟩
          cases kw with
          | false =>
            go_wp2_with fail
            go_ret
            exact ⟨by rw [HNp.out (.inr (.inr (by first | rfl | trivial)))]; rfl, HBA.out⟩
          | true =>
            go_wp2_with fail
            go_roundw
            case rel => exact ⟨i + 1, by omega, by go_num, HSt.out i p HP.out HOk.out (HOkp.out (by first | rfl | trivial) (by first | rfl | trivial) (by first | rfl | trivial)), HBA.out⟩
            case measure => simp [intOf]; omega
    · obtain rfl : n = i := by omega
      have HF := Lib.hid (HYes.out HOk.out)
      clear hbl
      go_wp2_with fail
      go_ret
      exact ⟨by rw [← HR.out, HF.out]; rfl, HB.out⟩
/-- .. of whatever list of points. -/
theorem rpf_any (A : Option Addr) (ps : List Pt3) (c : Nat) (w : World) (hb : ps.length ≤ 17592186044416) (hL : Lies w w.heap.size A (ptC ps)) :
    Calls Tryd.prog 12 #[.slice A ps.length c] w fun e w' => e = .returned (.int .i64 (ptsF ps)) ∧ Below w.heap.size w w' := by
  unfold ptsF
  by_cases h : 150 < ps.length
  · rw [if_pos h]; exact rpf_size A ps.length c w h hb
  · rw [if_neg h]; exact rpf_small A ps c w (by omega) hL

set_option maxHeartbeats 1000000 in
/-- The document's pointIn. -/
theorem rin_any (p : Pt3) (r : Rc4) (w : World) : Calls Tryd.prog 23 #[p.val, r.val] w fun e w' => e = .returned (.bool (inR r p)) ∧ Below w.heap.size w w' := by
  obtain ⟨x, y, z⟩ := p
  obtain ⟨x0, y0, x1, y1⟩ := r
  unfold inR Pt3.val Rc4.val
  have HB := Lib.hid ((bnew w (.cells #[.int .i64 x, .int .i64 y, .int .i64 z] 35)).alloc (by simp) (.cells #[.int .i64 x0, .int .i64 y0, .int .i64 x1, .int .i64 y1] 33))
  by_cases h1 : x0 ≤ x
  · by_cases h2 : x ≤ x1
    · by_cases h3 : y0 ≤ y
      · by_cases h4 : y ≤ y1
        · rw [decide_eq_true h1, decide_eq_true h2, decide_eq_true h3, decide_eq_true h4]
          go_enter Tryd.func23, Tryd.ntmps23
          go_wp2
          go_ret
          exact ⟨rfl, HB.out⟩
        · rw [decide_eq_true h1, decide_eq_true h2, decide_eq_true h3, decide_eq_false h4]
          go_enter Tryd.func23, Tryd.ntmps23
          go_wp2
          go_ret
          exact ⟨rfl, HB.out⟩
      · rw [decide_eq_true h1, decide_eq_true h2, decide_eq_false h3]
        go_enter Tryd.func23, Tryd.ntmps23
        go_wp2
        go_ret
        exact ⟨rfl, HB.out⟩
    · rw [decide_eq_true h1, decide_eq_false h2]
      go_enter Tryd.func23, Tryd.ntmps23
      go_wp2
      go_ret
      exact ⟨rfl, HB.out⟩
  · rw [decide_eq_false h1]
    go_enter Tryd.func23, Tryd.ntmps23
    go_wp2
    go_ret
    exact ⟨rfl, HB.out⟩
end Go.Proofs.YtpkclmfadlkbeaaDoor

namespace Go.Proofs.YtpkclmfadlkbeaaDoor
open Go.RowKit

set_option maxHeartbeats 1000000 in
/-- grid.allowed. -/
theorem gco_any (x : Int) (w : World) : Calls Tryd.prog 35 #[.int .i64 x] w fun e w' => e = .returned (.bool (coOk x)) ∧ w = w' := by
  unfold coOk
  by_cases h1 : -1048576 ≤ x
  · by_cases h2 : x ≤ 1048576
    · rw [decide_eq_true h1, decide_eq_true h2]
      go_enter Tryd.func35, Tryd.ntmps35
      go_wp2
      go_ret
      exact ⟨rfl, rfl⟩
    · rw [decide_eq_true h1, decide_eq_false h2]
      go_enter Tryd.func35, Tryd.ntmps35
      go_wp2
      go_ret
      exact ⟨rfl, rfl⟩
  · rw [decide_eq_false h1]
    go_enter Tryd.func35, Tryd.ntmps35
    go_wp2
    go_ret
    exact ⟨rfl, rfl⟩

set_option maxHeartbeats 1000000 in
/-- grid.Check. -/
theorem gck_size (A : Option Addr) (n c : Nat) (w : World) (hn : 150 < n) (hb : n ≤ 17592186044416) :
    Calls Tryd.prog 26 #[.slice A n c] w fun e w' => e = .returned (.int .i64 1) ∧ Below w.heap.size w w' := by
  go_enter Tryd.func26, Tryd.ntmps26
  go_wp2_with fail
  go_ret
  exact ⟨rfl, Below.refl _ _⟩

set_option maxHeartbeats 2000000 in
theorem gck_small (A : Option Addr) (ps : List Pt3) (c : Nat) (w : World) (hn : ps.length ≤ 150) (hL : Lies w w.heap.size A (ptC ps)) :
    Calls Tryd.prog 26 #[.slice A ps.length c] w fun e w' => e = .returned (.int .i64 (if ps.all ptOk then 0 else 2)) ∧ Below w.heap.size w w' := by
  have HL := Lib.hid hL
  have HC := Lib.hid (fun x W => gco_any x W)
  have HNo := Lib.hid (fun (i : Nat) (p : Pt3) (hp : ps[i]? = some p) (h : ptOk p = false) => show ps.all ptOk = false by
    rw [List.all_eq_false]
    exact ⟨p, List.mem_of_getElem? hp, by rw [h]; decide⟩)
  have HYes := Lib.hid (fun (h : ∀ q ∈ ps.take ps.length, ptOk q = true) => show ps.all ptOk = true by rw [List.take_length] at h; exact List.all_eq_true.2 h)
  have HSt := Lib.hid (fun i p (hp : ps[i]? = some p) h hk => all_step hp h hk)
  obtain ⟨r, hr⟩ : ∃ r : Int, (if ps.all ptOk then 0 else 2) = r := ⟨_, rfl⟩
  have HR := Lib.hid hr
  rw [hr]
  obtain ⟨n, hk⟩ : ∃ n, ps.length = n := ⟨_, rfl⟩
  have HN := Lib.hid hk
  rw [hk] at hn HYes ⊢
  clear hk hL hr
  have hd : decide ((150 : Int) < (n : Int)) = false := by simp; omega
  go_enter Tryd.func26, Tryd.ntmps26
  go_wp2_with fail
  go_loopw [10] (fun u w' => ∃ i : Nat, i ≤ n ∧ u = .int .i64 i ∧ (∀ q ∈ ps.take i, ptOk q = true) ∧ Below w.heap.size w w') (fun u _ => n - (intOf u).toNat)
  case atStart => exact ⟨0, Nat.zero_le _, rfl, (fun q hq => by rw [List.take_zero] at hq; cases hq), Below.refl _ _⟩
  case round =>
    obtain ⟨i, hi, rfl, hok, hbl⟩ := hrel
    have HOk := Lib.hid hok
    have HB := Lib.hid hbl
    clear hok
    by_cases hlt : i < n
    · obtain ⟨p, hp⟩ : ∃ p, ps[i]? = some p := ⟨_, List.getElem?_eq_getElem (by rw [HN.out]; exact hlt)⟩
      obtain ⟨b, o, rfl, hb, hcx, hcy, hcw⟩ := pts_at (HL.out.below hbl) hp
      have HP := Lib.hid hp
      clear hbl hp
      have HBA := Lib.hid (HB.out.alloc HB.out.size (.cells #[.int .i64 p.x, .int .i64 p.y, .int .i64 p.w] 35))
      have HCx := Lib.hid (fun W => HC.out p.x W)
      have HCy := Lib.hid (fun W => HC.out p.y W)
      have HCw := Lib.hid (fun W => HC.out p.w W)
      have HOkp : Hid (coOk p.x = true → coOk p.y = true → coOk p.w = true → ptOk p = true) := Lib.hid (fun h1 h2 h3 => by unfold ptOk; rw [h1, h2, h3]; rfl)
      have HNp : Hid (coOk p.x = false ∨ coOk p.y = false ∨ coOk p.w = false → r = 2) := Lib.hid (fun h => by
        rw [← HR.out, HNo.out i p HP.out (by unfold ptOk; rcases h with h | h | h <;> rw [h] <;> simp)]; rfl)
      generalize hx : coOk p.x = kx at *
      generalize hy : coOk p.y = ky at *
      generalize hw : coOk p.w = kw at *
      clear hx hy hw
      cases kx with
      | false =>
        go_wp2_with fail
        refine (HCx.out _).mono ?_
        rintro e w' ⟨rfl, rfl⟩
        go_wp2_with fail
        go_ret
        exact ⟨by rw [HNp.out (.inl (by first | rfl | trivial))]; rfl, HBA.out⟩
      | true =>
        go_wp2_with fail
        refine (HCx.out _).mono ?_
        rintro e w' ⟨rfl, rfl⟩
        go_wp2_with fail
        refine (HCy.out _).mono ?_
        rintro e w' ⟨rfl, rfl⟩
        cases ky with
        | false =>
          go_wp2_with fail
          go_ret
          exact ⟨by rw [HNp.out (.inr (.inl (by first | rfl | trivial)))]; rfl, HBA.out⟩
        | true =>
          go_wp2_with fail
          refine (HCw.out _).mono ?_
          rintro e w' ⟨rfl, rfl⟩
          cases kw with
          | false =>
            go_wp2_with fail
            go_ret
            exact ⟨by rw [HNp.out (.inr (.inr (by first | rfl | trivial)))]; rfl, HBA.out⟩
          | true =>
            go_wp2_with fail
            go_roundw
            case rel => exact ⟨i + 1, by omega, by go_num, HSt.out i p HP.out HOk.out (HOkp.out (by first | rfl | trivial) (by first | rfl | trivial) (by first | rfl | trivial)), HBA.out⟩
            case measure => simp [intOf]; omega
    · obtain rfl : n = i := by omega
      have HF := Lib.hid (HYes.out HOk.out)
      clear hbl
      go_wp2_with fail
      go_ret
      exact ⟨by rw [← HR.out, HF.out]; rfl, HB.out⟩
/-- .. of whatever list of points. -/
theorem gck_any (A : Option Addr) (ps : List Pt3) (c : Nat) (w : World) (hb : ps.length ≤ 17592186044416) (hL : Lies w w.heap.size A (ptC ps)) :
    Calls Tryd.prog 26 #[.slice A ps.length c] w fun e w' => e = .returned (.int .i64 (ptsF ps)) ∧ Below w.heap.size w w' := by
  unfold ptsF
  by_cases h : 150 < ps.length
  · rw [if_pos h]; exact gck_size A ps.length c w h hb
  · rw [if_neg h]; exact gck_small A ps c w (by omega) hL

end Go.Proofs.YtpkclmfadlkbeaaDoor
