/-
  What the document's PointsFault, pointIn, within and the closures of its grid answers return: contracts, walked over the translated text. What grid.allowed and grid.Check return: contracts, walked over the translated text. No condition but what each theorem names.
-/
import Derived.Test.YtpkclmfadlkbeaaJ09
import Derived.Test.YtpkclmfadlkbeaaJ02
import Derived.IntWalk
import Derived.Deep.RegionHeld3
namespace Go.Proofs.Ytpkclmfadlkbeaa
open Go.RowKit

set_option maxHeartbeats 1000000 in
/-- The document's coordMay. -/
theorem rco_any (x : Int) (w : World) : Calls Try.prog 48 #[.int .i64 x] w fun e w' => e = .returned (.bool (coOk x)) ∧ w = w' := by
  unfold coOk
  by_cases h1 : -1048576 ≤ x
  · by_cases h2 : x ≤ 1048576
    · rw [decide_eq_true h1, decide_eq_true h2]
      go_enter Try.func48, Try.ntmps48
      go_wp2
      go_ret
      exact ⟨rfl, rfl⟩
    · rw [decide_eq_true h1, decide_eq_false h2]
      go_enter Try.func48, Try.ntmps48
      go_wp2
      go_ret
      exact ⟨rfl, rfl⟩
  · rw [decide_eq_false h1]
    go_enter Try.func48, Try.ntmps48
    go_wp2
    go_ret
    exact ⟨rfl, rfl⟩

set_option maxHeartbeats 1000000 in
/-- The document's PointsFault. -/
theorem rpf_size (A : Option Addr) (n c : Nat) (w : World) (hn : 150 < n) (hb : n ≤ 17592186044416) :
    Calls Try.prog 26 #[.slice A n c] w fun e w' => e = .returned (.int .i64 1) ∧ Below w.heap.size w w' := by
  go_enter Try.func26, Try.ntmps26
  go_wp2_with fail
  go_ret
  exact ⟨rfl, Below.refl _ _⟩

theorem all_step {ps : List Pt3} {i : Nat} {p : Pt3} (hp : ps[i]? = some p) (h : ∀ q ∈ ps.take i, ptOk q = true) (hk : ptOk p = true) : ∀ q ∈ ps.take (i + 1), ptOk q = true := fun q hq => by
  rw [List.take_add_one, hp, List.mem_append, Option.toList_some, List.mem_singleton] at hq
  rcases hq with hq | rfl
  · exact h q hq
  · exact hk

set_option maxHeartbeats 2000000 in
theorem rpf_small (A : Option Addr) (ps : List Pt3) (c : Nat) (w : World) (hn : ps.length ≤ 150) (hL : Lies w w.heap.size A (ptC ps)) :
    Calls Try.prog 26 #[.slice A ps.length c] w fun e w' => e = .returned (.int .i64 (if ps.all ptOk then 0 else 2)) ∧ Below w.heap.size w w' := by
  have HL := Lib.hid hL
  have HC := Lib.hid (fun x W => rco_any x W)
  have HNo := Lib.hid (fun (i : Nat) (p : Pt3) (hp : ps[i]? = some p) (h : ptOk p = false) => show ps.all ptOk = false by
    rw [List.all_eq_false]
    exact ⟨p, List.mem_of_getElem? hp, by rw [h]; decide⟩)
  have HYes := Lib.hid (fun (h : ∀ q ∈ ps.take ps.length, ptOk q = true) => show ps.all ptOk = true by rw [List.take_length] at h; exact List.all_eq_true.2 h)
  have HSt := Lib.hid (fun i p (hp : ps[i]? = some p) h hk => all_step hp h hk)
  obtain ⟨r, hr⟩ : ∃ r : Int, (if ps.all ptOk then 0 else 2) = r := ⟨_, rfl⟩
  have HR := Lib.hid hr
  rw [hr]
  obtain ⟨n, hk⟩ : ∃ n, ps.length = n := ⟨_, rfl⟩
  have HN := Lib.hid hk
  rw [hk] at hn HYes ⊢
  clear hk hL hr
  have hd : decide ((150 : Int) < (n : Int)) = false := by simp; omega
  go_enter Try.func26, Try.ntmps26
  go_wp2_with fail
  go_loopw [10] (fun u w' => ∃ i : Nat, i ≤ n ∧ u = .int .i64 i ∧ (∀ q ∈ ps.take i, ptOk q = true) ∧ Below w.heap.size w w') (fun u _ => n - (intOf u).toNat)
  case atStart => exact ⟨0, Nat.zero_le _, rfl, (fun q hq => by rw [List.take_zero] at hq; cases hq), Below.refl _ _⟩
  case round =>
    obtain ⟨i, hi, rfl, hok, hbl⟩ := hrel
    have HOk := Lib.hid hok
    have HB := Lib.hid hbl
    clear hok
    by_cases hlt : i < n
    · obtain ⟨p, hp⟩ : ∃ p, ps[i]? = some p := ⟨_, List.getElem?_eq_getElem (by rw [HN.out]; exact hlt)⟩
      obtain ⟨b, o, rfl, hb, hcx, hcy, hcw⟩ := pts_at (HL.out.below hbl) hp
      have HP := Lib.hid hp
      clear hbl hp
      have HBA := Lib.hid (HB.out.alloc HB.out.size (.cells #[.int .i64 p.x, .int .i64 p.y, .int .i64 p.w] 30))
      have HCx := Lib.hid (fun W => HC.out p.x W)
      have HCy := Lib.hid (fun W => HC.out p.y W)
      have HCw := Lib.hid (fun W => HC.out p.w W)
      have HOkp : Hid (coOk p.x = true → coOk p.y = true → coOk p.w = true → ptOk p = true) := Lib.hid (fun h1 h2 h3 => by unfold ptOk; rw [h1, h2, h3]; rfl)
      have HNp : Hid (coOk p.x = false ∨ coOk p.y = false ∨ coOk p.w = false → r = 2) := Lib.hid (fun h => by
        rw [← HR.out, HNo.out i p HP.out (by unfold ptOk; rcases h with h | h | h <;> rw [h] <;> simp)]; rfl)
      generalize hx : coOk p.x = kx at *
      generalize hy : coOk p.y = ky at *
      generalize hw : coOk p.w = kw at *
      clear hx hy hw
      cases kx with
      | false =>
        go_wp2_with fail
        refine (HCx.out _).mono ?_
        rintro e w' ⟨rfl, rfl⟩
        go_wp2_with fail
        go_ret
        exact ⟨by rw [HNp.out (.inl (by first | rfl | trivial))]; rfl, HBA.out⟩
      | true =>
        go_wp2_with fail
        refine (HCx.out _).mono ?_
        rintro e w' ⟨rfl, rfl⟩
        go_wp2_with fail
        refine (HCy.out _).mono ?_
        rintro e w' ⟨rfl, rfl⟩
        cases ky with
        | false =>
          go_wp2_with fail
          go_ret
          exact ⟨by rw [HNp.out (.inr (.inl (by first | rfl | trivial)))]; rfl, HBA.out⟩
        | true =>
          go_wp2_with fail
          refine (HCw.out _).mono ?_
          rintro e w' ⟨rfl, rfl⟩
          cases kw with
          | false =>
            go_wp2_with fail
            go_ret
            exact ⟨by rw [HNp.out (.inr (.inr (by first | rfl | trivial)))]; rfl, HBA.out⟩
          | true =>
            go_wp2_with fail
            go_roundw
            case rel => exact ⟨i + 1, by omega, by go_num, HSt.out i p HP.out HOk.out (HOkp.out (by first | rfl | trivial) (by first | rfl | trivial) (by first | rfl | trivial)), HBA.out⟩
            case measure => simp [intOf]; omega
    · obtain rfl : n = i := by omega
      have HF := Lib.hid (HYes.out HOk.out)
      clear hbl
      go_wp2_with fail
      go_ret
      exact ⟨by rw [← HR.out, HF.out]; rfl, HB.out⟩
/-- .. of whatever list of points. -/
theorem rpf_any (A : Option Addr) (ps : List Pt3) (c : Nat) (w : World) (hb : ps.length ≤ 17592186044416) (hL : Lies w w.heap.size A (ptC ps)) :
    Calls Try.prog 26 #[.slice A ps.length c] w fun e w' => e = .returned (.int .i64 (ptsF ps)) ∧ Below w.heap.size w w' := by
  unfold ptsF
  by_cases h : 150 < ps.length
  · rw [if_pos h]; exact rpf_size A ps.length c w h hb
  · rw [if_neg h]; exact rpf_small A ps c w (by omega) hL

end Go.Proofs.Ytpkclmfadlkbeaa

namespace Go.Proofs.Ytpkclmfadlkbeaa
open Go.RowKit

set_option maxHeartbeats 1000000 in
/-- grid.allowed. -/
theorem gco_any (x : Int) (w : World) : Calls Try.prog 44 #[.int .i64 x] w fun e w' => e = .returned (.bool (coOk x)) ∧ w = w' := by
  unfold coOk
  by_cases h1 : -1048576 ≤ x
  · by_cases h2 : x ≤ 1048576
    · rw [decide_eq_true h1, decide_eq_true h2]
      go_enter Try.func44, Try.ntmps44
      go_wp2
      go_ret
      exact ⟨rfl, rfl⟩
    · rw [decide_eq_true h1, decide_eq_false h2]
      go_enter Try.func44, Try.ntmps44
      go_wp2
      go_ret
      exact ⟨rfl, rfl⟩
  · rw [decide_eq_false h1]
    go_enter Try.func44, Try.ntmps44
    go_wp2
    go_ret
    exact ⟨rfl, rfl⟩

set_option maxHeartbeats 1000000 in
/-- grid.Check. -/
theorem gck_size (A : Option Addr) (n c : Nat) (w : World) (hn : 150 < n) (hb : n ≤ 17592186044416) :
    Calls Try.prog 24 #[.slice A n c] w fun e w' => e = .returned (.int .i64 1) ∧ Below w.heap.size w w' := by
  go_enter Try.func24, Try.ntmps24
  go_wp2_with fail
  go_ret
  exact ⟨rfl, Below.refl _ _⟩

set_option maxHeartbeats 2000000 in
theorem gck_small (A : Option Addr) (ps : List Pt3) (c : Nat) (w : World) (hn : ps.length ≤ 150) (hL : Lies w w.heap.size A (ptC ps)) :
    Calls Try.prog 24 #[.slice A ps.length c] w fun e w' => e = .returned (.int .i64 (if ps.all ptOk then 0 else 2)) ∧ Below w.heap.size w w' := by
  have HL := Lib.hid hL
  have HC := Lib.hid (fun x W => gco_any x W)
  have HNo := Lib.hid (fun (i : Nat) (p : Pt3) (hp : ps[i]? = some p) (h : ptOk p = false) => show ps.all ptOk = false by
    rw [List.all_eq_false]
    exact ⟨p, List.mem_of_getElem? hp, by rw [h]; decide⟩)
  have HYes := Lib.hid (fun (h : ∀ q ∈ ps.take ps.length, ptOk q = true) => show ps.all ptOk = true by rw [List.take_length] at h; exact List.all_eq_true.2 h)
  have HSt := Lib.hid (fun i p (hp : ps[i]? = some p) h hk => all_step hp h hk)
  obtain ⟨r, hr⟩ : ∃ r : Int, (if ps.all ptOk then 0 else 2) = r := ⟨_, rfl⟩
  have HR := Lib.hid hr
  rw [hr]
  obtain ⟨n, hk⟩ : ∃ n, ps.length = n := ⟨_, rfl⟩
  have HN := Lib.hid hk
  rw [hk] at hn HYes ⊢
  clear hk hL hr
  have hd : decide ((150 : Int) < (n : Int)) = false := by simp; omega
  go_enter Try.func24, Try.ntmps24
  go_wp2_with fail
  go_loopw [10] (fun u w' => ∃ i : Nat, i ≤ n ∧ u = .int .i64 i ∧ (∀ q ∈ ps.take i, ptOk q = true) ∧ Below w.heap.size w w') (fun u _ => n - (intOf u).toNat)
  case atStart => exact ⟨0, Nat.zero_le _, rfl, (fun q hq => by rw [List.take_zero] at hq; cases hq), Below.refl _ _⟩
  case round =>
    obtain ⟨i, hi, rfl, hok, hbl⟩ := hrel
    have HOk := Lib.hid hok
    have HB := Lib.hid hbl
    clear hok
    by_cases hlt : i < n
    · obtain ⟨p, hp⟩ : ∃ p, ps[i]? = some p := ⟨_, List.getElem?_eq_getElem (by rw [HN.out]; exact hlt)⟩
      obtain ⟨b, o, rfl, hb, hcx, hcy, hcw⟩ := pts_at (HL.out.below hbl) hp
      have HP := Lib.hid hp
      clear hbl hp
      have HBA := Lib.hid (HB.out.alloc HB.out.size (.cells #[.int .i64 p.x, .int .i64 p.y, .int .i64 p.w] 30))
      have HCx := Lib.hid (fun W => HC.out p.x W)
      have HCy := Lib.hid (fun W => HC.out p.y W)
      have HCw := Lib.hid (fun W => HC.out p.w W)
      have HOkp : Hid (coOk p.x = true → coOk p.y = true → coOk p.w = true → ptOk p = true) := Lib.hid (fun h1 h2 h3 => by unfold ptOk; rw [h1, h2, h3]; rfl)
      have HNp : Hid (coOk p.x = false ∨ coOk p.y = false ∨ coOk p.w = false → r = 2) := Lib.hid (fun h => by
        rw [← HR.out, HNo.out i p HP.out (by unfold ptOk; rcases h with h | h | h <;> rw [h] <;> simp)]; rfl)
      generalize hx : coOk p.x = kx at *
      generalize hy : coOk p.y = ky at *
      generalize hw : coOk p.w = kw at *
      clear hx hy hw
      cases kx with
      | false =>
        go_wp2_with fail
        refine (HCx.out _).mono ?_
        rintro e w' ⟨rfl, rfl⟩
        go_wp2_with fail
        go_ret
        exact ⟨by rw [HNp.out (.inl (by first | rfl | trivial))]; rfl, HBA.out⟩
      | true =>
        go_wp2_with fail
        refine (HCx.out _).mono ?_
        rintro e w' ⟨rfl, rfl⟩
        go_wp2_with fail
        refine (HCy.out _).mono ?_
        rintro e w' ⟨rfl, rfl⟩
        cases ky with
        | false =>
          go_wp2_with fail
          go_ret
          exact ⟨by rw [HNp.out (.inr (.inl (by first | rfl | trivial)))]; rfl, HBA.out⟩
        | true =>
          go_wp2_with fail
          refine (HCw.out _).mono ?_
          rintro e w' ⟨rfl, rfl⟩
          cases kw with
          | false =>
            go_wp2_with fail
            go_ret
            exact ⟨by rw [HNp.out (.inr (.inr (by first | rfl | trivial)))]; rfl, HBA.out⟩
          | true =>
            go_wp2_with fail
            go_roundw
            case rel => exact ⟨i + 1, by omega, by go_num, HSt.out i p HP.out HOk.out (HOkp.out (by first | rfl | trivial) (by first | rfl | trivial) (by first | rfl | trivial)), HBA.out⟩
            case measure => simp [intOf]; omega
    · obtain rfl : n = i := by omega
      have HF := Lib.hid (HYes.out HOk.out)
      clear hbl
      go_wp2_with fail
      go_ret
      exact ⟨by rw [← HR.out, HF.out]; rfl, HB.out⟩
/-- .. of whatever list of points. -/
theorem gck_any (A : Option Addr) (ps : List Pt3) (c : Nat) (w : World) (hb : ps.length ≤ 17592186044416) (hL : Lies w w.heap.size A (ptC ps)) :
    Calls Try.prog 24 #[.slice A ps.length c] w fun e w' => e = .returned (.int .i64 (ptsF ps)) ∧ Below w.heap.size w w' := by
  unfold ptsF
  by_cases h : 150 < ps.length
  · rw [if_pos h]; exact gck_size A ps.length c w h hb
  · rw [if_neg h]; exact gck_small A ps c w (by omega) hL

end Go.Proofs.Ytpkclmfadlkbeaa
