/-
  What slices.BinarySearch, fano.May, fano.At, fano.Next and the document's answers to these return: contracts, walked over the translated text. No condition but what each theorem names; 'Tab': the library's table lies in its variable as its initialiser lays it.
-/
import Derived.Test.YtmlekhgjnhnjlaaDoorFanoRd
namespace Go.Proofs.YtmlekhgjnhnjlaaDoor
open Go.RowKit Words

theorem nan1_any (a : Int) (w : World) : Calls Tryd.prog 51 #[.int .i64 a] w fun e w' => e = .returned (.bool false) ∧ w = w' := by
  have h : (a != a) = false := by simp
  go_enter Tryd.func51, Tryd.ntmps51
  go_wp2
  go_ret
  exact ⟨rfl, rfl⟩
theorem nan2_any (a : Int) (w : World) : Calls Tryd.prog 41 #[.int .i64 a] w fun e w' => e = .returned (.bool false) ∧ w = w' := by
  have h : (a != a) = false := by simp
  go_enter Tryd.func41, Tryd.ntmps41
  go_wp2
  go_ret
  exact ⟨rfl, rfl⟩
/-- cmp.Less of two int. -/
theorem less_any (a b : Int) (w : World) (t : Bool) (ht : decide (a < b) = t) : Calls Tryd.prog 40 #[.int .i64 a, .int .i64 b] w fun e w' => e = .returned (.bool t) ∧ w = w' := by
  have HN := Lib.hid (fun (a : Int) (w : World) => nan1_any a w)
  go_enter Tryd.func40, Tryd.ntmps40
  go_wp2_with (go_at_call 51; refine (HN.out _ _).mono ?_; rintro e w' ⟨rfl, rfl⟩)
  go_ret
  exact ⟨rfl, rfl⟩

/-- The first place whose number is not below x, or the end. -/
structure First (ns : List Nat) (x : Int) (i : Nat) : Prop where
  le : i ≤ ns.length
  below : ∀ j, j < i → ((ns.getD j 0 : Nat) : Int) < x
  here : i < ns.length → x ≤ ((ns.getD i 0 : Nat) : Int)

theorem first_ex (ns : List Nat) (x : Int) : ∃ i, First ns x i := by
  have aux : ∀ k, k ≤ ns.length → (∃ i, i ≤ k ∧ (∀ j, j < i → ((ns.getD j 0 : Nat) : Int) < x) ∧ (i < k → x ≤ ((ns.getD i 0 : Nat) : Int))) := by
    intro k
    induction k with
    | zero => exact fun _ => ⟨0, Nat.le_refl _, (fun j h => by omega), fun h => by omega⟩
    | succ k ih =>
      intro hk
      obtain ⟨i, h1, h2, h3⟩ := ih (by omega)
      by_cases hi : i < k
      · exact ⟨i, by omega, h2, fun _ => h3 hi⟩
      · obtain rfl : i = k := by omega
        by_cases hx : x ≤ ((ns.getD i 0 : Nat) : Int)
        · exact ⟨i, by omega, h2, fun _ => hx⟩
        · refine ⟨i + 1, Nat.le_refl _, fun j hj => ?_, fun h => by omega⟩
          by_cases e : j = i
          · rw [e]; omega
          · exact h2 j (by omega)
  obtain ⟨i, h1, h2, h3⟩ := aux ns.length (Nat.le_refl _)
  exact ⟨i, h1, h2, h3⟩

theorem intVals_at {w : World} {B : Nat} {A : Option Addr} {ns : List Nat} (h : Lies w B A (intVals ns)) {k : Nat} (hk : k < ns.length) : ∃ b o, A = some ⟨b, o, none⟩ ∧ b < B ∧ w.cell? ⟨b, o + k, none⟩ = some (.int .i64 (ns.getD k 0 : Nat)) := by
  obtain ⟨b, o, x, e, hb, hx, hc⟩ := h.at_ (k := k) (by rw [asInts_length]; exact hk)
  refine ⟨b, o, e, hb, ?_⟩
  rw [hc]
  congr 2
  rw [asInts_get, List.getElem?_eq_getElem hk] at hx
  rw [List.getD, List.getElem?_eq_getElem hk]
  exact (Option.some.inj hx).symm

/-- What a search leaves: the place; the second answer is not asked for. -/
def Found (w : World) (i : Nat) (e : Ending) (w' : World) : Prop := ∃ t : Bool, e = .returned (.tuple #[.int .i64 i, .bool t]) ∧ w = w'

set_option maxHeartbeats 1000000 in
/-- slices.BinarySearch of numbers that do not fall. -/
theorem search_any (A : Option Addr) (ns : List Nat) (c : Nat) (x : Int) (i : Nat) (B : Nat) (w : World) (hn : ns.length ≤ 300) (hR : Rises B ns) (hL : Lies w w.heap.size A (intVals ns)) (hF : First ns x i) :
    Calls Tryd.prog 25 #[.slice A ns.length c, .int .i64 x] w (Found w i) := by
  have HL := Lib.hid hL
  have HR := Lib.hid hR
  have HF := Lib.hid hF
  have hi := hF.le
  clear hL hR hF
  have HLs := Lib.hid (fun a t w ht => less_any a x w t ht)
  have HNa := Lib.hid (fun (a : Int) (w : World) => nan2_any a w)
  generalize hnn : ns.length = n at *
  have HN := Lib.hid hnn
  clear hnn
  go_enter Tryd.func25, Tryd.ntmps25
  go_wp2
  go_loop [7, 8] (fun a b => ∃ lo hi : Nat, lo ≤ i ∧ i ≤ hi ∧ hi ≤ n ∧ a = .int .i64 lo ∧ b = .int .i64 hi) (fun a b => (intOf b).toNat - (intOf a).toNat)
  case atStart => exact ⟨0, n, Nat.zero_le _, hi, Nat.le_refl _, rfl, rfl⟩
  case round =>
    obtain ⟨lo, hi, h1, h2, h3, rfl, rfl⟩ := hrel
    by_cases hlt : lo < hi
    · obtain ⟨s, hs⟩ : ∃ s, s = lo + hi := ⟨_, rfl⟩
      have hsum : (lo : Int) + (hi : Int) = (s : Int) := by omega
      have hhf : (s : Int) / 2 = ((s / 2 : Nat) : Int) := by omega
      have hm1 : lo ≤ s / 2 := by omega
      have hm2 : s / 2 < hi := by omega
      have hsb : s ≤ 600 := by omega
      clear hs
      generalize s / 2 = k at *
      obtain ⟨b, o, rfl, hb, hc⟩ := intVals_at HL.out (k := k) (by rw [HN.out]; omega)
      by_cases hx : ((ns.getD k 0 : Nat) : Int) < x
      · have hki : k < i := by
          rcases Nat.lt_or_ge k i with h4 | h4
          · exact h4
          · have h5 := HF.out.here (by rw [HN.out]; omega)
            have h6 := HR.out.mono k i h4 (by rw [HN.out]; omega)
            omega
        generalize ns.getD k 0 = y at *
        have HLt := Lib.hid (fun W => HLs.out y true W (by simpa using hx))
        go_wp2_with (go_at_call 40; refine (HLt.out _).mono ?_; rintro e w' ⟨rfl, rfl⟩)
        go_round
        case rel => exact ⟨k + 1, hi, by omega, h2, h3, by go_num, rfl⟩
        case measure => simp [intOf]; omega
      · have hki : i ≤ k := by
          rcases Nat.lt_or_ge k i with h4 | h4
          · exact absurd (HF.out.below k h4) hx
          · exact h4
        generalize ns.getD k 0 = y at *
        have HLt := Lib.hid (fun W => HLs.out y false W (by simpa using hx))
        go_wp2_with (go_at_call 40; refine (HLt.out _).mono ?_; rintro e w' ⟨rfl, rfl⟩)
        go_round
        case rel => exact ⟨lo, k, h1, hki, by omega, rfl, rfl⟩
        case measure => simp [intOf]; omega
    · obtain rfl : i = lo := by omega
      by_cases hin : i < n
      · obtain ⟨b, o, rfl, hb, hc⟩ := intVals_at HL.out (k := i) (by rw [HN.out]; exact hin)
        generalize ns.getD i 0 = y at *
        by_cases hx : (y : Int) = x
        · subst hx
          go_wp2_with (go_at_call 41; refine (HNa.out _ _).mono ?_; rintro e w' ⟨rfl, rfl⟩)
          go_ret2
          exact ⟨_, rfl, rfl⟩
        · have hxe : ((y : Int) == x) = false := by simpa using hx
          go_wp2_with (go_at_call 41; refine (HNa.out _ _).mono ?_; rintro e w' ⟨rfl, rfl⟩)
          go_ret2
          exact ⟨_, rfl, rfl⟩
      · go_wp2
        go_ret2
        exact ⟨_, rfl, rfl⟩

/-- The answer to At: the number or 0, and the error. -/
def fatV (ns : List Nat) (i : Int) : Int := if 0 ≤ i ∧ i < ns.length then ((ns.getD i.toNat 0 : Nat) : Int) else 0
def fatE (ns : List Nat) (i : Int) : Int := if 0 ≤ i ∧ i < ns.length then 0 else 2

set_option maxHeartbeats 400000 in
/-- fano.May of what is no encoding. -/
theorem fmay_no (Z n d : Int) (A : Option Addr) (lw : List Nat) (c : Nat) (m : Int) (A2 : Option Addr) (hw : List Nat) (c2 : Nat) (w : World) (hT : Tab w) (hW : Words64 w w.heap.size A lw) (hH : Words64 w w.heap.size A2 hw) (hno : ∀ ns B, ¬ Enc Z n d lw m hw ns B) :
    Calls Tryd.prog 9 #[.agg #[.int .i64 Z, .int .i64 n, .int .i64 d, .slice A lw.length c, .int .i64 m, .slice A2 hw.length c2]] w fun e w' => e = .returned (.bool false) ∧ Below w.heap.size w w' := by
  have HR := Lib.hid (fun W hT hW hH => elem_any Z n d A lw c m A2 hw c2 W hT hW hH)
  have HT := Lib.hid hT
  have HW := Lib.hid hW
  have HH := Lib.hid hH
  clear hT hW hH
  generalize lw.length = k at *
  generalize hw.length = k2 at *
  go_enter Tryd.func9, Tryd.ntmps9
  go_wp2_with fail
  refine (HR.out _ (by exact HT.out.alloc _) (by exact HW.out.alloc _) (by exact HH.out.alloc _)).mono ?_
  rintro e w1 h
  obtain ⟨rfl, hb1⟩ := h.no hno
  clear h hno
  go_wp2
  go_ret
  exact ⟨rfl, chain (bnew _ _) hb1⟩

set_option maxHeartbeats 1000000 in
/-- fano.May of an encoding. -/
theorem fmay_yes (Z n d : Int) (A : Option Addr) (lw : List Nat) (c : Nat) (m : Int) (A2 : Option Addr) (hw : List Nat) (c2 : Nat) (w : World) (hT : Tab w) (hW : Words64 w w.heap.size A lw) (hH : Words64 w w.heap.size A2 hw) (ns : List Nat) (B : Nat) (he : Enc Z n d lw m hw ns B) :
    Calls Tryd.prog 9 #[.agg #[.int .i64 Z, .int .i64 n, .int .i64 d, .slice A lw.length c, .int .i64 m, .slice A2 hw.length c2]] w fun e w' => e = .returned (.bool true) ∧ Below w.heap.size w w' := by
  have HR := Lib.hid (fun W hT hW hH => elem_any Z n d A lw c m A2 hw c2 W hT hW hH)
  have HT := Lib.hid hT
  have HW := Lib.hid hW
  have HH := Lib.hid hH
  have hn := he.hn
  have HE := Lib.hid he
  clear hT hW hH he
  generalize lw.length = k at *
  generalize hw.length = k2 at *
  go_enter Tryd.func9, Tryd.ntmps9
  go_wp2_with fail
  refine (HR.out _ (by exact HT.out.alloc _) (by exact HW.out.alloc _) (by exact HH.out.alloc _)).mono ?_
  rintro e w1 h
  obtain ⟨A5, c5, rfl, hle5, hl5, hb1⟩ := h.yes HE.out
  have HL5 := Lib.hid hl5
  clear h hl5
  go_wp2
  go_ret
  exact ⟨rfl, chain (bnew _ _) hb1⟩

set_option maxHeartbeats 400000 in
/-- fano.At of what is no encoding. -/
theorem fat_no (Z n d : Int) (A : Option Addr) (lw : List Nat) (c : Nat) (m : Int) (A2 : Option Addr) (hw : List Nat) (c2 : Nat) (x : Int) (w : World) (hT : Tab w) (hW : Words64 w w.heap.size A lw) (hH : Words64 w w.heap.size A2 hw) (hno : ∀ ns B, ¬ Enc Z n d lw m hw ns B) :
    Calls Tryd.prog 10 #[.agg #[.int .i64 Z, .int .i64 n, .int .i64 d, .slice A lw.length c, .int .i64 m, .slice A2 hw.length c2], .int .i64 x] w fun e w' => e = .returned (.tuple #[.int .i64 0, .int .i64 4]) ∧ Below w.heap.size w w' := by
  have HR := Lib.hid (fun W hT hW hH => elem_any Z n d A lw c m A2 hw c2 W hT hW hH)
  have HT := Lib.hid hT
  have HW := Lib.hid hW
  have HH := Lib.hid hH
  clear hT hW hH
  generalize lw.length = k at *
  generalize hw.length = k2 at *
  go_enter Tryd.func10, Tryd.ntmps10
  go_wp2_with fail
  refine (HR.out _ (by exact HT.out.alloc _) (by exact HW.out.alloc _) (by exact HH.out.alloc _)).mono ?_
  rintro e w1 h
  obtain ⟨rfl, hb1⟩ := h.no hno
  clear h hno
  go_wp2
  go_ret2
  exact ⟨rfl, chain (bnew _ _) hb1⟩

set_option maxHeartbeats 1000000 in
/-- fano.At of an encoding. -/
theorem fat_yes (Z n d : Int) (A : Option Addr) (lw : List Nat) (c : Nat) (m : Int) (A2 : Option Addr) (hw : List Nat) (c2 : Nat) (x : Int) (w : World) (hT : Tab w) (hW : Words64 w w.heap.size A lw) (hH : Words64 w w.heap.size A2 hw) (ns : List Nat) (B : Nat) (he : Enc Z n d lw m hw ns B) :
    Calls Tryd.prog 10 #[.agg #[.int .i64 Z, .int .i64 n, .int .i64 d, .slice A lw.length c, .int .i64 m, .slice A2 hw.length c2], .int .i64 x] w fun e w' => e = .returned (.tuple #[.int .i64 (fatV ns x), .int .i64 (fatE ns x)]) ∧ Below w.heap.size w w' := by
  have HR := Lib.hid (fun W hT hW hH => elem_any Z n d A lw c m A2 hw c2 W hT hW hH)
  have HT := Lib.hid hT
  have HW := Lib.hid hW
  have HH := Lib.hid hH
  have hn := he.hn
  have HE := Lib.hid he
  clear hT hW hH he
  generalize lw.length = k at *
  generalize hw.length = k2 at *
  by_cases hi : 0 ≤ x ∧ x < ns.length
  · have hv : fatV ns x = ((ns.getD x.toNat 0 : Nat) : Int) := if_pos hi
    have hq : fatE ns x = 0 := if_pos hi
    rw [hv, hq]
    obtain ⟨i, rfl⟩ := Int.eq_ofNat_of_zero_le hi.1
    have hin : i < ns.length := by omega
    clear hv hq hi
    rw [Int.toNat_natCast]
    generalize hyy : ns.getD i 0 = y at *
    have HY := Lib.hid hyy
    clear hyy
    go_enter Tryd.func10, Tryd.ntmps10
    go_wp2_with fail
    refine (HR.out _ (by exact HT.out.alloc _) (by exact HW.out.alloc _) (by exact HH.out.alloc _)).mono ?_
    rintro e w1 h
    obtain ⟨A5, c5, rfl, hle5, hl5, hb1⟩ := h.yes HE.out
    have HL5 := Lib.hid hl5
    clear h hl5
    obtain ⟨b, o, rfl, hb, hc⟩ := intVals_at HL5.out (k := i) hin
    rw [HY.out] at hc
    go_wp2
    go_ret2
    exact ⟨rfl, chain (bnew _ _) hb1⟩
  · have hv : fatV ns x = 0 := if_neg hi
    have hq : fatE ns x = 2 := if_neg hi
    rw [hv, hq]
    have hh : x < 0 ∨ (¬ x < 0 ∧ (ns.length : Int) ≤ x) := by omega
    clear hv hq hi
    rcases hh with h0 | ⟨h0, h1⟩
    all_goals
      go_enter Tryd.func10, Tryd.ntmps10
      go_wp2_with fail
      refine (HR.out _ (by exact HT.out.alloc _) (by exact HW.out.alloc _) (by exact HH.out.alloc _)).mono ?_
      rintro e w1 h
      obtain ⟨A5, c5, rfl, hle5, hl5, hb1⟩ := h.yes HE.out
      have HL5 := Lib.hid hl5
      clear h hl5
      go_wp2
      go_ret2
      exact ⟨rfl, chain (bnew _ _) hb1⟩

set_option maxHeartbeats 400000 in
/-- The document's At of what is no encoding. -/
theorem rfat_no (Z n d : Int) (A : Option Addr) (lw : List Nat) (c : Nat) (m : Int) (A2 : Option Addr) (hw : List Nat) (c2 : Nat) (x : Int) (w : World) (hW : Words64 w w.heap.size A lw) (hH : Words64 w w.heap.size A2 hw) (hk1 : lw.length ≤ 17592186044416) (hk2 : hw.length ≤ 17592186044416) (hno : ∀ ns B, ¬ Enc Z n d lw m hw ns B) :
    Calls Tryd.prog 11 #[.agg #[.int .i64 Z, .int .i64 n, .int .i64 d, .slice A lw.length c, .int .i64 m, .slice A2 hw.length c2], .int .i64 x] w fun e w' => e = .returned (.tuple #[.int .i64 0, .int .i64 4]) ∧ Below w.heap.size w w' := by
  have HR := Lib.hid (fun W hW hH => read_any Z n d A lw c m A2 hw c2 W hW hH hk1 hk2)
  have HW := Lib.hid hW
  have HH := Lib.hid hH
  clear hW hH
  generalize lw.length = k at *
  generalize hw.length = k2 at *
  go_enter Tryd.func11, Tryd.ntmps11
  go_wp2_with fail
  refine (HR.out _ (by exact HW.out.alloc _) (by exact HH.out.alloc _)).mono ?_
  rintro e w1 h
  obtain ⟨rfl, hb1⟩ := h.no hno
  clear h hno
  go_wp2
  go_ret2
  exact ⟨rfl, chain (bnew _ _) hb1⟩

set_option maxHeartbeats 1000000 in
/-- The document's At of an encoding. -/
theorem rfat_yes (Z n d : Int) (A : Option Addr) (lw : List Nat) (c : Nat) (m : Int) (A2 : Option Addr) (hw : List Nat) (c2 : Nat) (x : Int) (w : World) (hW : Words64 w w.heap.size A lw) (hH : Words64 w w.heap.size A2 hw) (hk1 : lw.length ≤ 17592186044416) (hk2 : hw.length ≤ 17592186044416) (ns : List Nat) (B : Nat) (he : Enc Z n d lw m hw ns B) :
    Calls Tryd.prog 11 #[.agg #[.int .i64 Z, .int .i64 n, .int .i64 d, .slice A lw.length c, .int .i64 m, .slice A2 hw.length c2], .int .i64 x] w fun e w' => e = .returned (.tuple #[.int .i64 (fatV ns x), .int .i64 (fatE ns x)]) ∧ Below w.heap.size w w' := by
  have HR := Lib.hid (fun W hW hH => read_any Z n d A lw c m A2 hw c2 W hW hH hk1 hk2)
  have HW := Lib.hid hW
  have HH := Lib.hid hH
  have hn := he.hn
  have HE := Lib.hid he
  clear hW hH he
  generalize lw.length = k at *
  generalize hw.length = k2 at *
  by_cases hi : 0 ≤ x ∧ x < ns.length
  · have hv : fatV ns x = ((ns.getD x.toNat 0 : Nat) : Int) := if_pos hi
    have hq : fatE ns x = 0 := if_pos hi
    rw [hv, hq]
    obtain ⟨i, rfl⟩ := Int.eq_ofNat_of_zero_le hi.1
    have hin : i < ns.length := by omega
    clear hv hq hi
    rw [Int.toNat_natCast]
    generalize hyy : ns.getD i 0 = y at *
    have HY := Lib.hid hyy
    clear hyy
    go_enter Tryd.func11, Tryd.ntmps11
    go_wp2_with fail
    refine (HR.out _ (by exact HW.out.alloc _) (by exact HH.out.alloc _)).mono ?_
    rintro e w1 h
    obtain ⟨A5, c5, rfl, hle5, hl5, hb1⟩ := h.yes HE.out
    have HL5 := Lib.hid hl5
    clear h hl5
    obtain ⟨b, o, rfl, hb, hc⟩ := intVals_at HL5.out (k := i) hin
    rw [HY.out] at hc
    go_wp2
    go_ret2
    exact ⟨rfl, chain (bnew _ _) hb1⟩
  · have hv : fatV ns x = 0 := if_neg hi
    have hq : fatE ns x = 2 := if_neg hi
    rw [hv, hq]
    have hh : x < 0 ∨ (¬ x < 0 ∧ (ns.length : Int) ≤ x) := by omega
    clear hv hq hi
    rcases hh with h0 | ⟨h0, h1⟩
    all_goals
      go_enter Tryd.func11, Tryd.ntmps11
      go_wp2_with fail
      refine (HR.out _ (by exact HW.out.alloc _) (by exact HH.out.alloc _)).mono ?_
      rintro e w1 h
      obtain ⟨A5, c5, rfl, hle5, hl5, hb1⟩ := h.yes HE.out
      have HL5 := Lib.hid hl5
      clear h hl5
      go_wp2
      go_ret2
      exact ⟨rfl, chain (bnew _ _) hb1⟩

set_option maxHeartbeats 400000 in
/-- fano.Next of what is no encoding. -/
theorem fnext_no (Z n d : Int) (A : Option Addr) (lw : List Nat) (c : Nat) (m : Int) (A2 : Option Addr) (hw : List Nat) (c2 : Nat) (x : Int) (w : World) (hT : Tab w) (hW : Words64 w w.heap.size A lw) (hH : Words64 w w.heap.size A2 hw) (hno : ∀ ns B, ¬ Enc Z n d lw m hw ns B) :
    Calls Tryd.prog 12 #[.agg #[.int .i64 Z, .int .i64 n, .int .i64 d, .slice A lw.length c, .int .i64 m, .slice A2 hw.length c2], .int .i64 x] w fun e w' => e = .returned (.tuple #[.int .i64 0, .int .i64 4]) ∧ Below w.heap.size w w' := by
  have HR := Lib.hid (fun W hT hW hH => elem_any Z n d A lw c m A2 hw c2 W hT hW hH)
  have HT := Lib.hid hT
  have HW := Lib.hid hW
  have HH := Lib.hid hH
  clear hT hW hH
  generalize lw.length = k at *
  generalize hw.length = k2 at *
  go_enter Tryd.func12, Tryd.ntmps12
  go_wp2_with fail
  refine (HR.out _ (by exact HT.out.alloc _) (by exact HW.out.alloc _) (by exact HH.out.alloc _)).mono ?_
  rintro e w1 h
  obtain ⟨rfl, hb1⟩ := h.no hno
  clear h hno
  go_wp2
  go_ret2
  exact ⟨rfl, chain (bnew _ _) hb1⟩

/-- The answer to Next: the place or 0, and the error. -/
def fnextV (ns : List Nat) (i : Nat) : Int := if i = ns.length then 0 else i
def fnextE (ns : List Nat) (i : Nat) : Int := if i = ns.length then 7 else 0

set_option maxHeartbeats 1000000 in
/-- fano.Next of an encoding. -/
theorem fnext_yes (Z n d : Int) (A : Option Addr) (lw : List Nat) (c : Nat) (m : Int) (A2 : Option Addr) (hw : List Nat) (c2 : Nat) (x : Int) (w : World) (hT : Tab w) (hW : Words64 w w.heap.size A lw) (hH : Words64 w w.heap.size A2 hw) (ns : List Nat) (B : Nat) (he : Enc Z n d lw m hw ns B) (i : Nat) (hF : First ns x i) :
    Calls Tryd.prog 12 #[.agg #[.int .i64 Z, .int .i64 n, .int .i64 d, .slice A lw.length c, .int .i64 m, .slice A2 hw.length c2], .int .i64 x] w fun e w' => e = .returned (.tuple #[.int .i64 (fnextV ns i), .int .i64 (fnextE ns i)]) ∧ Below w.heap.size w w' := by
  have HR := Lib.hid (fun W hT hW hH => elem_any Z n d A lw c m A2 hw c2 W hT hW hH)
  have HT := Lib.hid hT
  have HW := Lib.hid hW
  have HH := Lib.hid hH
  have hn := he.hn
  have HE := Lib.hid he
  clear hT hW hH he
  generalize lw.length = k at *
  generalize hw.length = k2 at *
  have HS := Lib.hid (fun A c W hL => search_any A ns c x i B W hn HE.out.rises hL hF)
  have hil := hF.le
  clear hF
  by_cases hi : i = ns.length
  · have hv : fnextV ns i = 0 := if_pos hi
    have hq : fnextE ns i = 7 := if_pos hi
    rw [hv, hq]
    subst hi
    clear hv hq
    go_enter Tryd.func12, Tryd.ntmps12
    go_wp2_with fail
    refine (HR.out _ (by exact HT.out.alloc _) (by exact HW.out.alloc _) (by exact HH.out.alloc _)).mono ?_
    rintro e w1 h
    obtain ⟨A5, c5, rfl, hle5, hl5, hb1⟩ := h.yes HE.out
    have HL5 := Lib.hid hl5
    clear h hl5
    go_wp2_with fail
    refine (HS.out _ _ _ HL5.out).mono ?_
    rintro e w2 ⟨t, rfl, rfl⟩
    go_wp2
    go_ret2
    exact ⟨rfl, chain (bnew _ _) hb1⟩
  · have hv : fnextV ns i = i := if_neg hi
    have hq : fnextE ns i = 0 := if_neg hi
    rw [hv, hq]
    have hne : ((i : Int) == (ns.length : Int)) = false := by rw [beq_eq_false_iff_ne]; omega
    clear hv hq hi
    go_enter Tryd.func12, Tryd.ntmps12
    go_wp2_with fail
    refine (HR.out _ (by exact HT.out.alloc _) (by exact HW.out.alloc _) (by exact HH.out.alloc _)).mono ?_
    rintro e w1 h
    obtain ⟨A5, c5, rfl, hle5, hl5, hb1⟩ := h.yes HE.out
    have HL5 := Lib.hid hl5
    clear h hl5
    go_wp2_with fail
    refine (HS.out _ _ _ HL5.out).mono ?_
    rintro e w2 ⟨t, rfl, rfl⟩
    go_wp2
    go_ret2
    exact ⟨rfl, chain (bnew _ _) hb1⟩

set_option maxHeartbeats 400000 in
/-- The document's Next of what is no encoding. -/
theorem rfnext_no (Z n d : Int) (A : Option Addr) (lw : List Nat) (c : Nat) (m : Int) (A2 : Option Addr) (hw : List Nat) (c2 : Nat) (x : Int) (w : World) (hW : Words64 w w.heap.size A lw) (hH : Words64 w w.heap.size A2 hw) (hk1 : lw.length ≤ 17592186044416) (hk2 : hw.length ≤ 17592186044416) (hno : ∀ ns B, ¬ Enc Z n d lw m hw ns B) :
    Calls Tryd.prog 13 #[.agg #[.int .i64 Z, .int .i64 n, .int .i64 d, .slice A lw.length c, .int .i64 m, .slice A2 hw.length c2], .int .i64 x] w fun e w' => e = .returned (.tuple #[.int .i64 0, .int .i64 4]) ∧ Below w.heap.size w w' := by
  have HR := Lib.hid (fun W hW hH => read_any Z n d A lw c m A2 hw c2 W hW hH hk1 hk2)
  have HW := Lib.hid hW
  have HH := Lib.hid hH
  clear hW hH
  generalize lw.length = k at *
  generalize hw.length = k2 at *
  go_enter Tryd.func13, Tryd.ntmps13
  go_wp2_with fail
  refine (HR.out _ (by exact HW.out.alloc _) (by exact HH.out.alloc _)).mono ?_
  rintro e w1 h
  obtain ⟨rfl, hb1⟩ := h.no hno
  clear h hno
  go_wp2
  go_ret2
  exact ⟨rfl, chain (bnew _ _) hb1⟩

set_option maxHeartbeats 1000000 in
/-- The document's Next of an encoding. -/
theorem rfnext_yes (Z n d : Int) (A : Option Addr) (lw : List Nat) (c : Nat) (m : Int) (A2 : Option Addr) (hw : List Nat) (c2 : Nat) (x : Int) (w : World) (hW : Words64 w w.heap.size A lw) (hH : Words64 w w.heap.size A2 hw) (hk1 : lw.length ≤ 17592186044416) (hk2 : hw.length ≤ 17592186044416) (ns : List Nat) (B : Nat) (he : Enc Z n d lw m hw ns B) (i : Nat) (hF : First ns x i) :
    Calls Tryd.prog 13 #[.agg #[.int .i64 Z, .int .i64 n, .int .i64 d, .slice A lw.length c, .int .i64 m, .slice A2 hw.length c2], .int .i64 x] w fun e w' => e = .returned (.tuple #[.int .i64 (fnextV ns i), .int .i64 (fnextE ns i)]) ∧ Below w.heap.size w w' := by
  have HR := Lib.hid (fun W hW hH => read_any Z n d A lw c m A2 hw c2 W hW hH hk1 hk2)
  have HW := Lib.hid hW
  have HH := Lib.hid hH
  have hn := he.hn
  have HE := Lib.hid he
  clear hW hH he
  generalize lw.length = k at *
  generalize hw.length = k2 at *
  have HF := Lib.hid hF
  have hil := hF.le
  clear hF
  go_enter Tryd.func13, Tryd.ntmps13
  go_wp2_with fail
  refine (HR.out _ (by exact HW.out.alloc _) (by exact HH.out.alloc _)).mono ?_
  rintro e w1 h
  obtain ⟨A5, c5, rfl, hle5, hl5, hb1⟩ := h.yes HE.out
  have HL5 := Lib.hid hl5
  clear h hl5
  go_wp2
  go_loop [19] (fun s => ∃ j : Nat, j ≤ i ∧ s = .int .i64 j) (fun s => ns.length - (intOf s).toNat)
  case atStart => exact ⟨0, Nat.zero_le _, rfl⟩
  case round =>
    obtain ⟨j, hj, rfl⟩ := hrel
    by_cases hjn : j < ns.length
    · obtain ⟨b, o, rfl, hb, hc⟩ := intVals_at HL5.out (k := j) hjn
      by_cases hji : j < i
      · have hlt := HF.out.below j hji
        generalize ns.getD j 0 = y at *
        go_wp2
        go_round
        case rel => exact ⟨j + 1, by omega, by go_num⟩
        case measure => simp [intOf]; omega
      · obtain rfl : j = i := by omega
        have hge := HF.out.here hjn
        have hv : fnextV ns j = j := if_neg (by omega)
        have hq : fnextE ns j = 0 := if_neg (by omega)
        have HV := Lib.hid hv
        have HQ := Lib.hid hq
        clear hv hq
        generalize ns.getD j 0 = y at *
        go_wp2
        go_ret2
        exact ⟨by rw [HV.out, HQ.out]; rfl, chain (bnew _ _) hb1⟩
    · obtain rfl : i = j := by omega
      have hv : fnextV ns i = 0 := if_pos (by omega)
      have hq : fnextE ns i = 7 := if_pos (by omega)
      have HV := Lib.hid hv
      have HQ := Lib.hid hq
      clear hv hq
      go_wp2
      go_ret2
      exact ⟨by rw [HV.out, HQ.out]; rfl, chain (bnew _ _) hb1⟩
end Go.Proofs.YtmlekhgjnhnjlaaDoor
