/-
  What the comparisons of words, the library's and the document's, return: contracts, walked over the translated text. No condition but what each theorem names.
-/
import Derived.Test.YtmlekhgjnhnjlaaDoorPop
import Derived.Test.YtmlekhgjnhnjlaaDoorRow
import Derived.Test.YtmlekhgjnhnjlaaDoorMem
import Derived.Deep.QuietTactic
import Derived.BigQuiet
import Derived.IntWalk
namespace Go.Proofs.YtmlekhgjnhnjlaaDoor
open Go.RowKit Words

set_option maxHeartbeats 1000000 in
/-- slices.Equal: are these the same words? -/
theorem equal_any (A A2 : Option Addr) (ws vs : List Nat) (c c2 : Nat) (w : World) (t : Bool) (hn : ws.length ≤ 17592186044416) (h1 : Words64 w w.heap.size A ws) (h2 : Words64 w w.heap.size A2 vs) (ht : t = true ↔ ws = vs) :
    Calls Tryd.prog 39 #[.slice A ws.length c, .slice A2 vs.length c2] w fun e w' => e = .returned (.bool t) ∧ Below w.heap.size w w' := by
  have H1 := Lib.hid h1
  have H2 := Lib.hid h2
  have HT := Lib.hid ht
  clear h1 h2 ht
  by_cases hl : ws.length = vs.length
  · rw [← hl]
    have HV := Lib.hid hl
    clear hl
    generalize hk : ws.length = n at *
    have HN := Lib.hid hk
    clear hk
    have hne : ((n : Int) != (n : Int)) = false := by simp
    go_enter Tryd.func39, Tryd.ntmps39
    go_wp2
    go_loopw [13] (fun u w' => ∃ i d : Nat, i ≤ n ∧ u = .int .i64 i ∧ w' = w.drewN d ∧ ∀ j, j < i → ws[j]? = vs[j]?) (fun u _ => n - (intOf u).toNat)
    case atStart => exact ⟨0, 0, Nat.zero_le _, rfl, rfl, fun j h => by omega⟩
    case round =>
      obtain ⟨i, d, hi, rfl, rfl, hz⟩ := hrel
      have HZ := Lib.hid hz
      clear hz
      by_cases hlt : i < n
      · obtain ⟨b, o, x, rfl, hb, hx, hxl, hc⟩ := H1.out.at_ (k := i) (by rw [HN.out]; exact hlt)
        obtain ⟨b2, o2, x2, rfl, hb2, hx2, hxl2, hc2⟩ := H2.out.at_ (k := i) (by rw [← HV.out]; exact hlt)
        by_cases hxx : x = x2
        · subst hxx
          have HX := Lib.hid (hx.trans hx2.symm)
          clear hx hx2
          have hne2 : ((x : Int) != (x : Int)) = false := by simp
          go_wp2
          go_quiet (fail)
          go_wp2
          go_roundw
          case rel => exact ⟨i + 1, _, by omega, by go_num, by first | rfl | (simp only [World.drewN_drewN]; rfl), fun j hj => by
            by_cases e : j = i
            · rw [e]; exact HX.out
            · exact HZ.out j (by omega)⟩
          case measure => simp [intOf]; omega
        · have hf : t = false := by
            cases t with
            | false => rfl
            | true =>
              have e := HT.out.1 rfl
              rw [e, hx2] at hx
              exact absurd (Option.some.inj hx).symm hxx
          subst hf
          have hne2 : ((x : Int) != (x2 : Int)) = true := by simp; omega
          clear hx hx2 hxx
          go_wp2
          go_quiet (fail)
          go_wp2
          go_ret
          exact ⟨rfl, bdN (bdN (Below.refl _ _) _) _⟩
      · obtain rfl : i = n := by omega
        have hf : t = true := HT.out.2 (List.ext_getElem? fun j => by
          by_cases hj : j < i
          · exact HZ.out j hj
          · rw [List.getElem?_eq_none (by rw [HN.out]; omega), List.getElem?_eq_none (by rw [← HV.out]; omega)])
        subst hf
        go_wp2
        go_ret
        exact ⟨rfl, bdN (Below.refl _ _) _⟩
  · have hf : t = false := by
      cases t with
      | false => rfl
      | true => exact absurd (congrArg List.length (HT.out.1 rfl)) hl
    subst hf
    generalize ws.length = n at *
    generalize vs.length = n2 at *
    have hne : ((n : Int) != (n2 : Int)) = true := by simp; omega
    clear hl
    go_enter Tryd.func39, Tryd.ntmps39
    go_wp2
    go_ret
    exact ⟨rfl, Below.refl _ _⟩

set_option maxHeartbeats 1000000 in
/-- The document's sameWordList: are these the same words? -/
theorem sameList_any (A A2 : Option Addr) (ws vs : List Nat) (c c2 : Nat) (w : World) (t : Bool) (hn : ws.length ≤ 17592186044416) (h1 : Words64 w w.heap.size A ws) (h2 : Words64 w w.heap.size A2 vs) (ht : t = true ↔ ws = vs) :
    Calls Tryd.prog 23 #[.slice A ws.length c, .slice A2 vs.length c2] w fun e w' => e = .returned (.bool t) ∧ Below w.heap.size w w' := by
  have H1 := Lib.hid h1
  have H2 := Lib.hid h2
  have HT := Lib.hid ht
  clear h1 h2 ht
  by_cases hl : ws.length = vs.length
  · rw [← hl]
    have HV := Lib.hid hl
    clear hl
    generalize hk : ws.length = n at *
    have HN := Lib.hid hk
    clear hk
    have hne : ((n : Int) != (n : Int)) = false := by simp
    go_enter Tryd.func23, Tryd.ntmps23
    go_wp2
    go_loopw [13] (fun u w' => ∃ i d : Nat, i ≤ n ∧ u = .int .i64 i ∧ w' = w.drewN d ∧ ∀ j, j < i → ws[j]? = vs[j]?) (fun u _ => n - (intOf u).toNat)
    case atStart => exact ⟨0, 0, Nat.zero_le _, rfl, rfl, fun j h => by omega⟩
    case round =>
      obtain ⟨i, d, hi, rfl, rfl, hz⟩ := hrel
      have HZ := Lib.hid hz
      clear hz
      by_cases hlt : i < n
      · obtain ⟨b, o, x, rfl, hb, hx, hxl, hc⟩ := H1.out.at_ (k := i) (by rw [HN.out]; exact hlt)
        obtain ⟨b2, o2, x2, rfl, hb2, hx2, hxl2, hc2⟩ := H2.out.at_ (k := i) (by rw [← HV.out]; exact hlt)
        by_cases hxx : x = x2
        · subst hxx
          have HX := Lib.hid (hx.trans hx2.symm)
          clear hx hx2
          have hne2 : ((x : Int) != (x : Int)) = false := by simp
          go_wp2
          go_quiet (fail)
          go_wp2
          go_roundw
          case rel => exact ⟨i + 1, _, by omega, by go_num, by first | rfl | (simp only [World.drewN_drewN]; rfl), fun j hj => by
            by_cases e : j = i
            · rw [e]; exact HX.out
            · exact HZ.out j (by omega)⟩
          case measure => simp [intOf]; omega
        · have hf : t = false := by
            cases t with
            | false => rfl
            | true =>
              have e := HT.out.1 rfl
              rw [e, hx2] at hx
              exact absurd (Option.some.inj hx).symm hxx
          subst hf
          have hne2 : ((x : Int) != (x2 : Int)) = true := by simp; omega
          clear hx hx2 hxx
          go_wp2
          go_quiet (fail)
          go_wp2
          go_ret
          exact ⟨rfl, bdN (bdN (Below.refl _ _) _) _⟩
      · obtain rfl : i = n := by omega
        have hf : t = true := HT.out.2 (List.ext_getElem? fun j => by
          by_cases hj : j < i
          · exact HZ.out j hj
          · rw [List.getElem?_eq_none (by rw [HN.out]; omega), List.getElem?_eq_none (by rw [← HV.out]; omega)])
        subst hf
        go_wp2
        go_ret
        exact ⟨rfl, bdN (Below.refl _ _) _⟩
  · have hf : t = false := by
      cases t with
      | false => rfl
      | true => exact absurd (congrArg List.length (HT.out.1 rfl)) hl
    subst hf
    generalize ws.length = n at *
    generalize vs.length = n2 at *
    have hne : ((n : Int) != (n2 : Int)) = true := by simp; omega
    clear hl
    go_enter Tryd.func23, Tryd.ntmps23
    go_wp2
    go_ret
    exact ⟨rfl, Below.refl _ _⟩
end Go.Proofs.YtmlekhgjnhnjlaaDoor
