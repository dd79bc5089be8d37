/-
  What the readers of chapter 6 return: rmq.higher, the document's topOf, slices.Equal of numbers, slices.EqualFunc of rows: contracts, walked over the translated text. No condition but what each theorem names.
-/
import Derived.Test.YtefgfkicacbmeaaPop
import Derived.Test.YtefgfkicacbmeaaTops
import Derived.Test.YtefgfkicacbmeaaLists
import Derived.Test.YtefgfkicacbmeaaSameI
import Derived.Deep.QuietTactic
import Derived.BigQuiet
import Derived.IntWalk
namespace Go.Proofs.Ytefgfkicacbmeaa
open Go.RowKit Words

/-- The number at a place. -/
def nth (l : List Int) : Nat → Int := fun i => l.getD i 0
theorem nth_get (l : List Int) (k : Nat) (x : Int) (h : l[k]? = some x) : nth l k = x := by unfold nth; rw [List.getD, h]; rfl

/-- The cells of a list that is not empty. -/
theorem Lies.nums {w : World} {B : Nat} {A : Option Addr} {l : List Int} (h : Lies w B A (l.map (.int .i64))) (h0 : 0 < l.length) :
    ∃ b o, A = some ⟨b, o, none⟩ ∧ b < B ∧ ∀ k, k < l.length → w.cell? ⟨b, o + k, none⟩ = some (.int .i64 (nth l k)) := by
  obtain ⟨b, o, e, hb, hc⟩ := h (by intro e; rw [List.map_eq_nil_iff] at e; subst e; simp at h0)
  refine ⟨b, o, e, hb, fun k hk => hc k _ ?_⟩
  rw [List.getElem?_map, List.getElem?_eq_getElem hk, nth_get l k _ (List.getElem?_eq_getElem hk)]
  rfl

/-- Of two places the one with the greater number; the first if they are equal. -/
def hiOf (l : List Int) (i j : Nat) : Nat := if nth l i < nth l j then j else i

set_option maxHeartbeats 400000 in
/-- rmq.higher. -/
theorem higher_any (A : Option Addr) (l : List Int) (c i j : Nat) (w : World) (hn : l.length ≤ 300) (hi : i < l.length) (hj : j < l.length) (hL : Lies w w.heap.size A (l.map (.int .i64))) :
    Calls Try.prog 58 #[.slice A l.length c, .int .i64 i, .int .i64 j] w fun e w' => e = .returned (.int .i64 (hiOf l i j : Nat)) ∧ ∃ d, w' = w.drewN d := by
  obtain ⟨b, o, rfl, hb, hc⟩ := hL.nums (by omega)
  have hci := hc i hi
  have hcj := hc j hj
  clear hc hL
  unfold hiOf
  generalize nth l i = x at *
  generalize nth l j = y at *
  generalize l.length = n at *
  by_cases hxy : x < y
  · rw [if_pos hxy]
    go_enter Try.func58, Try.ntmps58
    go_wp2
    go_quiet (fail)
    go_wp2
    go_ret
    exact ⟨rfl, _, rfl⟩
  · rw [if_neg hxy]
    go_enter Try.func58, Try.ntmps58
    go_wp2
    go_quiet (fail)
    go_wp2
    go_ret
    exact ⟨rfl, _, rfl⟩

theorem topN_step (f : Nat → Int) (a j : Nat) : (if f (topN f a (j - 1)) < f (a + j) then a + j else topN f a (j - 1)) = topN f a j := by
  cases j with
  | zero => simp [topN]
  | succ j => rw [Nat.add_sub_cancel]; rfl


set_option maxHeartbeats 1000000 in
/-- slices.Equal: are these the same numbers? -/
theorem eqInts_any (A A2 : Option Addr) (l k : List Int) (c c2 : Nat) (w : World) (t : Bool) (hn : l.length ≤ 17592186044416) (h1 : Lies w w.heap.size A (l.map (.int .i64))) (h2 : Lies w w.heap.size A2 (k.map (.int .i64))) (ht : t = true ↔ l = k) :
    Calls Try.prog 80 #[.slice A l.length c, .slice A2 k.length c2] w fun e w' => e = .returned (.bool t) ∧ ∃ d, w' = w.drewN d := by
  have H1 := Lib.hid h1
  have H2 := Lib.hid h2
  have HT := Lib.hid ht
  clear h1 h2 ht
  by_cases hl : l.length = k.length
  · rw [← hl]
    have HV := Lib.hid hl
    clear hl
    generalize hk : l.length = n at *
    have HN := Lib.hid hk
    clear hk
    have hne : ((n : Int) != (n : Int)) = false := by simp
    go_enter Try.func80, Try.ntmps80
    go_wp2
    go_loopw [13] (fun u w' => ∃ i d : Nat, i ≤ n ∧ u = .int .i64 i ∧ w' = w.drewN d ∧ ∀ j, j < i → l[j]? = k[j]?) (fun u _ => n - (intOf u).toNat)
    case atStart => exact ⟨0, 0, Nat.zero_le _, rfl, rfl, fun j h => by omega⟩
    case round =>
      obtain ⟨i, d, hi, rfl, rfl, hz⟩ := hrel
      have HZ := Lib.hid hz
      clear hz
      by_cases hlt : i < n
      · obtain ⟨b, o, x, rfl, hb, hx, hc⟩ := H1.out.at_ (k := i) (by rw [HN.out]; exact hlt)
        obtain ⟨b2, o2, x2, rfl, hb2, hx2, hc2⟩ := H2.out.at_ (k := i) (by rw [← HV.out]; exact hlt)
        by_cases hxx : x = x2
        · subst hxx
          have HX := Lib.hid (hx.trans hx2.symm)
          clear hx hx2
          have hne2 : (x != x) = false := by simp
          go_wp2
          go_quiet (fail)
          go_wp2
          go_roundw
          case rel => exact ⟨i + 1, _, by omega, by go_num, by first | rfl | (simp only [World.drewN_drewN]; rfl), fun j hj => by
            by_cases e : j = i
            · rw [e]; exact HX.out
            · exact HZ.out j (by omega)⟩
          case measure => simp [intOf]; omega
        · have hf : t = false := by
            cases t with
            | false => rfl
            | true =>
              have e := HT.out.1 rfl
              rw [e, hx2] at hx
              exact absurd (Option.some.inj hx).symm hxx
          subst hf
          have hne2 : (x != x2) = true := by simpa using hxx
          clear hx hx2 hxx
          go_wp2
          go_quiet (fail)
          go_wp2
          go_ret
          exact ⟨rfl, _, by first | rfl | (simp only [World.drewN_drewN]; rfl)⟩
      · obtain rfl : i = n := by omega
        have hf : t = true := HT.out.2 (List.ext_getElem? fun j => by
          by_cases hj : j < i
          · exact HZ.out j hj
          · rw [List.getElem?_eq_none (by rw [HN.out]; omega), List.getElem?_eq_none (by rw [← HV.out]; omega)])
        subst hf
        go_wp2
        go_ret
        exact ⟨rfl, _, rfl⟩
  · have hf : t = false := by
      cases t with
      | false => rfl
      | true => exact absurd (congrArg List.length (HT.out.1 rfl)) hl
    subst hf
    have hne : ((l.length : Int) != (k.length : Int)) = true := by simp; omega
    generalize l.length = n1 at *
    generalize k.length = n2 at *
    clear hl
    go_enter Try.func80, Try.ntmps80
    go_wp2
    go_ret
    exact ⟨rfl, 0, rfl⟩

/-- The rows' numbers. -/
def tabOf (rs : List Row) : List (List Int) := rs.map Row.nums
theorem tabOf_length (rs : List Row) : (tabOf rs).length = rs.length := by simp [tabOf]
theorem tabOf_get (rs : List Row) (k : Nat) (r : Row) (h : rs[k]? = some r) : (tabOf rs)[k]? = some r.nums := by unfold tabOf; rw [List.getElem?_map, h]; rfl

set_option maxHeartbeats 1000000 in
/-- slices.EqualFunc with slices.Equal: are these the same rows? -/
theorem eqRows_any (A A2 : Option Addr) (rs qs : List Row) (c c2 : Nat) (w : World) (t : Bool) (hn : rs.length ≤ 17592186044416) (hf : ∀ r ∈ rs, r.nums.length ≤ 17592186044416) (h1 : Grid w w.heap.size A rs) (h2 : Grid w w.heap.size A2 qs) (ht : t = true ↔ tabOf rs = tabOf qs) :
    Calls Try.prog 79 #[.slice A rs.length c, .slice A2 qs.length c2, .func (.func 80) #[] #[]] w fun e w' => e = .returned (.bool t) ∧ ∃ d, w' = w.drewN d := by
  have H1 := Lib.hid h1
  have H2 := Lib.hid h2
  have HT := Lib.hid ht
  have HF := Lib.hid hf
  clear h1 h2 ht hf
  by_cases hl : rs.length = qs.length
  · rw [← hl]
    have HV := Lib.hid hl
    clear hl
    generalize hk : rs.length = n at *
    have HN := Lib.hid hk
    clear hk
    have hne : ((n : Int) != (n : Int)) = false := by simp
    go_enter Try.func79, Try.ntmps79
    go_wp2_with fail
    go_loopw [17] (fun u w' => ∃ i d : Nat, i ≤ n ∧ u = .int .i64 i ∧ w' = w.drewN d ∧ ∀ j, j < i → (tabOf rs)[j]? = (tabOf qs)[j]?) (fun u _ => n - (intOf u).toNat)
    case atStart => exact ⟨0, 0, Nat.zero_le _, rfl, rfl, fun j h => by omega⟩
    case round =>
      obtain ⟨i, d, hi, rfl, rfl, hz⟩ := hrel
      have HZ := Lib.hid hz
      clear hz
      by_cases hlt : i < n
      · obtain ⟨b, o, x, rfl, hb, hx, hc, hL⟩ := H1.out.at_ (k := i) (by rw [HN.out]; exact hlt)
        obtain ⟨b2, o2, x2, rfl, hb2, hx2, hc2, hL2⟩ := H2.out.at_ (k := i) (by rw [← HV.out]; exact hlt)
        have HG := Lib.hid (tabOf_get rs i x hx)
        have HG2 := Lib.hid (tabOf_get qs i x2 hx2)
        have HE := Lib.hid (fun d t ht => eqInts_any x.adr x2.adr x.nums x2.nums x.cap x2.cap (w.drewN d) t (HF.out x (List.mem_of_getElem? hx)) (hL.drewN d) (hL2.drewN d) ht)
        clear hx hx2 hL hL2
        by_cases hxx : x.nums = x2.nums
        · have HX := Lib.hid (show (tabOf rs)[i]? = (tabOf qs)[i]? by rw [HG.out, HG2.out, hxx])
          have HE2 := Lib.hid (HE.out d true (by simp [hxx]))
          clear hxx HE
          generalize x.nums.length = n1 at *
          generalize x2.nums.length = n2 at *
          go_wp2_with (go_at_call 80; refine HE2.out.mono ?_; rintro e w2 ⟨rfl, d2, rfl⟩)
          go_roundw
          case rel => exact ⟨i + 1, _, by omega, by go_num, by first | rfl | (simp only [World.drewN_drewN]; rfl), fun j hj => by
            by_cases e : j = i
            · rw [e]; exact HX.out
            · exact HZ.out j (by omega)⟩
          case measure => simp [intOf]; omega
        · have hf : t = false := by
            cases t with
            | false => rfl
            | true =>
              have e := HT.out.1 rfl
              have e2 := HG.out
              rw [e, HG2.out] at e2
              exact absurd (Option.some.inj e2).symm hxx
          subst hf
          have HE2 := Lib.hid (HE.out d false (by simp [hxx]))
          clear hxx HE
          generalize x.nums.length = n1 at *
          generalize x2.nums.length = n2 at *
          go_wp2_with (go_at_call 80; refine HE2.out.mono ?_; rintro e w2 ⟨rfl, d2, rfl⟩)
          go_ret
          exact ⟨rfl, _, by first | rfl | (simp only [World.drewN_drewN]; rfl)⟩
      · obtain rfl : i = n := by omega
        have hf : t = true := HT.out.2 (List.ext_getElem? fun j => by
          by_cases hj : j < i
          · exact HZ.out j hj
          · rw [List.getElem?_eq_none (by rw [tabOf_length, HN.out]; omega), List.getElem?_eq_none (by rw [tabOf_length, ← HV.out]; omega)])
        subst hf
        go_wp2_with fail
        go_ret
        exact ⟨rfl, _, rfl⟩
  · have hf : t = false := by
      cases t with
      | false => rfl
      | true => exact absurd (by have := congrArg List.length (HT.out.1 rfl); rwa [tabOf_length, tabOf_length] at this) hl
    subst hf
    have hne : ((rs.length : Int) != (qs.length : Int)) = true := by simp; omega
    generalize rs.length = n1 at *
    generalize qs.length = n2 at *
    clear hl
    go_enter Try.func79, Try.ntmps79
    go_wp2_with fail
    go_ret
    exact ⟨rfl, 0, rfl⟩
end Go.Proofs.Ytefgfkicacbmeaa
