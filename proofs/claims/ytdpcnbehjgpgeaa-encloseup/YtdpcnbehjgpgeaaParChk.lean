/-
  What the document's ParenFault, partner, ParenMatch and ParenEnclose return: contracts, walked over the translated text. No condition but what each theorem names.
-/
import Derived.Test.YtdpcnbehjgpgeaaPop
import Derived.Test.YtdpcnbehjgpgeaaMem
import Derived.Test.YtdpcnbehjgpgeaaParens
import Derived.Laws.Concat
import Derived.Deep.QuietTactic
import Derived.BigQuiet
import Derived.IntWalk
namespace Go.Proofs.Ytdpcnbehjgpgeaa
open Go.RowKit Words

/-- Parentheses as a text. -/
def pb (b : Bool) : UInt8 := if b then 40 else 41
def pbN (b : Bool) : Nat := if b then 40 else 41
theorem pb_nat (b : Bool) : (pb b).toNat = pbN b := by cases b <;> rfl
def txtP (l : List Bool) : ByteArray := ⟨(l.map pb).toArray⟩
theorem txtP_size (l : List Bool) : (txtP l).size = l.length := by
  show (l.map pb).toArray.size = _
  rw [List.size_toArray, List.length_map]
theorem txtP_append (a b : List Bool) : txtP a ++ txtP b = txtP (a ++ b) := by
  unfold txtP
  rw [ByteArray.mk_append_mk, List.map_append]
theorem txtP_at {l : List Bool} {i : Nat} {b : Bool} (hb : l[i]? = some b) (h : i < (txtP l).size) : ((txtP l)[i]'h).toNat = pbN b := by
  have hl := get_lt hb
  rw [List.getElem?_eq_getElem hl] at hb
  have hb := Option.some.inj hb
  rw [← pb_nat, ← hb]
  show (((l.map pb).toArray)[i]'(by rw [List.size_toArray, List.length_map]; exact hl)).toNat = _
  rw [List.getElem_toArray, List.getElem_map]

/-- A text's bytes as parentheses: what is no '(' counts as ')'. -/
def toL (bs : ByteArray) : List Bool := bs.data.toList.map fun b => b.toNat == 40
theorem toL_length (bs : ByteArray) : (toL bs).length = bs.size := by
  unfold toL
  rw [List.length_map, Array.length_toList]
  rfl
theorem toL_get (bs : ByteArray) {i : Nat} (h : i < bs.size) : (toL bs)[i]? = some ((bs[i]'h).toNat == 40) := by
  unfold toL
  have h' : i < bs.data.size := h
  rw [List.getElem?_map, Array.getElem?_toList, Array.getElem?_eq_getElem h']
  rfl
theorem toL_txtP (l : List Bool) : toL (txtP l) = l := by
  apply List.ext_getElem?
  intro i
  by_cases hi : i < l.length
  · have hs : i < (txtP l).size := by rw [txtP_size]; exact hi
    rw [toL_get _ hs, txtP_at (List.getElem?_eq_getElem hi) hs, List.getElem?_eq_getElem hi]
    cases l[i] <;> rfl
  · rw [List.getElem?_eq_none (by rw [toL_length, txtP_size]; omega), List.getElem?_eq_none (by omega)]
theorem txtP_inj {a b : List Bool} (h : txtP a = txtP b) : a = b := by
  have := congrArg toL h
  rwa [toL_txtP, toL_txtP] at this
theorem txtP_toL {bs : ByteArray} (h : ∀ i (hi : i < bs.size), (bs[i]'hi).toNat = 40 ∨ (bs[i]'hi).toNat = 41) : txtP (toL bs) = bs := by
  apply ByteArray.ext
  apply Array.ext
  · show (txtP (toL bs)).size = bs.size
    rw [txtP_size, toL_length]
  · intro i h1 h2
    have h2' : i < bs.size := h2
    have ht := txtP_at (toL_get bs h2') (by rw [txtP_size, toL_length]; exact h2')
    apply UInt8.toNat_inj.1
    show ((txtP (toL bs))[i]'_).toNat = (bs[i]'h2').toNat
    rw [ht]
    rcases h i h2' with e | e <;> rw [e] <;> rfl

/-- A balanced text. -/
def Good7 (bs : ByteArray) : Prop := ∃ l, bs = txtP l ∧ Bal l
theorem good7_iff (bs : ByteArray) : Good7 bs ↔ (∀ i (hi : i < bs.size), (bs[i]'hi).toNat = 40 ∨ (bs[i]'hi).toNat = 41) ∧ Bal (toL bs) := by
  constructor
  · rintro ⟨l, rfl, hb⟩
    refine ⟨fun i hi => ?_, by rw [toL_txtP]; exact hb⟩
    have hl : i < l.length := by rw [← txtP_size]; exact hi
    rw [txtP_at (List.getElem?_eq_getElem hl) hi]
    cases l[i] <;> simp [pbN]
  · rintro ⟨h1, h2⟩
    exact ⟨toL bs, (txtP_toL h1).symm, h2⟩

theorem rfault_size (bs : ByteArray) (w : World) (hn : 400 < bs.size) :
    Calls Try.prog 12 #[.string bs] w fun e w' => e = .returned (.int .i64 1) ∧ w = w' := by
  go_enter Try.func12, Try.ntmps12
  go_wp2_with fail
  go_ret
  exact ⟨rfl, rfl⟩

set_option maxHeartbeats 1000000 in
/-- The document's ParenFault. -/
theorem rfault_any (bs : ByteArray) (r : Int) (w : World) (hn : bs.size ≤ 400) (hg : Good7 bs → r = 0) (hb : ¬ Good7 bs → r = 4) :
    Calls Try.prog 12 #[.string bs] w fun e w' => e = .returned (.int .i64 r) ∧ w = w' := by
  have HG := Lib.hid hg
  have HB := Lib.hid hb
  have HI := Lib.hid (good7_iff bs)
  have HLen := Lib.hid (toL_length bs)
  clear hg hb
  go_enter Try.func12, Try.ntmps12
  go_wp2_with fail
  go_loop [3, 4] (fun a b => ∃ i : Nat, i ≤ bs.size ∧ a = .int .i64 (dp (toL bs) i) ∧ b = .int .i64 i ∧ (∀ j (hj : j < bs.size), j < i → (bs[j]'hj).toNat = 40 ∨ (bs[j]'hj).toNat = 41) ∧ ∀ j, j ≤ i → 0 ≤ dp (toL bs) j) (fun _ b => bs.size - (intOf b).toNat)
  case atStart => exact ⟨0, Nat.zero_le _, rfl, rfl, (fun j hj h => by omega), fun j hj => by obtain rfl : j = 0 := (by omega); exact Int.le_refl _⟩
  case round =>
    obtain ⟨i, hi, rfl, rfl, hP, hN⟩ := hrel
    have HP := Lib.hid hP
    have HN := Lib.hid hN
    have hd0 := hN i (Nat.le_refl _)
    have hd1 := dp_le (toL bs) i
    clear hP hN
    by_cases hlt : i < bs.size
    · have hget := toL_get bs hlt
      have HSt := Lib.hid (dp_succ hget)
      clear hget
      generalize hy : (bs[i]'hlt).toNat = y at *
      have HY := Lib.hid hy
      by_cases h40 : y = 40
      · subst h40
        rw [show stp ((40 : Nat) == 40) = 1 from rfl] at HSt
        generalize hdd : dp (toL bs) i = d at *
        have HD := Lib.hid hdd
        clear hdd
        have hns : ¬ (d + 1 < 0) := by omega
        go_wp2_with fail
        go_round
        case rel => exact ⟨i + 1, by omega, by rw [HSt.out], by go_num, (fun j hj h => by
          by_cases e : j = i
          · subst e; exact .inl HY.out
          · exact HP.out j hj (by omega)), fun j hj => by
          by_cases e : j = i + 1
          · rw [e, HSt.out]; omega
          · exact HN.out j (by omega)⟩
        case measure => simp [intOf]; omega
      · by_cases h41 : y = 41
        · subst h41
          rw [show stp ((41 : Nat) == 40) = -1 from rfl] at HSt
          generalize hdd : dp (toL bs) i = d at *
          have HD := Lib.hid hdd
          clear hdd
          by_cases hneg : d - 1 < 0
          · have HR := Lib.hid (HB.out fun hgo => by
              have h1 := (HI.out.1 hgo).2.nn (i + 1) (by rw [HLen.out]; omega)
              rw [HSt.out] at h1
              omega)
            go_wp2_with fail
            go_ret
            exact ⟨by rw [HR.out]; rfl, rfl⟩
          · go_wp2_with fail
            go_round
            case rel => exact ⟨i + 1, by omega, by rw [HSt.out]; rfl, by go_num, (fun j hj h => by
              by_cases e : j = i
              · subst e; exact .inr HY.out
              · exact HP.out j hj (by omega)), fun j hj => by
              by_cases e : j = i + 1
              · rw [e, HSt.out]; omega
              · exact HN.out j (by omega)⟩
            case measure => simp [intOf]; omega
        · have HR := Lib.hid (HB.out fun hgo => by
            rcases (HI.out.1 hgo).1 i hlt with e | e
            · rw [HY.out] at e; exact h40 e
            · rw [HY.out] at e; exact h41 e)
          have e1 : ((y : Int) == 40) = false := by rw [beq_eq_false_iff_ne]; omega
          have e2 : ((y : Int) == 41) = false := by rw [beq_eq_false_iff_ne]; omega
          generalize dp (toL bs) i = d at *
          go_wp2_with fail
          go_ret
          exact ⟨by rw [HR.out]; rfl, rfl⟩
    · obtain rfl : i = bs.size := by omega
      by_cases hz : dp (toL bs) bs.size = 0
      · have HR := Lib.hid (HG.out (HI.out.2 ⟨fun j hj => HP.out j hj hj, fun j hj => HN.out j (by rw [HLen.out] at hj; exact hj), by rw [HLen.out]; exact hz⟩))
        rw [hz]
        go_wp2_with fail
        go_ret
        exact ⟨by rw [HR.out]; rfl, rfl⟩
      · have HR := Lib.hid (HB.out fun hgo => hz (by have := (HI.out.1 hgo).2.zero; rwa [HLen.out] at this))
        have hz2 : (dp (toL bs) bs.size != 0) = true := by simpa using hz
        generalize dp (toL bs) bs.size = d at *
        go_wp2_with fail
        go_ret
        exact ⟨by rw [HR.out]; rfl, rfl⟩
end Go.Proofs.Ytdpcnbehjgpgeaa
