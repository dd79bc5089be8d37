/-
  What the small functions of package fen, and the document's, return: contracts, walked over the translated text. No condition but what each theorem names.
-/
import Derived.Test.YtegcpfopdaoebaaFens
import Derived.Test.YtegcpfopdaoebaaPop
import Derived.Test.YtegcpfopdaoebaaMem
import Derived.Deep.QuietTactic
import Derived.BigQuiet
import Derived.IntWalk
namespace Go.Proofs.Ytegcpfopdaoebaa
open Go.RowKit Words

theorem Words.bits_or_i64_nat (a b : Nat) (ha : a < 4611686018427387904) (hb : b < 4611686018427387904) : bits .or .i64 (a : Int) (b : Int) = ((a ||| b : Nat) : Int) := by
  have hx : a ||| b < 2 ^ 62 := Nat.or_lt_two_pow ha hb
  have h1 : (BitVec.ofInt 64 (a : Int)).toNat = a := by
    rw [BitVec.ofInt_natCast, BitVec.toNat_ofNat]; exact Nat.mod_eq_of_lt (by omega)
  have h2 : (BitVec.ofInt 64 (b : Int)).toNat = b := by
    rw [BitVec.ofInt_natCast, BitVec.toNat_ofNat]; exact Nat.mod_eq_of_lt (by omega)
  show IntKind.i64.wrap ((BitVec.ofInt 64 (a : Int) ||| BitVec.ofInt 64 (b : Int)).toNat : Int) = _
  rw [BitVec.toNat_or, h1, h2, IntKind.wrap_i64]
  generalize a ||| b = c at *
  have : c < 4611686018427387904 := hx
  omega

/-- fen.around. -/
theorem around_any (i : Nat) (w : World) (hi : i ≤ 1000000) :
    Calls Try.prog 26 #[.int .i64 i] w fun e w' => e = .returned (.int .i64 (aro i : Nat)) ∧ w = w' := by
  have h : bits BinOp.or IntKind.i64 (i : Int) ((i : Int) + 1) = ((aro i : Nat) : Int) := by
    rw [show (i : Int) + 1 = ((i + 1 : Nat) : Int) by omega, Words.bits_or_i64_nat _ _ (by omega) (by omega), or_aro]
  generalize aro i = r at *
  go_enter Try.func26, Try.ntmps26
  go_wp2_with fail
  go_ret
  exact ⟨rfl, rfl⟩

/-- fen.start. -/
theorem start_any (i : Nat) (w : World) (hi : i ≤ 1000000) :
    Calls Try.prog 31 #[.int .i64 i] w fun e w' => e = .returned (.int .i64 (frm i : Nat)) ∧ w = w' := by
  have h : bits BinOp.and IntKind.i64 ((i : Int) + 1) (i : Int) = ((frm i : Nat) : Int) := by
    rw [show (i : Int) + 1 = ((i + 1 : Nat) : Int) by omega, Words.bits_and_i64_nat _ _ (by omega) (by omega), and_frm]
  generalize frm i = r at *
  go_enter Try.func31, Try.ntmps31
  go_wp2_with fail
  go_ret
  exact ⟨rfl, rfl⟩

/-- A number within a limit. -/
def In (L x : Int) : Prop := -L ≤ x ∧ x ≤ L
instance (L x : Int) : Decidable (In L x) := inferInstanceAs (Decidable (_ ∧ _))
/-- All numbers of a list are. -/
def Win (L : Int) (l : List Int) : Prop := ∀ x ∈ l, In L x
instance (L : Int) (l : List Int) : Decidable (Win L l) := inferInstanceAs (Decidable (∀ x ∈ l, In L x))
/-- A valid tree. -/
def Valid (l : List Int) : Prop := l.length ≤ 300 ∧ Win 1099511627776 l
instance (l : List Int) : Decidable (Valid l) := inferInstanceAs (Decidable (_ ∧ _))

theorem Win.at0 {L : Int} {l : List Int} (h : Win L l) (c : Nat) (hc : c < l.length) : -L ≤ at0 l c ∧ at0 l c ≤ L := h _ (List.mem_of_getElem? (at0_some l c hc))
theorem win_of {L : Int} {l : List Int} (h : ∀ c, c < l.length → -L ≤ at0 l c ∧ at0 l c ≤ L) : Win L l := fun x hx => by
  obtain ⟨i, hi, rfl⟩ := List.getElem_of_mem hx
  have := h i hi
  rwa [at0_get l i _ (List.getElem?_eq_getElem hi)] at this

/-- fen.within. -/
theorem within_any (x L : Int) (w : World) (h0 : 0 ≤ L) (h1 : L ≤ 4611686018427387904) :
    Calls Try.prog 29 #[.int .i64 x, .int .i64 L] w fun e w' => e = .returned (.bool (decide (In L x))) ∧ w = w' := by
  have hd : decide (In L x) = (decide (-L ≤ x) && decide (x ≤ L)) := Bool.eq_iff_iff.2 (by simp only [decide_eq_true_eq, Bool.and_eq_true]; exact Iff.rfl)
  rw [hd]
  by_cases a : -L ≤ x
  · have e1 : decide (-L ≤ x) = true := by simpa using a
    by_cases b : x ≤ L
    · have e2 : decide (x ≤ L) = true := by simpa using b
      rw [e1, e2]
      go_enter Try.func29, Try.ntmps29
      go_wp2_with fail
      go_ret
      exact ⟨rfl, rfl⟩
    · have e2 : decide (x ≤ L) = false := by simpa using b
      rw [e1, e2]
      go_enter Try.func29, Try.ntmps29
      go_wp2_with fail
      go_ret
      exact ⟨rfl, rfl⟩
  · have e1 : decide (-L ≤ x) = false := by simpa using a
    rw [e1]
    go_enter Try.func29, Try.ntmps29
    go_wp2_with fail
    go_ret
    exact ⟨rfl, rfl⟩

/-- fen.allWithin's closure. -/
theorem cl_within (x L : Int) (g : Nat) (w : World) (h0 : 0 ≤ L) (h1 : L ≤ 4611686018427387904) (hc : w.cell? ⟨g, 0, none⟩ = some (.int .i64 L)) :
    Calls Try.prog 36 #[.int .i64 x, .pointer (some ⟨g, 0, none⟩)] w fun e w' => e = .returned (.bool (!decide (In L x))) ∧ ∃ d, w' = w.drewN d := by
  have H := Lib.hid (within_any x L · h0 h1)
  generalize decide (In L x) = r at *
  go_enter Try.func36, Try.ntmps36
  go_wp2_with (go_at_call 29; refine (H.out _).mono ?_; rintro e w' ⟨rfl, rfl⟩)
  go_ret
  exact ⟨rfl, 0, rfl⟩

/-- The first of a list at which p holds. -/
theorem first_of (p : Int → Bool) (l : List Int) : ∃ i, i ≤ l.length ∧ (∀ k x, k < i → l[k]? = some x → p x = false) ∧ (∀ x, l[i]? = some x → p x = true) ∧ l.any p = decide (i < l.length) := by
  induction l with
  | nil => exact ⟨0, Nat.le_refl _, (fun k x h _ => by omega), (fun x h => by cases h), rfl⟩
  | cons a l ih =>
    by_cases h : p a = true
    · refine ⟨0, Nat.zero_le _, (fun k x h _ => by omega), (fun x hx => ?_), by simp [h]⟩
      obtain rfl : a = x := by simpa using hx
      exact h
    · obtain ⟨i, h1, h2, h3, h4⟩ := ih
      refine ⟨i + 1, by simp; omega, fun k x hk hx => ?_, (fun x hx => h3 x (by simpa using hx)), ?_⟩
      · cases k with
        | zero =>
          obtain rfl : a = x := by simpa using hx
          simpa using h
        | succ k => exact h2 k x (by omega) (by simpa using hx)
      · rw [List.any_cons, h4]
        simp [h]

set_option maxHeartbeats 1000000 in
/-- slices.IndexFunc with that closure: the first index at which it holds, or -1. -/
theorem index_in (A : Option Addr) (l : List Int) (c i : Nat) (g : Nat) (p : Int → Bool) (w : World) (hn : l.length ≤ 17592186044416) (hin : i ≤ l.length) (hlo : ∀ k x, k < i → l[k]? = some x → p x = false) (hhi : ∀ x, l[i]? = some x → p x = true) (hL : Lies w w.heap.size A (l.map (.int .i64)))
    (hf : ∀ x d, x ∈ l → Calls Try.prog 36 #[.int .i64 x, .pointer (some ⟨g, 0, none⟩)] (w.drewN d) fun e w' => e = .returned (.bool (p x)) ∧ ∃ m, w' = (w.drewN d).drewN m) :
    Calls Try.prog 38 #[.slice A l.length c, .func (.func 36) #[] #[.pointer (some ⟨g, 0, none⟩)]] w fun e w' => e = .returned (.int .i64 (if i < l.length then (i : Int) else -1)) ∧ ∃ d, w' = w.drewN d := by
  have HF := Lib.hid hf
  have HLo := Lib.hid hlo
  have HHi := Lib.hid hhi
  have HL := Lib.hid hL
  clear hf hlo hhi hL
  generalize hk : l.length = n at *
  have HN := Lib.hid hk
  clear hk
  obtain ⟨r, hr⟩ : ∃ r : Int, r = if i < n then (i : Int) else -1 := ⟨_, rfl⟩
  rw [← hr]
  have HR := Lib.hid hr
  clear hr
  go_enter Try.func38, Try.ntmps38
  go_wp2_with fail
  go_loopw [8] (fun a w' => ∃ k d : Nat, k ≤ i ∧ a = .int .i64 k ∧ w' = w.drewN d) (fun a _ => n - (intOf a).toNat)
  case atStart => exact ⟨0, 0, Nat.zero_le _, rfl, rfl⟩
  case round =>
    obtain ⟨k, d, hki, rfl, rfl⟩ := hrel
    by_cases hlt : k < n
    · obtain ⟨b, o, x, rfl, hb, hx, hc⟩ := HL.out.at_ (k := k) (by rw [HN.out]; exact hlt)
      have HC := Lib.hid (fun d => HF.out x d (List.mem_of_getElem? hx))
      by_cases hlt2 : k < i
      · rw [HLo.out k x hlt2 hx] at HC
        clear hx
        go_wp2_with fail
        refine (HC.out _).mono ?_
        rintro e w1 ⟨rfl, m, rfl⟩
        go_wp2_with fail
        go_roundw
        case rel => exact ⟨k + 1, _, by omega, by go_num, by first | rfl | (simp only [World.drewN_drewN]; rfl)⟩
        case measure => simp [intOf]; omega
      · obtain rfl : k = i := by omega
        have hre : r = (k : Int) := by rw [HR.out, if_pos hlt]
        subst hre
        clear HR
        rw [HHi.out x hx] at HC
        clear hx
        go_wp2_with fail
        refine (HC.out _).mono ?_
        rintro e w1 ⟨rfl, m, rfl⟩
        go_wp2_with fail
        go_ret
        exact ⟨rfl, _, by first | rfl | (simp only [World.drewN_drewN]; rfl)⟩
    · have hre : r = -1 := by rw [HR.out, if_neg (by omega)]
      subst hre
      go_wp2_with fail
      go_ret
      exact ⟨rfl, _, rfl⟩

/-- slices.ContainsFunc with that closure. -/
theorem contains_in (A : Option Addr) (l : List Int) (c : Nat) (g : Nat) (p : Int → Bool) (w : World) (hn : l.length ≤ 17592186044416) (hL : Lies w w.heap.size A (l.map (.int .i64)))
    (hf : ∀ x d, x ∈ l → Calls Try.prog 36 #[.int .i64 x, .pointer (some ⟨g, 0, none⟩)] (w.drewN d) fun e w' => e = .returned (.bool (p x)) ∧ ∃ m, w' = (w.drewN d).drewN m) :
    Calls Try.prog 34 #[.slice A l.length c, .func (.func 36) #[] #[.pointer (some ⟨g, 0, none⟩)]] w fun e w' => e = .returned (.bool (l.any p)) ∧ ∃ d, w' = w.drewN d := by
  obtain ⟨i, hi, hlo, hhi, hany⟩ := first_of p l
  have H := Lib.hid (fun W hL hf => index_in A l c i g p W hn hi hlo hhi hL hf)
  rw [hany]
  have H2 := Lib.hid (H.out w hL hf)
  clear H hf hL hany hlo hhi
  generalize l.length = n at *
  by_cases h : i < n
  · rw [if_pos h] at H2
    have hd : decide (i < n) = true := by simpa using h
    rw [hd]
    go_enter Try.func34, Try.ntmps34
    go_wp2_with fail
    refine H2.out.mono ?_
    rintro e w1 ⟨rfl, d, rfl⟩
    go_wp2_with fail
    go_ret
    exact ⟨rfl, _, rfl⟩
  · rw [if_neg h] at H2
    have hd : decide (i < n) = false := by simpa using h
    rw [hd]
    go_enter Try.func34, Try.ntmps34
    go_wp2_with fail
    refine H2.out.mono ?_
    rintro e w1 ⟨rfl, d, rfl⟩
    go_wp2_with fail
    go_ret
    exact ⟨rfl, _, rfl⟩

set_option maxHeartbeats 1000000 in
/-- slices.IndexFunc with that closure: the first index at which it holds, or -1. -/
theorem index_neg (A : Option Addr) (l : List Int) (c i : Nat) (p : Int → Bool) (w : World) (hn : l.length ≤ 17592186044416) (hin : i ≤ l.length) (hlo : ∀ k x, k < i → l[k]? = some x → p x = false) (hhi : ∀ x, l[i]? = some x → p x = true) (hL : Lies w w.heap.size A (l.map (.int .i64)))
    (hf : ∀ x d, x ∈ l → Calls Try.prog 35 #[.int .i64 x] (w.drewN d) fun e w' => e = .returned (.bool (p x)) ∧ ∃ m, w' = (w.drewN d).drewN m) :
    Calls Try.prog 38 #[.slice A l.length c, .func (.func 35) #[] #[]] w fun e w' => e = .returned (.int .i64 (if i < l.length then (i : Int) else -1)) ∧ ∃ d, w' = w.drewN d := by
  have HF := Lib.hid hf
  have HLo := Lib.hid hlo
  have HHi := Lib.hid hhi
  have HL := Lib.hid hL
  clear hf hlo hhi hL
  generalize hk : l.length = n at *
  have HN := Lib.hid hk
  clear hk
  obtain ⟨r, hr⟩ : ∃ r : Int, r = if i < n then (i : Int) else -1 := ⟨_, rfl⟩
  rw [← hr]
  have HR := Lib.hid hr
  clear hr
  go_enter Try.func38, Try.ntmps38
  go_wp2_with fail
  go_loopw [8] (fun a w' => ∃ k d : Nat, k ≤ i ∧ a = .int .i64 k ∧ w' = w.drewN d) (fun a _ => n - (intOf a).toNat)
  case atStart => exact ⟨0, 0, Nat.zero_le _, rfl, rfl⟩
  case round =>
    obtain ⟨k, d, hki, rfl, rfl⟩ := hrel
    by_cases hlt : k < n
    · obtain ⟨b, o, x, rfl, hb, hx, hc⟩ := HL.out.at_ (k := k) (by rw [HN.out]; exact hlt)
      have HC := Lib.hid (fun d => HF.out x d (List.mem_of_getElem? hx))
      by_cases hlt2 : k < i
      · rw [HLo.out k x hlt2 hx] at HC
        clear hx
        go_wp2_with fail
        refine (HC.out _).mono ?_
        rintro e w1 ⟨rfl, m, rfl⟩
        go_wp2_with fail
        go_roundw
        case rel => exact ⟨k + 1, _, by omega, by go_num, by first | rfl | (simp only [World.drewN_drewN]; rfl)⟩
        case measure => simp [intOf]; omega
      · obtain rfl : k = i := by omega
        have hre : r = (k : Int) := by rw [HR.out, if_pos hlt]
        subst hre
        clear HR
        rw [HHi.out x hx] at HC
        clear hx
        go_wp2_with fail
        refine (HC.out _).mono ?_
        rintro e w1 ⟨rfl, m, rfl⟩
        go_wp2_with fail
        go_ret
        exact ⟨rfl, _, by first | rfl | (simp only [World.drewN_drewN]; rfl)⟩
    · have hre : r = -1 := by rw [HR.out, if_neg (by omega)]
      subst hre
      go_wp2_with fail
      go_ret
      exact ⟨rfl, _, rfl⟩

/-- slices.ContainsFunc with that closure. -/
theorem contains_neg (A : Option Addr) (l : List Int) (c : Nat) (p : Int → Bool) (w : World) (hn : l.length ≤ 17592186044416) (hL : Lies w w.heap.size A (l.map (.int .i64)))
    (hf : ∀ x d, x ∈ l → Calls Try.prog 35 #[.int .i64 x] (w.drewN d) fun e w' => e = .returned (.bool (p x)) ∧ ∃ m, w' = (w.drewN d).drewN m) :
    Calls Try.prog 34 #[.slice A l.length c, .func (.func 35) #[] #[]] w fun e w' => e = .returned (.bool (l.any p)) ∧ ∃ d, w' = w.drewN d := by
  obtain ⟨i, hi, hlo, hhi, hany⟩ := first_of p l
  have H := Lib.hid (fun W hL hf => index_neg A l c i p W hn hi hlo hhi hL hf)
  rw [hany]
  have H2 := Lib.hid (H.out w hL hf)
  clear H hf hL hany hlo hhi
  generalize l.length = n at *
  by_cases h : i < n
  · rw [if_pos h] at H2
    have hd : decide (i < n) = true := by simpa using h
    rw [hd]
    go_enter Try.func34, Try.ntmps34
    go_wp2_with fail
    refine H2.out.mono ?_
    rintro e w1 ⟨rfl, d, rfl⟩
    go_wp2_with fail
    go_ret
    exact ⟨rfl, _, rfl⟩
  · rw [if_neg h] at H2
    have hd : decide (i < n) = false := by simpa using h
    rw [hd]
    go_enter Try.func34, Try.ntmps34
    go_wp2_with fail
    refine H2.out.mono ?_
    rintro e w1 ⟨rfl, d, rfl⟩
    go_wp2_with fail
    go_ret
    exact ⟨rfl, _, rfl⟩

theorem any_win (L : Int) (l : List Int) : (l.any fun x => !decide (In L x)) = !decide (Win L l) := by
  by_cases h : Win L l
  · rw [decide_eq_true h]
    simp only [Bool.not_true, List.any_eq_false]
    intro x hx
    simp [h x hx]
  · rw [decide_eq_false h]
    simp only [Bool.not_false, List.any_eq_true]
    have : ∃ x, x ∈ l ∧ ¬ In L x := Classical.byContradiction fun h2 => h fun x hx => Classical.byContradiction fun h3 => h2 ⟨x, hx, h3⟩
    obtain ⟨x, hx, h3⟩ := this
    exact ⟨x, hx, by simp [h3]⟩

/-- fen.allWithin. -/
theorem allWithin_any (A : Option Addr) (l : List Int) (c : Nat) (L : Int) (w : World) (hn : l.length ≤ 17592186044416) (h0 : 0 ≤ L) (h1 : L ≤ 4611686018427387904) (hL : Lies w w.heap.size A (l.map (.int .i64))) :
    Calls Try.prog 24 #[.slice A l.length c, .int .i64 L] w fun e w' => e = .returned (.bool (decide (Win L l))) ∧ Below w.heap.size w w' := by
  have H := Lib.hid (fun (W : World) hL (hc : W.cell? ⟨w.heap.size, 0, none⟩ = some (.int .i64 L)) => contains_in A l c w.heap.size (fun x => !decide (In L x)) W hn hL (fun x d _ => cl_within x L w.heap.size (W.drewN d) h0 h1 hc))
  rw [any_win] at H
  have HL := Lib.hid hL
  clear hL
  generalize decide (Win L l) = r at *
  generalize l.length = n at *
  go_enter Try.func24, Try.ntmps24
  go_wp2_with fail
  refine (H.out _ (HL.out.alloc _) (by simp)).mono ?_
  rintro e w1 ⟨rfl, d, rfl⟩
  go_wp2_with fail
  go_ret
  exact ⟨by simp, bdN (bnew _ _) _⟩

/-- fen.valid. -/
theorem valid_any (A : Option Addr) (l : List Int) (c : Nat) (w : World) (hn : l.length ≤ 17592186044416) (hL : Lies w w.heap.size A (l.map (.int .i64))) :
    Calls Try.prog 28 #[.slice A l.length c] w fun e w' => e = .returned (.bool (decide (Valid l))) ∧ Below w.heap.size w w' := by
  have H := Lib.hid (fun W hL => allWithin_any A l c 1099511627776 W hn (by decide) (by decide) hL)
  have hd : decide (Valid l) = (decide (l.length ≤ 300) && decide (Win 1099511627776 l)) := Bool.eq_iff_iff.2 (by simp only [decide_eq_true_eq, Bool.and_eq_true]; exact Iff.rfl)
  rw [hd]
  have HL := Lib.hid hL
  clear hL hd
  generalize decide (Win 1099511627776 l) = r at *
  generalize l.length = n at *
  by_cases h : n ≤ 300
  · have e : decide (n ≤ 300) = true := by simpa using h
    rw [e]
    go_enter Try.func28, Try.ntmps28
    go_wp2_with fail
    refine (H.out _ HL.out).mono ?_
    rintro e w1 ⟨rfl, hb⟩
    go_wp2_with fail
    go_ret
    exact ⟨by simp, hb⟩
  · have e : decide (n ≤ 300) = false := by simpa using h
    rw [e]
    go_enter Try.func28, Try.ntmps28
    go_wp2_with fail
    go_ret
    exact ⟨rfl, Below.refl _ _⟩
end Go.Proofs.Ytegcpfopdaoebaa
