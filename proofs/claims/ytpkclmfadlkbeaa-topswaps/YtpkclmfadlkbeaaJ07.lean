/-
  What bits.Make returns: contracts, walked over the translated text. What the small functions of package fen, and the document's, return: contracts, walked over the translated text. What slices.Clone of a list of int, fen.Make, fen.Add and fen.Sum return: contracts, walked over the translated text. What fen.Make, fen.Add and fen.Sum return: contracts, walked over the translated text. No condition but what each theorem names.
-/
import Derived.Test.YtpkclmfadlkbeaaJ04
import Derived.Test.YtpkclmfadlkbeaaJ01
import Derived.Test.YtpkclmfadlkbeaaJ06
import Derived.RegionTactic
import Derived.BigRegion
import Derived.Test.YtpkclmfadlkbeaaJ05
import Derived.Test.YtpkclmfadlkbeaaJ02
import Derived.Deep.QuietTactic
import Derived.BigQuiet
import Derived.IntWalk
namespace Go.Proofs.Ytpkclmfadlkbeaa
open Go.RowKit Words

/-- What a call that returns a bit vector leaves. -/
def GivesBits (w : World) (n : Nat) (ws : List Nat) (e : Ending) (w' : World) : Prop :=
  ∃ A c, e = .returned (.tuple #[.agg #[.int .i64 n, .slice A ws.length c], .int .i64 0]) ∧ Words64 w' w'.heap.size A ws ∧ New w.heap.size A ∧ Below w.heap.size w w'

/-- bits.Make of too long a list. -/
theorem make_size (A : Option Addr) (n c : Nat) (w : World) (h : 4096 < n) (hn : n ≤ 9223372036854775807) :
    Calls Try.prog 56 #[.slice A n c] w fun e w' => e = .returned (.tuple #[.agg #[.int .i64 0, .slice none 0 0], .int .i64 1]) ∧ Below w.heap.size w w' := by
  go_enter Try.func56, Try.ntmps56
  go_wp2
  exact bodyPost_ret (v := .tuple #[.agg #[.int .i64 0, .slice none 0 0], .int .i64 1]) (by simp [results, Try.results56, go_sem]) rfl ⟨rfl, bnew _ _⟩

set_option maxHeartbeats 1000000 in
/-- bits.Make. -/
theorem make_any (A : Option Addr) (l : List Bool) (c : Nat) (w : World) (h : l.length ≤ 4096) (hL : Lies w w.heap.size A (l.map .bool)) :
    Calls Try.prog 56 #[.slice A l.length c] w (GivesBits w l.length (rowOf l)) := by
  have HL := Lib.hid hL
  have HW := Lib.hid (wordsFor_any l.length · h)
  have hmk := make_row (P := Try.prog) 65 110 (.int .u64 0) 8 Try.underlying65 word_info rfl ((l.length + 63) / 64) (by omega) (by omega)
  clear hL
  generalize hm : (l.length + 63) / 64 = m at *
  have hm1 : l.length ≤ 64 * m := by omega
  have HM := Lib.hid hm
  clear hm
  generalize hn : l.length = n at *
  have HN := Lib.hid hn
  clear hn
  go_enter Try.func56, Try.ntmps56
  go_wp2_with (go_at_call 71; refine (HW.out _).mono ?_; rintro e w' ⟨rfl, rfl⟩)
  go_loopw [17] (fun v w' => ∃ i : Nat, i ≤ n ∧ v = .int .i64 i ∧ Blk w' (w.heap.size + 1) 110 (asWords (laid l i m)) ∧ Below (w.heap.size + 1) (w.alloc (.cells #[.int .i64 0, .slice none 0 0] 67)) w') (fun v _ => n - (intOf v).toNat)
  case atStart => exact ⟨0, Nat.zero_le _, rfl, by simpa [asWords, laid_zero] using zeros_blk (w.alloc (.cells #[.int .i64 0, .slice none 0 0] 67)) (.int .u64 0) m 110, (Below.refl _ _).alloc (by simp) _⟩
  case round =>
    obtain ⟨i, hi, rfl, hB, hbl⟩ := hrel
    have hc1 := bcell hbl
    have hf1 := bfrozen hbl
    by_cases hlt : i < n
    · obtain ⟨b, o, x, rfl, hb, hx, hc⟩ := HL.out.at_ (k := i) (by rw [HN.out]; exact hlt)
      have hq : i / 64 < m := by omega
      have hla := laid_at l i m hq
      have hpl := packTo_lt (fun b => l.getD (64 * (i / 64) + b) false) (i % 64)
      have hpw := pack_word (fun b => l.getD (64 * (i / 64) + b) false) (i % 64) (by omega)
      have hstep := laid_step l i m hq
      have hskip := laid_skip l i m hq
      rw [show l.getD i false = x by rw [List.getD, hx]; rfl] at hstep hskip
      clear hx
      generalize packTo (fun b => l.getD (64 * (i / 64) + b) false) (i % 64) = y at *
      have hcell : wr.cell? ⟨w.heap.size + 1, i / 64, none⟩ = some (.int .u64 y) := by rw [hB.cell, asWords, List.getElem?_map, hla]; rfl
      have hfz := hB.frozen (i / 64)
      have hor := or_bit_int y (i % 64) (by omega) hpl
      have HST := Lib.hid hstep
      have HSK := Lib.hid hskip
      clear hla hpl hstep hskip
      cases x
      · go_wp2
        go_roundw
        case rel => exact ⟨i + 1, by omega, by go_num, by rw [HSK.out rfl]; exact hB, hbl⟩
        case measure => simp [intOf]; omega
      · go_wp2
        go_region
        go_wp2
        go_roundw
        case rel => exact ⟨i + 1, by omega, by go_num, by rw [HST.out]; exact Blk.drew (by simpa [asWords, List.map_set] using hB.put (i / 64) (.int .u64 (y + 2 ^ (i % 64) : Nat))), (hbl.setCell (by simp) _).drew⟩
        case measure => simp [intOf]; omega
    · obtain rfl : n = i := by omega
      have hbox : Blk wr w.heap.size 67 [.int .i64 0, .slice none 0 0] := (Blk.new w 67 [.int .i64 0, .slice none 0 0]).below hbl (by omega)
      have hq0 : wr.cell? ⟨w.heap.size, 0, none⟩ = some (.int .i64 0) := hbox.cell 0
      have hq1 : wr.cell? ⟨w.heap.size, 1, none⟩ = some (.slice none 0 0) := hbox.cell 1
      go_wp2
      refine bodyPost_ret (v := .tuple #[.agg #[.int .i64 n, .slice (some ⟨w.heap.size + 1, 0, none⟩) m m], .int .i64 0]) (by simp [results, Try.results56, go_sem, hq0, hq1]) rfl ?_
      have hrow : laid l n m = rowOf l := by unfold rowOf; rw [HN.out, HM.out]
      have hB2 := (hB.far (p := ⟨w.heap.size, 0, none⟩) (by simp) (.int .i64 n)).far (p := ⟨w.heap.size, 1, none⟩) (by simp) (.slice (some ⟨w.heap.size + 1, 0, none⟩) m m)
      refine ⟨_, m, by rw [rowOf_length, HN.out, HM.out], ⟨by rw [← hrow]; exact hB2.lies, rowOf_word l⟩, (fun ad e => by obtain rfl := Option.some.inj e; simp), ?_⟩
      exact (((bnew _ _).trans (hbl.mono (by omega))).setCell (Nat.le_refl _) _).setCell (Nat.le_refl _) _
end Go.Proofs.Ytpkclmfadlkbeaa

namespace Go.Proofs.Ytpkclmfadlkbeaa
open Go.RowKit Words

theorem Words.bits_or_i64_nat (a b : Nat) (ha : a < 4611686018427387904) (hb : b < 4611686018427387904) : bits .or .i64 (a : Int) (b : Int) = ((a ||| b : Nat) : Int) := by
  have hx : a ||| b < 2 ^ 62 := Nat.or_lt_two_pow ha hb
  have h1 : (BitVec.ofInt 64 (a : Int)).toNat = a := by
    rw [BitVec.ofInt_natCast, BitVec.toNat_ofNat]; exact Nat.mod_eq_of_lt (by omega)
  have h2 : (BitVec.ofInt 64 (b : Int)).toNat = b := by
    rw [BitVec.ofInt_natCast, BitVec.toNat_ofNat]; exact Nat.mod_eq_of_lt (by omega)
  show IntKind.i64.wrap ((BitVec.ofInt 64 (a : Int) ||| BitVec.ofInt 64 (b : Int)).toNat : Int) = _
  rw [BitVec.toNat_or, h1, h2, IntKind.wrap_i64]
  generalize a ||| b = c at *
  have : c < 4611686018427387904 := hx
  omega

/-- fen.around. -/
theorem around_any (i : Nat) (w : World) (hi : i ≤ 1000000) :
    Calls Try.prog 38 #[.int .i64 i] w fun e w' => e = .returned (.int .i64 (aro i : Nat)) ∧ w = w' := by
  have h : bits BinOp.or IntKind.i64 (i : Int) ((i : Int) + 1) = ((aro i : Nat) : Int) := by
    rw [show (i : Int) + 1 = ((i + 1 : Nat) : Int) by omega, Words.bits_or_i64_nat _ _ (by omega) (by omega), or_aro]
  generalize aro i = r at *
  go_enter Try.func38, Try.ntmps38
  go_wp2_with fail
  go_ret
  exact ⟨rfl, rfl⟩

/-- fen.start. -/
theorem start_any (i : Nat) (w : World) (hi : i ≤ 1000000) :
    Calls Try.prog 42 #[.int .i64 i] w fun e w' => e = .returned (.int .i64 (frm i : Nat)) ∧ w = w' := by
  have h : bits BinOp.and IntKind.i64 ((i : Int) + 1) (i : Int) = ((frm i : Nat) : Int) := by
    rw [show (i : Int) + 1 = ((i + 1 : Nat) : Int) by omega, Words.bits_and_i64_nat _ _ (by omega) (by omega), and_frm]
  generalize frm i = r at *
  go_enter Try.func42, Try.ntmps42
  go_wp2_with fail
  go_ret
  exact ⟨rfl, rfl⟩

/-- A number within a limit. -/
def In (L x : Int) : Prop := -L ≤ x ∧ x ≤ L
instance (L x : Int) : Decidable (In L x) := inferInstanceAs (Decidable (_ ∧ _))
/-- All numbers of a list are. -/
def Win (L : Int) (l : List Int) : Prop := ∀ x ∈ l, In L x
instance (L : Int) (l : List Int) : Decidable (Win L l) := inferInstanceAs (Decidable (∀ x ∈ l, In L x))
/-- A valid tree. -/
def Valid (l : List Int) : Prop := l.length ≤ 300 ∧ Win 1099511627776 l
instance (l : List Int) : Decidable (Valid l) := inferInstanceAs (Decidable (_ ∧ _))

theorem Win.at0 {L : Int} {l : List Int} (h : Win L l) (c : Nat) (hc : c < l.length) : -L ≤ at0 l c ∧ at0 l c ≤ L := h _ (List.mem_of_getElem? (at0_some l c hc))
theorem win_of {L : Int} {l : List Int} (h : ∀ c, c < l.length → -L ≤ at0 l c ∧ at0 l c ≤ L) : Win L l := fun x hx => by
  obtain ⟨i, hi, rfl⟩ := List.getElem_of_mem hx
  have := h i hi
  rwa [at0_get l i _ (List.getElem?_eq_getElem hi)] at this

/-- fen.within. -/
theorem within8_any (x L : Int) (w : World) (h0 : 0 ≤ L) (h1 : L ≤ 4611686018427387904) :
    Calls Try.prog 43 #[.int .i64 x, .int .i64 L] w fun e w' => e = .returned (.bool (decide (In L x))) ∧ w = w' := by
  have hd : decide (In L x) = (decide (-L ≤ x) && decide (x ≤ L)) := Bool.eq_iff_iff.2 (by simp only [decide_eq_true_eq, Bool.and_eq_true]; exact Iff.rfl)
  rw [hd]
  by_cases a : -L ≤ x
  · have e1 : decide (-L ≤ x) = true := by simpa using a
    by_cases b : x ≤ L
    · have e2 : decide (x ≤ L) = true := by simpa using b
      rw [e1, e2]
      go_enter Try.func43, Try.ntmps43
      go_wp2_with fail
      go_ret
      exact ⟨rfl, rfl⟩
    · have e2 : decide (x ≤ L) = false := by simpa using b
      rw [e1, e2]
      go_enter Try.func43, Try.ntmps43
      go_wp2_with fail
      go_ret
      exact ⟨rfl, rfl⟩
  · have e1 : decide (-L ≤ x) = false := by simpa using a
    rw [e1]
    go_enter Try.func43, Try.ntmps43
    go_wp2_with fail
    go_ret
    exact ⟨rfl, rfl⟩

/-- fen.allWithin's closure. -/
theorem cl_within (x L : Int) (g : Nat) (w : World) (h0 : 0 ≤ L) (h1 : L ≤ 4611686018427387904) (hc : w.cell? ⟨g, 0, none⟩ = some (.int .i64 L)) :
    Calls Try.prog 58 #[.int .i64 x, .pointer (some ⟨g, 0, none⟩)] w fun e w' => e = .returned (.bool (!decide (In L x))) ∧ ∃ d, w' = w.drewN d := by
  have H := Lib.hid (within8_any x L · h0 h1)
  generalize decide (In L x) = r at *
  go_enter Try.func58, Try.ntmps58
  go_wp2_with (go_at_call 43; refine (H.out _).mono ?_; rintro e w' ⟨rfl, rfl⟩)
  go_ret
  exact ⟨rfl, 0, rfl⟩

/-- The first of a list at which p holds. -/
theorem first_of (p : Int → Bool) (l : List Int) : ∃ i, i ≤ l.length ∧ (∀ k x, k < i → l[k]? = some x → p x = false) ∧ (∀ x, l[i]? = some x → p x = true) ∧ l.any p = decide (i < l.length) := by
  induction l with
  | nil => exact ⟨0, Nat.le_refl _, (fun k x h _ => by omega), (fun x h => by cases h), rfl⟩
  | cons a l ih =>
    by_cases h : p a = true
    · refine ⟨0, Nat.zero_le _, (fun k x h _ => by omega), (fun x hx => ?_), by simp [h]⟩
      obtain rfl : a = x := by simpa using hx
      exact h
    · obtain ⟨i, h1, h2, h3, h4⟩ := ih
      refine ⟨i + 1, by simp; omega, fun k x hk hx => ?_, (fun x hx => h3 x (by simpa using hx)), ?_⟩
      · cases k with
        | zero =>
          obtain rfl : a = x := by simpa using hx
          simpa using h
        | succ k => exact h2 k x (by omega) (by simpa using hx)
      · rw [List.any_cons, h4]
        simp [h]

set_option maxHeartbeats 1000000 in
/-- slices.IndexFunc with that closure: the first index at which it holds, or -1. -/
theorem index_in (A : Option Addr) (l : List Int) (c i : Nat) (g : Nat) (p : Int → Bool) (w : World) (hn : l.length ≤ 17592186044416) (hin : i ≤ l.length) (hlo : ∀ k x, k < i → l[k]? = some x → p x = false) (hhi : ∀ x, l[i]? = some x → p x = true) (hL : Lies w w.heap.size A (l.map (.int .i64)))
    (hf : ∀ x d, x ∈ l → Calls Try.prog 58 #[.int .i64 x, .pointer (some ⟨g, 0, none⟩)] (w.drewN d) fun e w' => e = .returned (.bool (p x)) ∧ ∃ m, w' = (w.drewN d).drewN m) :
    Calls Try.prog 54 #[.slice A l.length c, .func (.func 58) #[] #[.pointer (some ⟨g, 0, none⟩)]] w fun e w' => e = .returned (.int .i64 (if i < l.length then (i : Int) else -1)) ∧ ∃ d, w' = w.drewN d := by
  have HF := Lib.hid hf
  have HLo := Lib.hid hlo
  have HHi := Lib.hid hhi
  have HL := Lib.hid hL
  clear hf hlo hhi hL
  generalize hk : l.length = n at *
  have HN := Lib.hid hk
  clear hk
  obtain ⟨r, hr⟩ : ∃ r : Int, r = if i < n then (i : Int) else -1 := ⟨_, rfl⟩
  rw [← hr]
  have HR := Lib.hid hr
  clear hr
  go_enter Try.func54, Try.ntmps54
  go_wp2_with fail
  go_loopw [8] (fun a w' => ∃ k d : Nat, k ≤ i ∧ a = .int .i64 k ∧ w' = w.drewN d) (fun a _ => n - (intOf a).toNat)
  case atStart => exact ⟨0, 0, Nat.zero_le _, rfl, rfl⟩
  case round =>
    obtain ⟨k, d, hki, rfl, rfl⟩ := hrel
    by_cases hlt : k < n
    · obtain ⟨b, o, x, rfl, hb, hx, hc⟩ := HL.out.at_ (k := k) (by rw [HN.out]; exact hlt)
      have HC := Lib.hid (fun d => HF.out x d (List.mem_of_getElem? hx))
      by_cases hlt2 : k < i
      · rw [HLo.out k x hlt2 hx] at HC
        clear hx
        go_wp2_with fail
        refine (HC.out _).mono ?_
        rintro e w1 ⟨rfl, m, rfl⟩
        go_wp2_with fail
        go_roundw
        case rel => exact ⟨k + 1, _, by omega, by go_num, by first | rfl | (simp only [World.drewN_drewN]; rfl)⟩
        case measure => simp [intOf]; omega
      · obtain rfl : k = i := by omega
        have hre : r = (k : Int) := by rw [HR.out, if_pos hlt]
        subst hre
        clear HR
        rw [HHi.out x hx] at HC
        clear hx
        go_wp2_with fail
        refine (HC.out _).mono ?_
        rintro e w1 ⟨rfl, m, rfl⟩
        go_wp2_with fail
        go_ret
        exact ⟨rfl, _, by first | rfl | (simp only [World.drewN_drewN]; rfl)⟩
    · have hre : r = -1 := by rw [HR.out, if_neg (by omega)]
      subst hre
      go_wp2_with fail
      go_ret
      exact ⟨rfl, _, rfl⟩

/-- slices.ContainsFunc with that closure. -/
theorem contains_in (A : Option Addr) (l : List Int) (c : Nat) (g : Nat) (p : Int → Bool) (w : World) (hn : l.length ≤ 17592186044416) (hL : Lies w w.heap.size A (l.map (.int .i64)))
    (hf : ∀ x d, x ∈ l → Calls Try.prog 58 #[.int .i64 x, .pointer (some ⟨g, 0, none⟩)] (w.drewN d) fun e w' => e = .returned (.bool (p x)) ∧ ∃ m, w' = (w.drewN d).drewN m) :
    Calls Try.prog 32 #[.slice A l.length c, .func (.func 58) #[] #[.pointer (some ⟨g, 0, none⟩)]] w fun e w' => e = .returned (.bool (l.any p)) ∧ ∃ d, w' = w.drewN d := by
  obtain ⟨i, hi, hlo, hhi, hany⟩ := first_of p l
  have H := Lib.hid (fun W hL hf => index_in A l c i g p W hn hi hlo hhi hL hf)
  rw [hany]
  have H2 := Lib.hid (H.out w hL hf)
  clear H hf hL hany hlo hhi
  generalize l.length = n at *
  by_cases h : i < n
  · rw [if_pos h] at H2
    have hd : decide (i < n) = true := by simpa using h
    rw [hd]
    go_enter Try.func32, Try.ntmps32
    go_wp2_with fail
    refine H2.out.mono ?_
    rintro e w1 ⟨rfl, d, rfl⟩
    go_wp2_with fail
    go_ret
    exact ⟨rfl, _, rfl⟩
  · rw [if_neg h] at H2
    have hd : decide (i < n) = false := by simpa using h
    rw [hd]
    go_enter Try.func32, Try.ntmps32
    go_wp2_with fail
    refine H2.out.mono ?_
    rintro e w1 ⟨rfl, d, rfl⟩
    go_wp2_with fail
    go_ret
    exact ⟨rfl, _, rfl⟩


theorem any_win (L : Int) (l : List Int) : (l.any fun x => !decide (In L x)) = !decide (Win L l) := by
  by_cases h : Win L l
  · rw [decide_eq_true h]
    simp only [Bool.not_true, List.any_eq_false]
    intro x hx
    simp [h x hx]
  · rw [decide_eq_false h]
    simp only [Bool.not_false, List.any_eq_true]
    have : ∃ x, x ∈ l ∧ ¬ In L x := Classical.byContradiction fun h2 => h fun x hx => Classical.byContradiction fun h3 => h2 ⟨x, hx, h3⟩
    obtain ⟨x, hx, h3⟩ := this
    exact ⟨x, hx, by simp [h3]⟩

/-- fen.allWithin. -/
theorem allWithin_any (A : Option Addr) (l : List Int) (c : Nat) (L : Int) (w : World) (hn : l.length ≤ 17592186044416) (h0 : 0 ≤ L) (h1 : L ≤ 4611686018427387904) (hL : Lies w w.heap.size A (l.map (.int .i64))) :
    Calls Try.prog 36 #[.slice A l.length c, .int .i64 L] w fun e w' => e = .returned (.bool (decide (Win L l))) ∧ Below w.heap.size w w' := by
  have H := Lib.hid (fun (W : World) hL (hc : W.cell? ⟨w.heap.size, 0, none⟩ = some (.int .i64 L)) => contains_in A l c w.heap.size (fun x => !decide (In L x)) W hn hL (fun x d _ => cl_within x L w.heap.size (W.drewN d) h0 h1 hc))
  rw [any_win] at H
  have HL := Lib.hid hL
  clear hL
  generalize decide (Win L l) = r at *
  generalize l.length = n at *
  go_enter Try.func36, Try.ntmps36
  go_wp2_with fail
  refine (H.out _ (HL.out.alloc _) (by simp)).mono ?_
  rintro e w1 ⟨rfl, d, rfl⟩
  go_wp2_with fail
  go_ret
  exact ⟨by simp, bdN (bnew _ _) _⟩

/-- fen.valid. -/
theorem valid_any (A : Option Addr) (l : List Int) (c : Nat) (w : World) (hn : l.length ≤ 17592186044416) (hL : Lies w w.heap.size A (l.map (.int .i64))) :
    Calls Try.prog 41 #[.slice A l.length c] w fun e w' => e = .returned (.bool (decide (Valid l))) ∧ Below w.heap.size w w' := by
  have H := Lib.hid (fun W hL => allWithin_any A l c 1099511627776 W hn (by decide) (by decide) hL)
  have hd : decide (Valid l) = (decide (l.length ≤ 300) && decide (Win 1099511627776 l)) := Bool.eq_iff_iff.2 (by simp only [decide_eq_true_eq, Bool.and_eq_true]; exact Iff.rfl)
  rw [hd]
  have HL := Lib.hid hL
  clear hL hd
  generalize decide (Win 1099511627776 l) = r at *
  generalize l.length = n at *
  by_cases h : n ≤ 300
  · have e : decide (n ≤ 300) = true := by simpa using h
    rw [e]
    go_enter Try.func41, Try.ntmps41
    go_wp2_with fail
    refine (H.out _ HL.out).mono ?_
    rintro e w1 ⟨rfl, hb⟩
    go_wp2_with fail
    go_ret
    exact ⟨by simp, hb⟩
  · have e : decide (n ≤ 300) = false := by simpa using h
    rw [e]
    go_enter Try.func41, Try.ntmps41
    go_wp2_with fail
    go_ret
    exact ⟨rfl, Below.refl _ _⟩
end Go.Proofs.Ytpkclmfadlkbeaa

namespace Go.Proofs.Ytpkclmfadlkbeaa
open Go.RowKit Words

theorem fint_info : (Try.prog.info? 3).map (fun i => (i.zero, i.size, i.bytes)) = some (some (.int .i64 0), 1, 8) := by kernel_rfl

/-- The numbers f 0 .. f (n - 1), as cells. -/
def cellsOf (f : Nat → Int) (n : Nat) : List Value := (vals f n).map (.int .i64)
theorem cellsOf_length (f : Nat → Int) (n : Nat) : (cellsOf f n).length = n := by unfold cellsOf; rw [List.length_map, vals_length]
theorem cellsOf_get (f : Nat → Int) (n i : Nat) (h : i < n) : (cellsOf f n)[i]? = some (.int .i64 (f i)) := by unfold cellsOf; rw [List.getElem?_map, vals_get _ _ _ h]; rfl
theorem cellsOf_set (f : Nat → Int) (n i : Nat) (v : Int) : (cellsOf f n).set i (.int .i64 v) = cellsOf (upd f i v) n := by unfold cellsOf; rw [← vals_set, List.map_set]
theorem cellsOf_congr {f g : Nat → Int} (n : Nat) (h : ∀ j, j < n → f j = g j) : cellsOf f n = cellsOf g n := by unfold cellsOf; rw [vals_congr n h]
theorem cellsOf_at0 (l : List Int) : cellsOf (at0 l) l.length = l.map (.int .i64) := by unfold cellsOf; rw [vals_at0]
theorem cellsOf_one (f : Nat → Int) (n : Nat) : ∀ u ∈ cellsOf f n, u.oneCell' = true := by
  intro u hu
  obtain ⟨_, _, rfl⟩ := List.mem_map.1 hu
  rfl

theorem own_lower {w : World} {base B : Nat} {e : TypeId} {v : Value} {n : Nat} {xs : List Value} (h : w.ownsRow base e 1 v n xs) (hB : B ≤ base) : w.ownsRow B e 1 v n xs := by
  refine ⟨h.1, ?_⟩
  rcases h.2 with ⟨rfl, hn⟩ | ⟨g, cap, cur, rfl, hb, hr⟩
  · exact .inl ⟨rfl, hn⟩
  · exact .inr ⟨g, cap, cur, rfl, by omega, hr⟩
/-- A new block without cells. -/
theorem Blk.owns0 {w : World} {g : Nat} {e : TypeId} (h : Blk w g e []) {base : Nat} (hb : base ≤ g) : w.ownsRow base e 1 (.slice (some ⟨g, 0, none⟩) 0 0) 0 [] :=
  ⟨rfl, .inr ⟨g, 0, #[], rfl, hb, h, Nat.le_refl _, Nat.zero_le _, rfl, rfl⟩⟩

/-- What a call that returns a new row of int, its caller's own, leaves. -/
def GivesF (w : World) (f : Nat → Int) (n : Nat) (e : Ending) (w' : World) : Prop := ∃ A c, e = .returned (.slice A n c) ∧ w'.ownsRow w.heap.size 3 1 (.slice A n c) n (cellsOf f n) ∧ Below w.heap.size w w'
/-- A list and OK; no list and an error. -/
def GivesT (w : World) (f : Nat → Int) (n : Nat) (e : Ending) (w' : World) : Prop := ∃ A c, e = .returned (.tuple #[.slice A n c, .int .i64 0]) ∧ Lies w' w'.heap.size A (cellsOf f n) ∧ (A = none → c = 0) ∧ New w.heap.size A ∧ Below w.heap.size w w'
def NoT (w : World) (r : Int) (e : Ending) (w' : World) : Prop := e = .returned (.tuple #[.slice none 0 0, .int .i64 r]) ∧ Below w.heap.size w w'

theorem own_gives {w w' : World} {f : Nat → Int} {n c : Nat} {A : Option Addr} (h : w'.ownsRow w.heap.size 3 1 (.slice A n c) n (cellsOf f n)) (hb : Below w.heap.size w w') : GivesT w f n (.returned (.tuple #[.slice A n c, .int .i64 0])) w' := by
  obtain ⟨A', c', e, _, _, hl, hnone, hnew⟩ := own_slice h
  injection e with e1 _ e2
  subst e1 e2
  exact ⟨A, c, rfl, hl, hnone, hnew, hb⟩

set_option maxHeartbeats 1000000 in
/-- slices.Clone. -/
theorem clone_any (A : Option Addr) (l : List Int) (c : Nat) (w : World) (hn : l.length ≤ 1000000) (hnone : A = none → c = 0) (hL : Lies w w.heap.size A (l.map (.int .i64))) :
    Calls Try.prog 37 #[.slice A l.length c] w (GivesF w (at0 l) l.length) := by
  have HLen := Lib.hid (show (l.map (Value.int .i64)).length = l.length by simp)
  have HT := Lib.hid (cellsOf_one (at0 l) l.length)
  have HE := Lib.hid (cellsOf_at0 l)
  have hnl : ∀ (w : World) (a : Option Addr) (n c n' c' : Nat), (binOp .eql 31 (.slice a n c) (.slice none n' c')).run Try.prog w = .ok (.bool a.isNone) w := fun w a n c n' c' => Lib.run_eql_slice_nil w _ _ a n c n' c' Try.underlying31
  cases A with
  | none =>
    have h0 : l.length = 0 := by
      by_cases hne : l.map (Value.int .i64) = []
      · rw [List.map_eq_nil_iff] at hne; subst hne; rfl
      · obtain ⟨b, o', e', _⟩ := hL hne
        cases e'
    have hc := hnone rfl
    subst hc
    unfold GivesF
    rw [h0]
    go_enter Try.func37, Try.ntmps37
    go_wp2_with fail
    go_ret
    exact ⟨none, 0, rfl, World.ownsRow_nil _ _ _ _, Below.refl _ _⟩
  | some ad =>
    rw [HE.out] at HT
    have HL := Lib.hid hL
    clear hL hnone
    unfold GivesF
    rw [HE.out]
    generalize l.map (Value.int .i64) = ys at *
    generalize l.length = n at *
    clear HE
    go_enter Try.func37, Try.ntmps37
    go_wp2_with (at_builtin; go_loud (refine append_from _ rfl (.tmp 5) (.tmp 6) 31 rfl w.heap.size 3 (.int .i64 0) 8 Try.underlying31 fint_info rfl (.slice (some ⟨w.heap.size, 0, none⟩) 0 0) 0 [] rfl ((Blk.new w 3 []).owns0 (Nat.le_refl _)) (some ad) n c ys rfl HLen.out (fun e => by cases e) (HL.out.alloc _) HT.out (by simp only [maxLen]; omega) (by omega) (by simp) ?_))
    intro v1 w2 hown1 hg1
    obtain ⟨A', c', rfl, hle1, hlen1, hlies, hnone1, hnew1⟩ := own_slice hown1
    go_wp2_with fail
    go_ret
    exact ⟨A', c', by simp, by simpa using hown1, (bnew w _).grown hg1 (by simp) (fun q hq => by cases hq; exact Nat.le_refl _)⟩
end Go.Proofs.Ytpkclmfadlkbeaa

namespace Go.Proofs.Ytpkclmfadlkbeaa
open Go.RowKit Words

theorem fmk_size (A : Option Addr) (n c : Nat) (w : World) (h : 300 < n) (hn : n ≤ 17592186044416) :
    Calls Try.prog 19 #[.slice A n c] w (NoT w 1) := by
  go_enter Try.func19, Try.ntmps19
  go_wp2_with fail
  go_ret2
  exact ⟨rfl, Below.refl _ _⟩
theorem fmk_range (A : Option Addr) (l : List Int) (c : Nat) (w : World) (hn : l.length ≤ 300) (hx : ¬ Win 1048576 l) (hL : Lies w w.heap.size A (l.map (.int .i64))) :
    Calls Try.prog 19 #[.slice A l.length c] w (NoT w 2) := by
  have H := Lib.hid (allWithin_any A l c 1048576 w (by omega) (by decide) (by decide) hL)
  rw [decide_eq_false hx] at H
  clear hx hL
  generalize l.length = n at *
  go_enter Try.func19, Try.ntmps19
  go_wp2_with fail
  refine H.out.mono ?_
  rintro e w1 ⟨rfl, hb⟩
  go_wp2_with fail
  go_ret2
  exact ⟨rfl, hb⟩

set_option maxHeartbeats 1000000 in
/-- fen.Make. -/
theorem fmk_any (A : Option Addr) (l : List Int) (c : Nat) (w : World) (hn : l.length ≤ 300) (hx : Win 1048576 l) (hnone : A = none → c = 0) (hL : Lies w w.heap.size A (l.map (.int .i64))) :
    Calls Try.prog 19 #[.slice A l.length c] w (GivesT w (tr (at0 l)) l.length) := by
  have H := Lib.hid (allWithin_any A l c 1048576 w (by omega) (by decide) (by decide) hL)
  rw [decide_eq_true hx] at H
  have HC := Lib.hid (fun W hL => clone_any A l c W (by omega) hnone hL)
  have HL := Lib.hid hL
  have HB := Lib.hid (fun i j (hi : i ≤ l.length) (hj : j < l.length) => U_bound (at0 l) l.length hn 629145600 1048576 (by decide) (fun c hc => hx.at0 c hc) (fun c hc => tr_bound (at0 l) l.length hn 1048576 (by decide) (fun c hc => hx.at0 c hc) c hc) i j hi hj)
  have HA := Lib.hid (fun i (hi : i ≤ 1000000) W => around_any i W hi)
  unfold GivesF at HC
  clear hx hL hnone
  generalize at0 l = f at *
  generalize l.length = n at *
  go_enter Try.func19, Try.ntmps19
  go_wp2_with fail
  refine H.out.mono ?_
  rintro e w1 ⟨rfl, hb1⟩
  go_wp2_with fail
  refine (HC.out _ (HL.out.on hb1)).mono ?_
  rintro e w2 ⟨A2, c2, rfl, hown, hb2⟩
  have hb12 := chain hb1 hb2
  clear H HC HL
  go_wp2_with fail
  go_loopw [18] (fun a w' => ∃ i : Nat, i ≤ n ∧ a = .int .i64 i ∧ w'.ownsRow w1.heap.size 3 1 (.slice A2 n c2) n (cellsOf (U f i) n) ∧ Below w.heap.size w w') (fun a _ => n - (intOf a).toNat)
  case atStart => exact ⟨0, Nat.zero_le _, rfl, by rw [cellsOf_congr n fun j _ => U_zero f j]; exact hown, hb12⟩
  case round =>
    obtain ⟨i, hi, rfl, hr, hbl⟩ := hrel
    by_cases hlt : i < n
    · obtain ⟨g, rfl, hg⟩ := own_at hr (by omega)
      have hci := own_cell hr (cellsOf_get (U f i) n i hlt)
      have hfz := own_frozen hr
      have hsz := hb1.size
      have HAi := Lib.hid (fun W => HA.out i (by omega) W)
      have hgt := aro_gt i
      have hle := aro_le i
      obtain ⟨hb3, hb4⟩ := HB.out i i hi hlt
      by_cases hup : aro i < n
      · have hca := own_cell hr (cellsOf_get (U f i) n (aro i) hup)
        obtain ⟨hb5, hb6⟩ := HB.out i (aro i) hi hup
        have HP := Lib.hid (own_put hr (aro i) (.int .i64 (U f i (aro i) + U f i i)))
        rw [cellsOf_set, cellsOf_congr (g := U f (i + 1)) n fun j _ => by rw [U_step]; rfl] at HP
        clear hr
        generalize U f i (aro i) = x at *
        generalize U f i i = y at *
        generalize aro i = k at *
        go_wp2_with (go_at_call 38; refine (HAi.out _).mono ?_; rintro e w' ⟨rfl, rfl⟩)
        go_roundw
        case rel => exact ⟨i + 1, by omega, by go_num, HP.out, hbl.setCell (by show w.heap.size ≤ g; omega) _⟩
        case measure => simp [intOf]; omega
      · have HR := Lib.hid hr
        rw [cellsOf_congr (g := U f (i + 1)) n fun j hj => by rw [U_step, if_neg (by omega)]] at HR
        clear hr
        generalize U f i i = y at *
        generalize aro i = k at *
        go_wp2_with (go_at_call 38; refine (HAi.out _).mono ?_; rintro e w' ⟨rfl, rfl⟩)
        go_roundw
        case rel => exact ⟨i + 1, by omega, by go_num, HR.out, hbl⟩
        case measure => simp [intOf]; omega
    · obtain rfl : n = i := by omega
      have HR := Lib.hid hr
      rw [cellsOf_congr (g := tr f) n fun j hj => U_all f n j (by omega)] at HR
      have hsz := hb1.size
      clear hr
      go_wp2_with fail
      go_ret2
      exact own_gives (own_lower HR.out hsz) hbl

/-- What an increase by d at index p makes of a tree. -/
def added (t : Nat → Int) (p : Nat) (d : Int) (j : Nat) : Int := t j + if Cov p j then d else 0
theorem went_bound (t : Nat → Int) (p q : Nat) (d : Int) (j : Nat) (B : Int) (h : -B ≤ t j ∧ t j ≤ B) (hd : In 1048576 d) : -(B + 1048576) ≤ went t p q d j ∧ went t p q d j ≤ B + 1048576 := by
  unfold went
  have hd' : -1048576 ≤ d ∧ d ≤ 1048576 := hd
  by_cases e : Cov p j ∧ ¬ Cov q j
  · rw [if_pos e]; omega
  · rw [if_neg e]; omega

/-- fen.Add of a tree that is not valid. -/
theorem fadd_form (A : Option Addr) (l : List Int) (c : Nat) (i d : Int) (w : World) (hn : l.length ≤ 17592186044416) (hv : ¬ Valid l) (hL : Lies w w.heap.size A (l.map (.int .i64))) :
    Calls Try.prog 22 #[.slice A l.length c, .int .i64 i, .int .i64 d] w (NoT w 4) := by
  have H := Lib.hid (valid_any A l c w hn hL)
  rw [decide_eq_false hv] at H
  clear hv hL
  generalize l.length = n at *
  go_enter Try.func22, Try.ntmps22
  go_wp2_with fail
  refine H.out.mono ?_
  rintro e w1 ⟨rfl, hb⟩
  go_wp2_with fail
  go_ret2
  exact ⟨rfl, hb⟩

set_option maxHeartbeats 1000000 in
/-- fen.Add of an index or a number out of range. -/
theorem fadd_range (A : Option Addr) (l : List Int) (c : Nat) (i d : Int) (w : World) (hv : Valid l) (hr : i < 0 ∨ (l.length : Int) ≤ i ∨ ¬ In 1048576 d) (hL : Lies w w.heap.size A (l.map (.int .i64))) :
    Calls Try.prog 22 #[.slice A l.length c, .int .i64 i, .int .i64 d] w (NoT w 2) := by
  have hn := hv.1
  have H := Lib.hid (valid_any A l c w (by omega) hL)
  rw [decide_eq_true hv] at H
  have HW := Lib.hid (fun W => within8_any d 1048576 W (by decide) (by decide))
  clear hv hL
  generalize l.length = n at *
  by_cases h0 : i < 0
  · go_enter Try.func22, Try.ntmps22
    go_wp2_with fail
    refine H.out.mono ?_
    rintro e w1 ⟨rfl, hb⟩
    go_wp2_with fail
    go_ret2
    exact ⟨rfl, hb⟩
  · by_cases h1 : (n : Int) ≤ i
    · go_enter Try.func22, Try.ntmps22
      go_wp2_with fail
      refine H.out.mono ?_
      rintro e w1 ⟨rfl, hb⟩
      go_wp2_with fail
      go_ret2
      exact ⟨rfl, hb⟩
    · have h2 : ¬ In 1048576 d := by rcases hr with h | h | h; exact absurd h h0; exact absurd h h1; exact h
      rw [decide_eq_false h2] at HW
      clear hr h2
      obtain ⟨k, rfl⟩ := Int.eq_ofNat_of_zero_le (a := i) (by omega)
      have h3 : k < n := by omega
      clear h0 h1
      go_enter Try.func22, Try.ntmps22
      go_wp2_with fail
      refine H.out.mono ?_
      rintro e w1 ⟨rfl, hb⟩
      go_wp2_with fail
      refine (HW.out _).mono ?_
      rintro e w2 ⟨rfl, rfl⟩
      go_wp2_with fail
      go_ret2
      exact ⟨rfl, hb⟩

set_option maxHeartbeats 2000000 in
/-- fen.Add. -/
theorem fadd_both (A : Option Addr) (l : List Int) (c p : Nat) (d : Int) (w : World) (hv : Valid l) (hp : p < l.length) (hd : In 1048576 d) (hnone : A = none → c = 0) (hL : Lies w w.heap.size A (l.map (.int .i64))) :
    Calls Try.prog 22 #[.slice A l.length c, .int .i64 p, .int .i64 d] w (fun e w' => (Valid (vals (added (at0 l) p d) l.length) ∧ GivesT w (added (at0 l) p d) l.length e w') ∨ (¬ Valid (vals (added (at0 l) p d) l.length) ∧ NoT w 1 e w')) := by
  have hn := hv.1
  have H := Lib.hid (valid_any A l c w (by omega) hL)
  rw [decide_eq_true hv] at H
  have HW := Lib.hid (fun W => within8_any d 1048576 W (by decide) (by decide))
  rw [decide_eq_true hd] at HW
  have HC := Lib.hid (fun W hL => clone_any A l c W (by omega) hnone hL)
  have HL := Lib.hid hL
  have HB := Lib.hid (fun q j (hj : j < l.length) => went_bound (at0 l) p q d j _ (hv.2.at0 j hj) hd)
  have HA := Lib.hid (fun i (hi : i ≤ 1000000) W => around_any i W hi)
  have HV := Lib.hid (fun A c W hW => valid_any A (vals (added (at0 l) p d) l.length) c W (by rw [vals_length]; omega) hW)
  rw [vals_length] at HV
  have hd1 : -1048576 ≤ d := hd.1
  have hd2 : d ≤ 1048576 := hd.2
  unfold GivesF at HC
  clear hv hL hnone hd
  generalize at0 l = t at *
  generalize l.length = n at *
  go_enter Try.func22, Try.ntmps22
  go_wp2_with fail
  refine H.out.mono ?_
  rintro e w1 ⟨rfl, hb1⟩
  go_wp2_with fail
  refine (HW.out _).mono ?_
  rintro e w1 ⟨rfl, rfl⟩
  go_wp2_with fail
  refine (HC.out _ (HL.out.on hb1)).mono ?_
  rintro e w2 ⟨A2, c2, rfl, hown, hb2⟩
  have hb12 := chain hb1 hb2
  clear H HC HL HW
  go_wp2_with fail
  go_loopw [1] (fun a w' => ∃ q : Nat, Cov p q ∧ q ≤ 601 ∧ a = .int .i64 q ∧ w'.ownsRow w1.heap.size 3 1 (.slice A2 n c2) n (cellsOf (went t p q d) n) ∧ Below w.heap.size w w') (fun a _ => n - (intOf a).toNat)
  case atStart => exact ⟨p, cov_self p, by omega, rfl, by rw [cellsOf_congr n fun j _ => went_start t p d j]; exact hown, hb12⟩
  case round =>
    obtain ⟨q, hcov, hq, rfl, hr, hbl⟩ := hrel
    by_cases hlt : q < n
    · obtain ⟨g, rfl, hg⟩ := own_at hr (by omega)
      have hci := own_cell hr (cellsOf_get (went t p q d) n q hlt)
      have hfz := own_frozen hr
      have hsz := hb1.size
      have HAi := Lib.hid (fun W => HA.out q (by omega) W)
      have hgt := aro_gt q
      have hle := aro_le q
      obtain ⟨hb3, hb4⟩ := HB.out q q hlt
      have HP := Lib.hid (own_put hr q (.int .i64 (went t p q d q + d)))
      rw [cellsOf_set, cellsOf_congr (g := went t p (aro q) d) n fun j _ => by rw [went_step t p q d hcov]; rfl] at HP
      have HCv := Lib.hid (cov_up p q hcov)
      clear hr
      generalize went t p q d q = x at *
      generalize aro q = k at *
      go_wp2_with (go_at_call 38; refine (HAi.out _).mono ?_; rintro e w' ⟨rfl, rfl⟩)
      go_roundw
      case rel => exact ⟨k, HCv.out, by omega, rfl, HP.out, hbl.setCell (by show w.heap.size ≤ g; omega) _⟩
      case measure => simp [intOf]; omega
    · have HR := Lib.hid hr
      rw [cellsOf_congr (g := added t p d) n fun j hj => went_end t p q n d (by omega) j hj] at HR
      obtain ⟨A3, c3, e3, _, _, hl3, hn3, hw3⟩ := own_slice HR.out
      injection e3 with e4 _ e5
      subst e4 e5
      have HW3 := Lib.hid (hw3.mono hb1.size)
      have HL3 := Lib.hid hl3
      have HN3 := Lib.hid hn3
      clear hr HR hl3 hn3 hw3
      by_cases hV : Valid (vals (added t p d) n)
      · rw [decide_eq_true hV] at HV
        go_wp2_with fail
        refine (HV.out A2 c2 _ HL3.out).mono ?_
        rintro e w4 ⟨rfl, hb4⟩
        go_wp2_with fail
        go_ret2
        refine .inl ⟨hV, ?_⟩
        exact ⟨A2, c2, rfl, HL3.out.on hb4, HN3.out, HW3.out, chain hbl hb4⟩
      · rw [decide_eq_false hV] at HV
        go_wp2_with fail
        refine (HV.out A2 c2 _ HL3.out).mono ?_
        rintro e w4 ⟨rfl, hb4⟩
        go_wp2_with fail
        go_ret2
        refine .inr ⟨hV, ?_⟩
        exact ⟨rfl, chain hbl hb4⟩

/-- A number and OK; 0 and an error. -/
def Tells8 (w : World) (x r : Int) (e : Ending) (w' : World) : Prop := e = .returned (.tuple #[.int .i64 x, .int .i64 r]) ∧ Below w.heap.size w w'

theorem fsum_form (A : Option Addr) (l : List Int) (c : Nat) (i : Int) (w : World) (hn : l.length ≤ 17592186044416) (hv : ¬ Valid l) (hL : Lies w w.heap.size A (l.map (.int .i64))) :
    Calls Try.prog 21 #[.slice A l.length c, .int .i64 i] w (Tells8 w 0 4) := by
  have H := Lib.hid (valid_any A l c w hn hL)
  rw [decide_eq_false hv] at H
  clear hv hL
  generalize l.length = n at *
  go_enter Try.func21, Try.ntmps21
  go_wp2_with fail
  refine H.out.mono ?_
  rintro e w1 ⟨rfl, hb⟩
  go_wp2_with fail
  go_ret2
  exact ⟨rfl, hb⟩
theorem fsum_range (A : Option Addr) (l : List Int) (c : Nat) (i : Int) (w : World) (hv : Valid l) (hr : i < 0 ∨ (l.length : Int) < i) (hL : Lies w w.heap.size A (l.map (.int .i64))) :
    Calls Try.prog 21 #[.slice A l.length c, .int .i64 i] w (Tells8 w 0 2) := by
  have hn := hv.1
  have H := Lib.hid (valid_any A l c w (by omega) hL)
  rw [decide_eq_true hv] at H
  clear hv hL
  generalize l.length = n at *
  by_cases h0 : i < 0
  · go_enter Try.func21, Try.ntmps21
    go_wp2_with fail
    refine H.out.mono ?_
    rintro e w1 ⟨rfl, hb⟩
    go_wp2_with fail
    go_ret2
    exact ⟨rfl, hb⟩
  · have h1 : (n : Int) < i := by omega
    go_enter Try.func21, Try.ntmps21
    go_wp2_with fail
    refine H.out.mono ?_
    rintro e w1 ⟨rfl, hb⟩
    go_wp2_with fail
    go_ret2
    exact ⟨rfl, hb⟩

theorem num_300 (l : List Int) (hv : Valid l) (i : Nat) (hi : i ≤ l.length) : -100000000000000000 ≤ S (numT (at0 l)) i ∧ S (numT (at0 l)) i ≤ 100000000000000000 := by
  have h := S_300 (f := numT (at0 l)) i 330953001644326 (by decide) (by have := hv.1; omega) fun c hc => by
    have := num_bound (at0 l) l.length hv.1 1099511627776 (by decide) (fun c hc => hv.2.at0 c hc) c (by omega)
    omega
  omega

set_option maxHeartbeats 1000000 in
/-- fen.Sum. -/
theorem fsum_any (A : Option Addr) (l : List Int) (c i : Nat) (w : World) (hv : Valid l) (hi : i ≤ l.length) (hL : Lies w w.heap.size A (l.map (.int .i64))) :
    Calls Try.prog 21 #[.slice A l.length c, .int .i64 i] w (Tells8 w (S (numT (at0 l)) i) 0) := by
  have hn := hv.1
  have H := Lib.hid (valid_any A l c w (by omega) hL)
  rw [decide_eq_true hv] at H
  have HL := Lib.hid hL
  have HB := Lib.hid (fun i h => num_300 l hv i h)
  have HX := Lib.hid (fun j h => hv.2.at0 j h)
  have HSt := Lib.hid (fun i (hi : i ≤ 1000000) W => start_any i W hi)
  have HS := Lib.hid (S_tree (at0 l))
  have HG := Lib.hid (at0_get l)
  obtain ⟨r, hr⟩ : ∃ r, r = S (numT (at0 l)) i := ⟨_, rfl⟩
  obtain ⟨hr1, hr2⟩ := num_300 l hv i hi
  rw [← hr] at hr1 hr2 ⊢
  have HR := Lib.hid hr
  clear hv hL hr
  generalize hk : l.length = n at *
  have HN := Lib.hid hk
  clear hk
  have hd0 : decide ((i : Int) < 0) = false := by simp
  have hd1 : decide (n < i) = false := by simp; omega
  go_enter Try.func21, Try.ntmps21
  go_wp2_with fail
  refine H.out.mono ?_
  rintro e w1 ⟨rfl, hb⟩
  have HL1 := Lib.hid (HL.out.on hb)
  clear H HL
  go_wp2_with fail
  go_loopw [1, 6] (fun a s w' => ∃ k d : Nat, k ≤ n ∧ a = .int .i64 k ∧ s = .int .i64 (r - S (numT (at0 l)) k) ∧ w' = w1.drewN d) (fun a _ _ => (intOf a).toNat)
  case atStart => exact ⟨i, 0, hi, rfl, by rw [HR.out]; simp, rfl⟩
  case round =>
    obtain ⟨k, d, hk, rfl, rfl, rfl⟩ := hrel
    by_cases h0 : 0 < k
    · obtain ⟨k, rfl⟩ : ∃ j, k = j + 1 := ⟨k - 1, by omega⟩
      obtain ⟨b, o, x, rfl, hbb, hx, hc⟩ := HL1.out.at_ (k := k) (by rw [HN.out]; omega)
      have hxv := HG.out k x hx
      have hst := HS.out k
      obtain ⟨x1, x2⟩ := HX.out k (by omega)
      rw [hxv] at hst x1 x2
      have hfl := frm_le k
      obtain ⟨b1, b2⟩ := HB.out (k + 1) hk
      have HK := Lib.hid (fun W => HSt.out k (by omega) W)
      have HRel := Lib.hid (show r - S (numT (at0 l)) (k + 1) + x = r - S (numT (at0 l)) (frm k) by omega)
      have hkn : (k : Int) < (n : Int) := by omega
      have hkk : ((k + 1 : Nat) : Int) - 1 = (k : Int) := by omega
      clear hst hxv hx
      have hqk : frm k ≤ n := by omega
      generalize S (numT (at0 l)) (k + 1) = s1 at *
      generalize frm k = q at *
      generalize hs : r - s1 = s at *
      have hs1 : -200000000000000000 ≤ s := by omega
      have hs2 : s ≤ 200000000000000000 := by omega
      clear hs
      go_wp2_with (go_at_call 42; refine (HK.out _).mono ?_; rintro e w' ⟨rfl, rfl⟩)
      go_roundw
      case rel => exact ⟨q, _, by omega, rfl, by rw [← HRel.out], by first | rfl | (simp only [World.drewN_drewN]; rfl)⟩
      case measure => simp [intOf]; omega
    · obtain rfl : k = 0 := by omega
      have hz : r - S (numT (at0 l)) 0 = r := by simp [S]
      rw [hz]
      go_wp2_with fail
      go_ret2
      exact ⟨rfl, bdN hb _⟩
end Go.Proofs.Ytpkclmfadlkbeaa
