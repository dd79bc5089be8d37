/-
  What bits.Select returns: contracts, walked over the translated text. A vector is '.agg #[.int .i64 n, .slice A ws.length c]', its words ws below 2^64 in memory; the library's table lies in its variable as its initialiser lays it ('Tab'). No condition but what each theorem names.
-/
import Derived.Test.YtmlekhgjnhnjlaaDoorBits
import Derived.Test.YtmlekhgjnhnjlaaDoorPopSel
import Derived.Test.YtmlekhgjnhnjlaaDoorSel
namespace Go.Proofs.YtmlekhgjnhnjlaaDoor
open Go.RowKit Words

theorem Tab.lt {w : World} (h : Tab w) : 0 < w.heap.size := cell_lt (h 0 (by omega))
theorem Tab.on {w w' : World} (h : Tab w) (hb : Below w.heap.size w w') : Tab w' := fun j hj => (bcell hb 0 j h.lt).trans (h j hj)
theorem Tab.alloc {w : World} (h : Tab w) (o : Obj) : Tab (w.alloc o) := h.on (bnew w o)

set_option maxHeartbeats 400000 in
/-- bits.marked, the one bits. -/
theorem marked_true (n : Int) (j : Nat) (A : Option Addr) (k : Nat) (c b o x : Nat) (w : World) (hA : A = some ⟨b, o, none⟩) (hb : b < w.heap.size) (hj : j < k) (hc : w.cell? ⟨b, o + j, none⟩ = some (.int .u64 x)) :
    Calls Tryd.prog 47 #[.agg #[.int .i64 n, .slice A k c], .int .i64 j, .bool true] w fun e w' => e = .returned (.int .u64 x) ∧ Below w.heap.size w w' := by
  subst hA
  go_enter Tryd.func47, Tryd.ntmps47
  go_wp2
  go_ret
  exact ⟨rfl, bnew _ _⟩

set_option maxHeartbeats 400000 in
/-- bits.marked, the zero bits. -/
theorem marked_false (m : Nat) (j : Nat) (A : Option Addr) (k : Nat) (c b o x : Nat) (w : World) (hA : A = some ⟨b, o, none⟩) (hm : m ≤ 4096) (hb : b < w.heap.size) (hj : j < k) (hk : k ≤ 64) (hx : x < 18446744073709551616) (hc : w.cell? ⟨b, o + j, none⟩ = some (.int .u64 x)) :
    Calls Tryd.prog 47 #[.agg #[.int .i64 m, .slice A k c], .int .i64 j, .bool false] w fun e w' => e = .returned (.int .u64 ((18446744073709551615 - x) % 2 ^ min (m - 64 * j) 64 : Nat)) ∧ Below w.heap.size w w' := by
  subst hA
  have HV := Lib.hid (fun w => within_any m j w hm (by omega))
  have hn := not_int x hx
  have hand := and_mask_int (18446744073709551615 - x) (min (m - 64 * j) 64) (by omega) (by omega)
  generalize (18446744073709551615 - x) % 2 ^ min (m - 64 * j) 64 = y at *
  generalize 2 ^ min (m - 64 * j) 64 - 1 = q at *
  generalize 18446744073709551615 - x = z at *
  go_enter Tryd.func47, Tryd.ntmps47
  go_wp2
  go_quiet ((go_at_call 52; first | exact quiet1 HV | exact quiet2 HV))
  go_wp2
  go_ret
  exact ⟨rfl, bdN (bnew _ _) _⟩

/-- bits.marked: a word of marks. -/
theorem marked_any (m : Nat) (one : Bool) (j : Nat) (A : Option Addr) (ws : List Nat) (c : Nat) (hV : Valid m ws) (hj : j < ws.length) {W : World} (hW : Words64 W W.heap.size A ws) :
    ∃ y, marks ws m one j y ∧ ∀ w, Words64 w w.heap.size A ws → Calls Tryd.prog 47 #[.agg #[.int .i64 m, .slice A ws.length c], .int .i64 j, .bool one] w fun e w' => e = .returned (.int .u64 y) ∧ Below w.heap.size w w' := by
  obtain ⟨b, o, x, hA, hb, hx, hlt, hc⟩ := hW.at_ hj
  have hl := hV.len
  have hm := hV.hi
  cases one with
  | true =>
    refine ⟨x, marks_true ws m j x hV hx hlt, fun w h => ?_⟩
    obtain ⟨b', o', x', hA', hb', hx', hlt', hc'⟩ := h.at_ hj
    rw [hx] at hx'
    obtain rfl := Option.some.inj hx'
    exact marked_true m j A ws.length c b' o' x w hA' hb' hj hc'
  | false =>
    refine ⟨_, marks_false ws m j x hx hlt, fun w h => ?_⟩
    obtain ⟨b', o', x', hA', hb', hx', hlt', hc'⟩ := h.at_ hj
    rw [hx] at hx'
    obtain rfl := Option.some.inj hx'
    exact marked_false m j A ws.length c b' o' x w hA' hm hb' hj (by omega) hlt' hc'

set_option maxHeartbeats 400000 in
/-- bits.Select of what is not valid. -/
theorem bsel_form (n k : Int) (one : Bool) (A : Option Addr) (ws : List Nat) (c : Nat) (w : World) (hV : ∀ m : Nat, n = m → ¬ Valid m ws) (hW : Words64 w w.heap.size A ws) :
    Calls Tryd.prog 37 #[.agg #[.int .i64 n, .slice A ws.length c], .bool one, .int .i64 k] w fun e w' => e = .returned (.tuple #[.int .i64 0, .int .i64 4]) ∧ Below w.heap.size w w' := by
  have HM := Lib.hid (fun W (h : Words64 W W.heap.size A ws) => may_no n A ws c W hV h)
  have HW := Lib.hid hW
  clear hW hV
  go_enter Tryd.func37, Tryd.ntmps37
  go_wp2_with (go_at_call 46; refine (HM.out _ (by exact HW.out.alloc _)).mono ?_; rintro e w1 ⟨rfl, hb1⟩)
  go_ret2
  exact ⟨rfl, chain (bnew _ _) hb1⟩

set_option maxHeartbeats 400000 in
/-- bits.Select at a negative number. -/
theorem bsel_neg (m : Nat) (k : Int) (one : Bool) (A : Option Addr) (ws : List Nat) (c : Nat) (w : World) (hV : Valid m ws) (hW : Words64 w w.heap.size A ws) (hk : k < 0) :
    Calls Tryd.prog 37 #[.agg #[.int .i64 m, .slice A ws.length c], .bool one, .int .i64 k] w fun e w' => e = .returned (.tuple #[.int .i64 0, .int .i64 2]) ∧ Below w.heap.size w w' := by
  have HM := Lib.hid (fun W (h : Words64 W W.heap.size A ws) => may_yes m A ws c W hV h)
  have HW := Lib.hid hW
  clear hW hV
  go_enter Tryd.func37, Tryd.ntmps37
  go_wp2_with (go_at_call 46; refine (HM.out _ (by exact HW.out.alloc _)).mono ?_; rintro e w1 ⟨rfl, hb1⟩)
  go_ret2
  exact ⟨rfl, chain (bnew _ _) hb1⟩

set_option maxHeartbeats 1000000 in
/-- bits.Select where there are too few such bits. -/
theorem bsel_none (m k : Nat) (one : Bool) (A : Option Addr) (ws : List Nat) (c : Nat) (w : World) (hV : Valid m ws) (hW : Words64 w w.heap.size A ws) (hkk : k ≤ 9223372036854775807) (hk : tally (kind ws m one) m ≤ k) :
    Calls Tryd.prog 37 #[.agg #[.int .i64 m, .slice A ws.length c], .bool one, .int .i64 k] w fun e w' => e = .returned (.tuple #[.int .i64 0, .int .i64 7]) ∧ Below w.heap.size w w' := by
  have HM := Lib.hid (fun W (h : Words64 W W.heap.size A ws) => may_yes m A ws c W hV h)
  have HW := Lib.hid hW
  have HV := Lib.hid hV
  have HK := Lib.hid hk
  have hl64 : ws.length ≤ 64 := by have := hV.len; have := hV.hi; omega
  have hd : decide ((k : Int) < 0) = false := by simp
  clear hW hV hk
  go_enter Tryd.func37, Tryd.ntmps37
  go_wp2_with (go_at_call 46; refine (HM.out _ (by exact HW.out.alloc _)).mono ?_; rintro e w1 ⟨rfl, hb1⟩; have hc1 := bcell hb1)
  have hbox : Blk w1 w.heap.size 26 [.int .i64 m, .slice A ws.length c] := (Blk.new w 26 [.int .i64 m, .slice A ws.length c]).below hb1 (by simp)
  have HW1 := Lib.hid ((HW.out.alloc (.cells #[.int .i64 m, .slice A ws.length c] 26)).on hb1)
  have HB1 := Lib.hid (chain (bnew _ _) hb1)
  clear hb1 hc1
  generalize hL : ws.length = L at *
  have HL := Lib.hid hL
  clear hL
  go_loopw [2, 20] (fun v i w' => ∃ j r : Nat, j ≤ L ∧ i = .int .i64 j ∧ v = .int .i64 r ∧ r + tally (kind ws m one) (64 * j) = k ∧ Below w1.heap.size w1 w') (fun _ i _ => L - (intOf i).toNat)
  case atStart => exact ⟨0, k, Nat.zero_le _, rfl, rfl, by simp [tally], Below.refl _ _⟩
  case round =>
    obtain ⟨j, r, hj, rfl, rfl, hr, hbl⟩ := hrel
    have hbox2 := hbox.below hbl hbox.lt
    have hq0 : wr.cell? ⟨w.heap.size, 0, none⟩ = some (.int .i64 m) := hbox2.cell 0
    have hq1 : wr.cell? ⟨w.heap.size, 1, none⟩ = some (.slice A L c) := hbox2.cell 1
    by_cases hlt : j < L
    · obtain ⟨y, hy, hcall⟩ := marked_any m one j A ws c HV.out (by rw [HL.out]; exact hlt) HW1.out
      have hyc := marks_cnt ws m one j y hy 64 (Nat.le_refl _)
      have hmo : tally (kind ws m one) (64 * j + 64) ≤ k := by
        refine Nat.le_trans ?_ HK.out
        by_cases h : 64 * j + 64 ≤ m
        · exact tally_mono _ h
        · rw [tally_kind_past ws m one (by omega)]; exact Nat.le_refl _
      have hyr : cnt y 64 ≤ r := by omega
      have hr9 : r ≤ 9223372036854775807 := by omega
      have HS := Lib.hid (fun W => sel_none y r W hy.1 hyr)
      have HO := Lib.hid (fun W => ones_any y W hy.1)
      have hc64 := cnt_le y 64
      rw [HL.out] at hcall
      have HC := Lib.hid hcall
      have HR : Hid (r - cnt y 64 + tally (kind ws m one) (64 * (j + 1)) = k) := by
        have e : r - cnt y 64 + tally (kind ws m one) (64 * (j + 1)) = k := by rw [show 64 * (j + 1) = 64 * j + 64 by omega]; omega
        exact Lib.hid e
      clear hcall hy hyc hmo hr
      generalize cnt y 64 = z at *
      go_wp2_with fail
      refine (HC.out _ (by exact HW1.out.on hbl)).mono ?_
      rintro e w2 ⟨rfl, hb2⟩
      have HBL := Lib.hid (chain hbl hb2)
      clear hbl hb2 hbox2 hq0 hq1
      go_wp2_with (first | (go_at_call 48; refine (HS.out _).mono ?_; rintro e w' ⟨rfl, rfl⟩) | (go_at_call 49; refine (HO.out _).mono ?_; rintro e w' ⟨rfl, rfl⟩))
      go_roundw
      case rel => exact ⟨j + 1, r - z, by omega, by go_num, by congr 1; omega, HR.out, HBL.out⟩
      case measure => simp [intOf]; omega
    · go_wp2
      go_ret2
      exact ⟨rfl, chain HB1.out hbl⟩

set_option maxHeartbeats 1000000 in
/-- bits.Select: the bit that has exactly k such bits before it. -/
theorem bsel_some (m k p : Nat) (one : Bool) (A : Option Addr) (ws : List Nat) (c : Nat) (w : World) (hT : Tab w) (hV : Valid m ws) (hW : Words64 w w.heap.size A ws) (hp : p < m) (hb : bit ws p = one) (hc : tally (kind ws m one) p = k) :
    Calls Tryd.prog 37 #[.agg #[.int .i64 m, .slice A ws.length c], .bool one, .int .i64 k] w fun e w' => e = .returned (.tuple #[.int .i64 p, .int .i64 0]) ∧ Below w.heap.size w w' := by
  have HM := Lib.hid (fun W (h : Words64 W W.heap.size A ws) => may_yes m A ws c W hV h)
  have HW := Lib.hid hW
  have HV := Lib.hid hV
  have HK := Lib.hid hc
  have HT := Lib.hid hT
  have hl64 : ws.length ≤ 64 := by have := hV.len; have := hV.hi; omega
  have hpl : p < 64 * ws.length := by have := hV.len; omega
  have hm4 := hV.hi
  have hkm : k ≤ 4096 := by have := tally_le (kind ws m one) p; omega
  have hkd : kind ws m one p = true := by rw [kind_in ws m one hp, hb]; simp
  have HKD := Lib.hid hkd
  have hd : decide ((k : Int) < 0) = false := by simp
  clear hW hV hc hb hkd hT
  go_enter Tryd.func37, Tryd.ntmps37
  go_wp2_with (go_at_call 46; refine (HM.out _ (by exact HW.out.alloc _)).mono ?_; rintro e w1 ⟨rfl, hb1⟩; have hc1 := bcell hb1)
  have hbox : Blk w1 w.heap.size 26 [.int .i64 m, .slice A ws.length c] := (Blk.new w 26 [.int .i64 m, .slice A ws.length c]).below hb1 (by simp)
  have HW1 := Lib.hid ((HW.out.alloc (.cells #[.int .i64 m, .slice A ws.length c] 26)).on hb1)
  have HT1 := Lib.hid ((HT.out.alloc (.cells #[.int .i64 m, .slice A ws.length c] 26)).on hb1)
  have HB1 := Lib.hid (chain (bnew _ _) hb1)
  clear hb1 hc1
  generalize hL : ws.length = L at *
  have HL := Lib.hid hL
  clear hL
  go_loopw [2, 20] (fun v i w' => ∃ j r : Nat, j ≤ p / 64 ∧ i = .int .i64 j ∧ v = .int .i64 r ∧ r + tally (kind ws m one) (64 * j) = k ∧ Below w1.heap.size w1 w') (fun _ i _ => L - (intOf i).toNat)
  case atStart => exact ⟨0, k, Nat.zero_le _, rfl, rfl, by simp [tally], Below.refl _ _⟩
  case round =>
    obtain ⟨j, r, hj, rfl, rfl, hr, hbl⟩ := hrel
    have hbox2 := hbox.below hbl hbox.lt
    have hq0 : wr.cell? ⟨w.heap.size, 0, none⟩ = some (.int .i64 m) := hbox2.cell 0
    have hq1 : wr.cell? ⟨w.heap.size, 1, none⟩ = some (.slice A L c) := hbox2.cell 1
    have hjL : j < L := by omega
    have hrk : r ≤ 4096 := by omega
    obtain ⟨y, hy, hcall⟩ := marked_any m one j A ws c HV.out (by rw [HL.out]; exact hjL) HW1.out
    rw [HL.out] at hcall
    have HC := Lib.hid hcall
    clear hcall
    by_cases hlt : j < p / 64
    · have hyc := marks_cnt ws m one j y hy 64 (Nat.le_refl _)
      have hmo : tally (kind ws m one) (64 * j + 64) ≤ k := by
        rw [← HK.out]
        exact tally_mono _ (by omega)
      have hyr : cnt y 64 ≤ r := by omega
      have HS := Lib.hid (fun W => sel_none y r W hy.1 hyr)
      have HO := Lib.hid (fun W => ones_any y W hy.1)
      have hc64 := cnt_le y 64
      have HR : Hid (r - cnt y 64 + tally (kind ws m one) (64 * (j + 1)) = k) := by
        have e : r - cnt y 64 + tally (kind ws m one) (64 * (j + 1)) = k := by rw [show 64 * (j + 1) = 64 * j + 64 by omega]; omega
        exact Lib.hid e
      clear hy hyc hmo hr
      generalize cnt y 64 = z at *
      go_wp2_with fail
      refine (HC.out _ (by exact HW1.out.on hbl)).mono ?_
      rintro e w2 ⟨rfl, hb2⟩
      have HBL := Lib.hid (chain hbl hb2)
      clear hbl hb2 hbox2 hq0 hq1
      go_wp2_with (first | (go_at_call 48; refine (HS.out _).mono ?_; rintro e w' ⟨rfl, rfl⟩) | (go_at_call 49; refine (HO.out _).mono ?_; rintro e w' ⟨rfl, rfl⟩))
      go_roundw
      case rel => exact ⟨j + 1, r - z, by omega, by go_num, by congr 1; omega, HR.out, HBL.out⟩
      case measure => simp [intOf]; omega
    · have hyc := marks_cnt ws m one j y hy (p % 64) (by omega)
      rw [show 64 * j + p % 64 = p by omega, HK.out] at hyc
      have hyb : y.testBit (p % 64) = true := by rw [hy.2 _ (by omega), show 64 * j + p % 64 = p by omega]; exact HKD.out
      have HS := Lib.hid (fun W h => sel_some y r (p % 64) W h hy.1 (by omega) hyb (by omega))
      have HPE := Lib.hid (show ((j * 64 + p % 64 : Nat) : Int) = (p : Int) by omega)
      clear hy hyc hr hyb
      have hpm : p % 64 < 64 := by omega
      generalize p % 64 = b at *
      go_wp2_with fail
      refine (HC.out _ (by exact HW1.out.on hbl)).mono ?_
      rintro e w2 ⟨rfl, hb2⟩
      have HBL := Lib.hid (chain hbl hb2)
      clear hbl hb2 hbox2 hq0 hq1
      go_wp2_with (go_at_call 48; refine (HS.out _ (by exact HT1.out.on HBL.out)).mono ?_; rintro e w' ⟨rfl, rfl⟩)
      go_ret2
      rw [← HPE.out]
      exact ⟨rfl, chain HB1.out HBL.out⟩
end Go.Proofs.YtmlekhgjnhnjlaaDoor
