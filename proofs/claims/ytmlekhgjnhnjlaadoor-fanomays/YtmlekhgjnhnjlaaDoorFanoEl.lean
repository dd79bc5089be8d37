/-
  What fano.elements returns: contracts, walked over the translated text. An encoding is '.agg #[.int .i64 Z, .int .i64 n, .int .i64 d, .slice A lw.length c, .int .i64 m, .slice A2 hw.length c2]', its words lw and hw in memory. No condition but what each theorem names; 'Tab': the library's table lies in its variable as its initialiser lays it.
-/
import Derived.Test.YtmlekhgjnhnjlaaDoorFanoE
import Derived.Test.YtmlekhgjnhnjlaaDoorFanoMk
import Derived.Test.YtmlekhgjnhnjlaaDoorBitsSel
import Derived.Test.YtmlekhgjnhnjlaaDoorPackAt
import Derived.Test.YtmlekhgjnhnjlaaDoorWordsEq
import Derived.Deep.RegionHeld3
import Derived.Deep.RegionWith
namespace Go.Proofs.YtmlekhgjnhnjlaaDoor
open Go.RowKit Words

/-- What a reader leaves that found numbers. -/
def GivesNums (w : World) (ns : List Nat) (e : Ending) (w' : World) : Prop :=
  ∃ A c, e = .returned (.tuple #[.slice A ns.length c, .bool true]) ∧ ns.length ≤ c ∧ Lies w' w'.heap.size A (intVals ns) ∧ Below w.heap.size w w'
/-- What a reader leaves that found none. -/
def NoNums (w : World) (e : Ending) (w' : World) : Prop := e = .returned (.tuple #[.slice none 0 0, .bool false]) ∧ Below w.heap.size w w'

set_option maxHeartbeats 1000000 in
/-- fano.elements with a bound that is none. -/
theorem elem_bound (Z n d : Int) (A : Option Addr) (lw : List Nat) (c : Nat) (m : Int) (A2 : Option Addr) (hw : List Nat) (c2 : Nat) (w : World) (hz : Z < 0 ∨ 1048576 < Z) :
    Calls Tryd.prog 24 #[.agg #[.int .i64 Z, .int .i64 n, .int .i64 d, .slice A lw.length c, .int .i64 m, .slice A2 hw.length c2]] w (NoNums w) := by
  have HA := Lib.hid (allowed_no Z · hz)
  clear hz
  generalize lw.length = k at *
  generalize hw.length = k2 at *
  go_enter Tryd.func24, Tryd.ntmps24
  go_wp2_with fail
  go_quiet ((go_at_call 26; exact quiet1 HA))
  go_wp2
  go_ret2
  exact ⟨rfl, bdN (bnew _ _) _⟩

set_option maxHeartbeats 1000000 in
/-- fano.elements with another width. -/
theorem elem_width (B n d : Nat) (A : Option Addr) (lw : List Nat) (c : Nat) (m : Int) (A2 : Option Addr) (hw : List Nat) (c2 : Nat) (w : World) (hB : B ≤ 1048576) (hV : PValid n d lw) (hW : Words64 w w.heap.size A lw) (hd : d ≠ fw n B) :
    Calls Tryd.prog 24 #[.agg #[.int .i64 B, .int .i64 n, .int .i64 d, .slice A lw.length c, .int .i64 m, .slice A2 hw.length c2]] w (NoNums w) := by
  have HA := Lib.hid (allowed_yes B · hB)
  have HM := Lib.hid (fun W hW => pmay_yes n d A lw c W hV hW)
  have HF := Lib.hid (widthFor_any B n · hB hV.hi)
  have HW := Lib.hid hW
  have hne : ((d : Int) != ((fw n B : Nat) : Int)) = true := by simp; omega
  clear hV hW hd
  generalize fw n B = f at *
  generalize lw.length = k at *
  generalize hw.length = k2 at *
  go_enter Tryd.func24, Tryd.ntmps24
  go_wp2_with fail
  have hbx := Blk.new w 28 [.int .i64 B, .int .i64 n, .int .i64 d, .slice A k c, .int .i64 m, .slice A2 k2 c2]
  have HWx := Lib.hid (HW.out.alloc (.cells #[.int .i64 B, .int .i64 n, .int .i64 d, .slice A k c, .int .i64 m, .slice A2 k2 c2] 28))
  have hbw := bnew w (.cells #[.int .i64 B, .int .i64 n, .int .i64 d, .slice A k c, .int .i64 m, .slice A2 k2 c2] 28)
  have hlt := hbx.lt
  generalize w.alloc (.cells #[.int .i64 B, .int .i64 n, .int .i64 d, .slice A k c, .int .i64 m, .slice A2 k2 c2] 28) = w0 at *
  have r0 : w0.cell? ⟨w.heap.size, 0, none⟩ = some (.int .i64 B) := hbx.cell 0
  have r1 : w0.cell? ⟨w.heap.size, 1, none⟩ = some (.int .i64 n) := hbx.cell 1
  have r2 : w0.cell? ⟨w.heap.size, 2, none⟩ = some (.int .i64 d) := hbx.cell 2
  have r3 : w0.cell? ⟨w.heap.size, 3, none⟩ = some (.slice A k c) := hbx.cell 3
  clear hbx
  go_region_held3 (fun w' => w'.cell? ⟨w.heap.size, 0, none⟩ = some (.int .i64 B) ∧ w'.cell? ⟨w.heap.size, 1, none⟩ = some (.int .i64 n) ∧ w'.cell? ⟨w.heap.size, 2, none⟩ = some (.int .i64 d) ∧ w'.cell? ⟨w.heap.size, 3, none⟩ = some (.slice A k c))
    (first | exact ⟨r0, r1, r2, r3⟩ | exact ⟨(hc1 _ _ hlt).trans r0, (hc1 _ _ hlt).trans r1, (hc1 _ _ hlt).trans r2, (hc1 _ _ hlt).trans r3⟩)
    (first
      | (go_at_call 26; refine (HA.out _).mono ?_; rintro e w' ⟨rfl, rfl⟩)
      | (go_at_call 28; refine (HF.out _).mono ?_; rintro e w' ⟨rfl, rfl⟩)
      | (go_at_call 36; refine (HM.out _ (by exact HWx.out.drew)).mono ?_; rintro e w1 ⟨rfl, hb1⟩; have hc1 : ∀ b o, b < w0.heap.size → w1.cell? ⟨b, o, none⟩ = w0.cell? ⟨b, o, none⟩ := fun b o h => bcell hb1 b o h))
  go_wp2
  go_ret2
  exact ⟨rfl, chain hbw.drew hb1⟩

set_option linter.unusedSimpArgs false in
set_option maxRecDepth 100000 in
set_option maxHeartbeats 1000000 in
/-- fano.elements with low parts that are no array. -/
theorem elem_low (B : Nat) (n d : Int) (A : Option Addr) (lw : List Nat) (c : Nat) (m : Int) (A2 : Option Addr) (hw : List Nat) (c2 : Nat) (w : World) (hB : B ≤ 1048576) (hV : ∀ a b : Nat, n = a → d = b → ¬ PValid a b lw) (hW : Words64 w w.heap.size A lw) :
    Calls Tryd.prog 24 #[.agg #[.int .i64 B, .int .i64 n, .int .i64 d, .slice A lw.length c, .int .i64 m, .slice A2 hw.length c2]] w (NoNums w) := by
  have HA := Lib.hid (allowed_yes B · hB)
  have HM := Lib.hid (fun W hW => pmay_no n d A lw c W hV hW)
  have HW := Lib.hid hW
  clear hV hW
  generalize lw.length = k at *
  generalize hw.length = k2 at *
  go_enter Tryd.func24, Tryd.ntmps24
  go_wp2_with fail
  have hbx := Blk.new w 28 [.int .i64 B, .int .i64 n, .int .i64 d, .slice A k c, .int .i64 m, .slice A2 k2 c2]
  have HWx := Lib.hid (HW.out.alloc (.cells #[.int .i64 B, .int .i64 n, .int .i64 d, .slice A k c, .int .i64 m, .slice A2 k2 c2] 28))
  have hbw := bnew w (.cells #[.int .i64 B, .int .i64 n, .int .i64 d, .slice A k c, .int .i64 m, .slice A2 k2 c2] 28)
  have hlt := hbx.lt
  generalize w.alloc (.cells #[.int .i64 B, .int .i64 n, .int .i64 d, .slice A k c, .int .i64 m, .slice A2 k2 c2] 28) = w0 at *
  have r0 : w0.cell? ⟨w.heap.size, 0, none⟩ = some (.int .i64 B) := hbx.cell 0
  have r1 : w0.cell? ⟨w.heap.size, 1, none⟩ = some (.int .i64 n) := hbx.cell 1
  have r2 : w0.cell? ⟨w.heap.size, 2, none⟩ = some (.int .i64 d) := hbx.cell 2
  have r3 : w0.cell? ⟨w.heap.size, 3, none⟩ = some (.slice A k c) := hbx.cell 3
  clear hbx
  refine wp_region_held_drew (S := fun w' => w'.cell? ⟨w.heap.size, 0, none⟩ = some (.int .i64 B) ∧ w'.cell? ⟨w.heap.size, 1, none⟩ = some (.int .i64 n) ∧ w'.cell? ⟨w.heap.size, 2, none⟩ = some (.int .i64 d) ∧ w'.cell? ⟨w.heap.size, 3, none⟩ = some (.slice A k c)) (by kernel_rfl) ⟨r0, r1, r2, r3⟩ (fun hHeld1 => ?_)
  refine wpAnyH_take (i := 0) (oi := ⟨some 12, _, _, _, _, _⟩) (v := ?_) rfl (by kernel_rfl) (by kernel_rfl) (by kernel_rfl) (fun _ _ _ h => h) (Or.inl ⟨by kernel_rfl, ?_⟩) (by assumption) ?_
  rotate_left
  · (intro w hSw; (try dsimp only at hSw); go_simp; (try with_reducible rfl))
  try simp only [Act.put, List.setIfInBounds_toArray, List.set_cons_zero, List.set_cons_succ]
  refine wpAnyH_take (i := 1) (oi := ⟨some 13, _, _, _, _, _⟩) (v := ?_) rfl (by kernel_rfl) (by kernel_rfl) (by kernel_rfl) (fun _ _ _ h => h) (Or.inl ⟨by kernel_rfl, ?_⟩) (by assumption) ?_
  rotate_left
  · (intro w hSw; (try dsimp only at hSw); go_simp; (try with_reducible rfl))
  try simp only [Act.put, List.setIfInBounds_toArray, List.set_cons_zero, List.set_cons_succ]
  refine wpAnyH_ready (rs := [2]) (by kernel_rfl) (by simp) ?_
  refine AllReadyH.cons (o := ⟨some 14, _, _, _, _, _⟩) rfl (fun K hK => ?_) AllReadyH.nil
  go_simp
  refine (HA.out _).mono ?_
  rintro e w' ⟨rfl, rfl⟩
  go_wp2_with fail
  refine hK.out _ _ ⟨r0, r1, r2, r3⟩ (fun hHeld2 => ?_)
  clear hK K
  try simp only [Act.put, List.setIfInBounds_toArray, List.set_cons_zero, List.set_cons_succ]
  refine wpAnyH_take (i := 3) (oi := ⟨some 15, _, _, _, _, _⟩) (v := ?_) rfl (by kernel_rfl) (by kernel_rfl) (by kernel_rfl) (fun _ _ _ h => h) (Or.inl ⟨by kernel_rfl, ?_⟩) (by assumption) ?_
  rotate_left
  · (intro w hSw; (try dsimp only at hSw); go_simp; (try with_reducible rfl))
  try simp only [Act.put, List.setIfInBounds_toArray, List.set_cons_zero, List.set_cons_succ]
  refine wpAnyH_take (i := 4) (oi := ⟨some 16, _, _, _, _, _⟩) (v := ?_) rfl (by kernel_rfl) (by kernel_rfl) (by kernel_rfl) (fun _ _ _ h => h) (Or.inl ⟨by kernel_rfl, ?_⟩) (by assumption) ?_
  rotate_left
  · (intro w hSw; (try dsimp only at hSw); go_simp; (try with_reducible rfl))
  try simp only [Act.put, List.setIfInBounds_toArray, List.set_cons_zero, List.set_cons_succ]
  refine wpAnyH_take (i := 5) (oi := ⟨some 17, _, _, _, _, _⟩) (v := ?_) rfl (by kernel_rfl) (by kernel_rfl) (by kernel_rfl) (fun _ _ _ h => h) (Or.inl ⟨by kernel_rfl, ?_⟩) (by assumption) ?_
  rotate_left
  · (intro w hSw; (try dsimp only at hSw); go_simp; (try with_reducible rfl))
  try simp only [Act.put, List.setIfInBounds_toArray, List.set_cons_zero, List.set_cons_succ]
  refine wpAnyH_take (i := 6) (oi := ⟨some 18, _, _, _, _, _⟩) (v := ?_) rfl (by kernel_rfl) (by kernel_rfl) (by kernel_rfl) (fun _ _ _ h => h) (Or.inl ⟨by kernel_rfl, ?_⟩) (by assumption) ?_
  rotate_left
  · (intro w hSw; (try dsimp only at hSw); go_simp; (try with_reducible rfl))
  try simp only [Act.put, List.setIfInBounds_toArray, List.set_cons_zero, List.set_cons_succ]
  refine wpAnyH_ready (rs := [7]) (by kernel_rfl) (by simp) ?_
  refine AllReadyH.cons (o := ⟨some 19, _, _, _, _, _⟩) rfl (fun K hK => ?_) AllReadyH.nil
  go_simp
  refine (HM.out _ (by exact HWx.out.drew)).mono ?_
  rintro e w1 ⟨rfl, hb1⟩
  have hc1 : ∀ b o, b < w0.heap.size → w1.cell? ⟨b, o, none⟩ = w0.cell? ⟨b, o, none⟩ := fun b o h => bcell hb1 b o h
  go_wp2_with fail
  refine hK.out _ _ ⟨(hc1 _ _ hlt).trans r0, (hc1 _ _ hlt).trans r1, (hc1 _ _ hlt).trans r2, (hc1 _ _ hlt).trans r3⟩ (fun hHeld3 => ?_)
  clear hK K
  try simp only [Act.put, List.setIfInBounds_toArray, List.set_cons_zero, List.set_cons_succ]
  refine wpAnyH_take (i := 8) (oi := ⟨some 20, _, _, _, _, _⟩) (v := ?_) rfl (by kernel_rfl) (by kernel_rfl) (by kernel_rfl) (fun _ _ _ h => h) (Or.inl ⟨by kernel_rfl, ?_⟩) (by assumption) ?_
  rotate_left
  · (intro w hSw; (try dsimp only at hSw); go_simp; (try with_reducible rfl))
  try simp only [Act.put, List.setIfInBounds_toArray, List.set_cons_zero, List.set_cons_succ]
  refine wpAnyH_take (i := 9) (oi := ⟨some 21, _, _, _, _, _⟩) (v := ?_) rfl (by kernel_rfl) (by kernel_rfl) (by kernel_rfl) (fun _ _ _ h => h) (Or.inl ⟨by kernel_rfl, ?_⟩) (by assumption) ?_
  rotate_left
  · (intro w hSw; (try dsimp only at hSw); go_simp; (try with_reducible rfl))
  try simp only [Act.put, List.setIfInBounds_toArray, List.set_cons_zero, List.set_cons_succ]
  refine wpAnyH_take (i := 10) (oi := ⟨some 22, _, _, _, _, _⟩) (v := ?_) rfl (by kernel_rfl) (by kernel_rfl) (by kernel_rfl) (fun _ _ _ h => h) (Or.inl ⟨by kernel_rfl, ?_⟩) (by assumption) ?_
  rotate_left
  · (intro w hSw; (try dsimp only at hSw); go_simp; (try with_reducible rfl))
  try simp only [Act.put, List.setIfInBounds_toArray, List.set_cons_zero, List.set_cons_succ]
  refine wpAnyH_take (i := 11) (oi := ⟨some 23, _, _, _, _, _⟩) (v := undef) rfl (by kernel_rfl) (by kernel_rfl) (by kernel_rfl) (fun _ _ _ h => h) (Or.inr ⟨by kernel_rfl, rfl⟩) (by assumption) ?_
  try simp only [Act.put, List.setIfInBounds_toArray, List.set_cons_zero, List.set_cons_succ]
  refine wpAnyH_take (i := 12) (oi := ⟨some 24, _, _, _, _, _⟩) (v := undef) rfl (by kernel_rfl) (by kernel_rfl) (by kernel_rfl) (fun _ _ _ h => h) (Or.inr ⟨by kernel_rfl, rfl⟩) (by assumption) ?_
  try simp only [Act.put, List.setIfInBounds_toArray, List.set_cons_zero, List.set_cons_succ]
  refine wpAnyH_take (i := 13) (oi := ⟨some 25, _, _, _, _, _⟩) (v := undef) rfl (by kernel_rfl) (by kernel_rfl) (by kernel_rfl) (fun _ _ _ h => h) (Or.inr ⟨by kernel_rfl, rfl⟩) (by assumption) ?_
  try simp only [Act.put, List.setIfInBounds_toArray, List.set_cons_zero, List.set_cons_succ]
  refine wpAnyH_take (i := 14) (oi := ⟨some 26, _, _, _, _, _⟩) (v := undef) rfl (by kernel_rfl) (by kernel_rfl) (by kernel_rfl) (fun _ _ _ h => h) (Or.inr ⟨by kernel_rfl, rfl⟩) (by assumption) ?_
  try simp only [Act.put, List.setIfInBounds_toArray, List.set_cons_zero, List.set_cons_succ]
  refine wpAnyH_take (i := 15) (oi := ⟨some 27, _, _, _, _, _⟩) (v := undef) rfl (by kernel_rfl) (by kernel_rfl) (by kernel_rfl) (fun _ _ _ h => h) (Or.inr ⟨by kernel_rfl, rfl⟩) (by assumption) ?_
  try simp only [Act.put, List.setIfInBounds_toArray, List.set_cons_zero, List.set_cons_succ]
  refine wpAnyH_take (i := 16) (oi := ⟨some 28, _, _, _, _, _⟩) (v := undef) rfl (by kernel_rfl) (by kernel_rfl) (by kernel_rfl) (fun _ _ _ h => h) (Or.inr ⟨by kernel_rfl, rfl⟩) (by assumption) ?_
  try simp only [Act.put, List.setIfInBounds_toArray, List.set_cons_zero, List.set_cons_succ]
  refine wpAnyH_take (i := 17) (oi := ⟨some 29, _, _, _, _, _⟩) (v := undef) rfl (by kernel_rfl) (by kernel_rfl) (by kernel_rfl) (fun _ _ _ h => h) (Or.inr ⟨by kernel_rfl, rfl⟩) (by assumption) ?_
  try simp only [Act.put, List.setIfInBounds_toArray, List.set_cons_zero, List.set_cons_succ]
  refine wpAnyH_take (i := 18) (oi := ⟨some 30, _, _, _, _, _⟩) (v := undef) rfl (by kernel_rfl) (by kernel_rfl) (by kernel_rfl) (fun _ _ _ h => h) (Or.inr ⟨by kernel_rfl, rfl⟩) (by assumption) ?_
  try simp only [Act.put, List.setIfInBounds_toArray, List.set_cons_zero, List.set_cons_succ]
  refine wpAnyH_take (i := 19) (oi := ⟨some 31, _, _, _, _, _⟩) (v := undef) rfl (by kernel_rfl) (by kernel_rfl) (by kernel_rfl) (fun _ _ _ h => h) (Or.inr ⟨by kernel_rfl, rfl⟩) (by assumption) ?_
  try simp only [Act.put, List.setIfInBounds_toArray, List.set_cons_zero, List.set_cons_succ]
  refine wpAnyH_take (i := 20) (oi := ⟨some 32, _, _, _, _, _⟩) (v := undef) rfl (by kernel_rfl) (by kernel_rfl) (by kernel_rfl) (fun _ _ _ h => h) (Or.inr ⟨by kernel_rfl, rfl⟩) (by assumption) ?_
  try simp only [Act.put, List.setIfInBounds_toArray, List.set_cons_zero, List.set_cons_succ]
  refine wpAnyH_take (i := 21) (oi := ⟨some 33, _, _, _, _, _⟩) (v := ?_) rfl (by kernel_rfl) (by kernel_rfl) (by kernel_rfl) (fun _ _ _ h => h) (Or.inl ⟨by kernel_rfl, ?_⟩) (by assumption) ?_
  rotate_left
  · (intro w hSw; (try dsimp only at hSw); go_simp; (try with_reducible rfl))
  try simp only [Act.put, List.setIfInBounds_toArray, List.set_cons_zero, List.set_cons_succ]
  refine wpAnyH_done (by kernel_rfl) ?_ _
  have HB1 := Lib.hid (chain hbw.drew hb1)
  clear hHeld1 hHeld2 hHeld3 hc1 r0 r1 r2 r3 hlt hb1 hbw
  go_wp2
  go_ret2
  exact ⟨rfl, HB1.out⟩
end Go.Proofs.YtmlekhgjnhnjlaaDoor
