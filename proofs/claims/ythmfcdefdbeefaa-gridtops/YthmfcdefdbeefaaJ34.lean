/-
  What grid's heap of points does: the closure that it orders by and its five methods, as container/heap wants them; contracts, walked over the translated text. What taking the last point off grid's heap does; the five methods together. No condition but what each theorem names.
-/
import Derived.Test.YthmfcdefdbeefaaJ10
import Derived.Test.YthmfcdefdbeefaaJ02
import Derived.Test.YthmfcdefdbeefaaJ14
import Derived.Test.YthmfcdefdbeefaaJ29
import Derived.Deep.QuietTactic
import Derived.Deep.AppendLies
import Derived.Deep.RegionLaw
import Derived.Deep.RegionHeld3
import Derived.BigQuiet
import Derived.BigRegion
namespace Go.Proofs.Ythmfcdefdbeefaa
open Go.RowKit Go.Sort

set_option maxHeartbeats 2000000 in
/-- The closure. -/
theorem before_any (ps : List Pt3) (g0 : Nat) (A : Option Addr) (c : Nat) (w : World) (i j : Nat) (hi : i < ps.length) (hj : j < ps.length) (hc : w.cell? ⟨g0, 0, none⟩ = some (.slice A ps.length c)) (hL : Lies w w.heap.size A (ptC ps)) :
    Calls Try.prog 51 #[.int .i64 i, .int .i64 j, .pointer (some ⟨g0, 0, none⟩)] w fun e w' => e = .returned (.bool (bfW ps i j)) ∧ ∃ d, w' = w.drewN d := by
  obtain ⟨b, o, rfl, hb1, px, py, pw⟩ := pts_at hL (ptAt_get hi)
  obtain ⟨b2, o2, e2, hb2, qx, qy, qw⟩ := pts_at hL (ptAt_get hj)
  obtain ⟨rfl, rfl⟩ : b = b2 ∧ o = o2 := by injection e2 with e2; injection e2 with x1 x2; exact ⟨x1, x2⟩
  unfold bfW
  generalize (ptAt ps i).w = u at *
  generalize (ptAt ps j).w = v at *
  generalize ps.length = n at *
  have hii : (i : Int) < (n : Int) := by omega
  have hjj : (j : Int) < (n : Int) := by omega
  clear px py qx qy hL e2 hb1 hb2
  by_cases h : u = v
  · subst h
    have h1 : (u != u) = false := by simp
    rw [show (decide (u < u) || (decide (u = u) && decide (j < i))) = decide (j < i) by simp]
    go_enter Try.func51, Try.ntmps51
    go_wp2
    go_quiet (fail)
    go_wp2
    go_ret
    exact ⟨by simp, _, rfl⟩
  · have h1 : (u != v) = true := by simpa using h
    rw [show (decide (u < v) || (decide (u = v) && decide (j < i))) = decide (u < v) by simp [h]]
    go_enter Try.func51, Try.ntmps51
    go_wp2
    go_quiet (fail)
    go_wp2
    go_quiet (fail)
    go_wp2
    go_ret
    exact ⟨rfl, by first | exact ⟨_, rfl⟩ | exact ⟨_, World.drewN_drewN _ _ _⟩⟩

/-- What the heap rests on: the closure's box, the points. -/
structure HpC (w0 : World) (h g0 : Nat) (A : Option Addr) (c : Nat) (ps : List Pt3) : Prop where
  box : w0.cell? ⟨g0, 0, none⟩ = some (.slice A ps.length c)
  at_ : g0 < h
  pts : Lies w0 h A (ptC ps)
/-- A block beside the heap: it stays as it is. -/
structure Aside (q h : Nat) (X : Option Obj) (v : Value) (W : World) : Prop where
  ne : q ≠ h
  off : v.ownBlock ≠ some q
  lt : q < W.heap.size
  is : W.heap[q]? = X
/-- The heap's memory: its struct at block h, its row. -/
def HpM (w0 : World) (h g0 : Nat) (ps : List Pt3) (q : Nat) (X : Option Obj) (d : Array Nat) (W : World) : Prop :=
  ∃ A1 c1, Blk W h 83 [.slice A1 d.size c1, .func (.func 51) #[] #[.pointer (some ⟨g0, 0, none⟩)]] ∧ W.ownsRow (h + 1) 3 1 (.slice A1 d.size c1) d.size (natC d.toList) ∧ Below h w0 W ∧ (∀ x ∈ d.toList, x < ps.length) ∧ Aside q h X (.slice A1 d.size c1) W
theorem HpM.drewN {w0 : World} {h g0 : Nat} {ps : List Pt3} {q : Nat} {X : Option Obj} {d : Array Nat} {W : World} (hM : HpM w0 h g0 ps q X d W) (k : Nat) : HpM w0 h g0 ps q X d (W.drewN k) := by
  obtain ⟨A1, c1, hb, ho, hbl, hx, ha⟩ := hM
  exact ⟨A1, c1, hb.drewN k, own_keep ho fun _ _ => rfl, bdN hbl k, hx, ha.ne, ha.off, ha.lt, ha.is⟩
theorem arr_at (d : Array Nat) {i : Nat} (hi : i < d.size) : d.toList[i]? = some d[i]! := by
  rw [getElem!_pos d i hi, Array.getElem?_toList, Array.getElem?_eq_getElem hi]

set_option maxHeartbeats 1000000 in
theorem hp_len (w0 : World) (h g0 : Nat) (ps : List Pt3) (q : Nat) (X : Option Obj) (d : Array Nat) (W : World) (hM : HpM w0 h g0 ps q X d W) :
    Calls Try.prog 53 #[.pointer (some ⟨h, 0, none⟩)] W fun e w' => e = .returned (.int .i64 (d.size : Nat)) ∧ HpM w0 h g0 ps q X d w' := by
  have HM := Lib.hid hM
  obtain ⟨A1, c1, hb, _, _, _, _⟩ := hM
  have q0 := hb.cell 0
  clear hb
  go_enter Try.func53, Try.ntmps53
  go_wp2
  go_ret
  exact ⟨rfl, HM.out⟩

set_option maxHeartbeats 2000000 in
theorem hp_less (w0 : World) (h g0 : Nat) (A : Option Addr) (c : Nat) (ps : List Pt3) (q : Nat) (X : Option Obj) (hC : HpC w0 h g0 A c ps) (d : Array Nat) (W : World) (i j : Nat) (hM : HpM w0 h g0 ps q X d W) (hi : i < d.size) (hj : j < d.size) :
    Calls Try.prog 145 #[.pointer (some ⟨h, 0, none⟩), .int .i64 i, .int .i64 j] W fun e w' => e = .returned (.bool (bfW ps d[i]! d[j]!)) ∧ HpM w0 h g0 ps q X d w' := by
  have HM := Lib.hid hM
  obtain ⟨A1, c1, hb, ho, hbl, hx, _⟩ := hM
  obtain ⟨g, rfl, _⟩ := own_at ho (by omega)
  have q0 := hb.cell 0
  have q1 := hb.cell 1
  have r0 := own_cell ho (natC_at _ i _ (arr_at d hi))
  have r1 := own_cell ho (natC_at _ j _ (arr_at d hj))
  have xi := hx _ (List.mem_of_getElem? (arr_at d hi))
  have xj := hx _ (List.mem_of_getElem? (arr_at d hj))
  have hlt := hb.lt
  have HB := Lib.hid (fun k => before_any ps g0 A c (W.drewN k) d[i]! d[j]! xi xj ((hbl.cell (p := ⟨g0, 0, none⟩) hC.at_).trans hC.box) (((hC.pts.below hbl).wide (Nat.le_of_lt hlt)).drewN k))
  generalize bfW ps d[i]! d[j]! = z at *
  generalize d[i]! = u at *
  generalize d[j]! = v at *
  have HD := Lib.hid (show ∀ k, HpM w0 h g0 ps q X d (W.drewN k) from fun k => HM.out.drewN k)
  have hii : (i : Int) < (d.size : Int) := by omega
  have hjj : (j : Int) < (d.size : Int) := by omega
  generalize d.size = n at *
  clear hb ho hbl hx hC xi xj HM
  go_enter Try.func145, Try.ntmps145
  go_wp2
  go_quiet (first | exact quietD1 HB | exact quietD2 HB)
  go_wp2
  go_ret
  exact ⟨rfl, HD.out _⟩
theorem swp_list (d : Array Nat) (i j : Nat) : (swp d i j).toList = (d.toList.set i d[j]!).set j d[i]! := by
  unfold swp
  rw [Array.toList_setIfInBounds, Array.toList_setIfInBounds]
theorem set_small {l : List Nat} {n i x : Nat} (h : ∀ y ∈ l, y < n) (hx : x < n) : ∀ y ∈ l.set i x, y < n := fun y hy => by
  rcases List.mem_or_eq_of_mem_set hy with e | e
  · exact h y e
  · rw [e]; exact hx

set_option maxHeartbeats 4000000 in
theorem hp_swap (w0 : World) (h g0 : Nat) (ps : List Pt3) (q : Nat) (X : Option Obj) (d : Array Nat) (W : World) (i j : Nat) (hM : HpM w0 h g0 ps q X d W) (hi : i < d.size) (hj : j < d.size) :
    Calls Try.prog 148 #[.pointer (some ⟨h, 0, none⟩), .int .i64 i, .int .i64 j] W fun e w' => e = .returned (.tuple #[]) ∧ HpM w0 h g0 ps q X (swp d i j) w' := by
  obtain ⟨A1, c1, hb, ho, hbl, hx, ha⟩ := hM
  obtain ⟨g, rfl, hg⟩ := own_at ho (by omega)
  have hqg : q ≠ g := fun e => ha.off (by rw [e]; rfl)
  have HA := Lib.hid (show Aside q h X (.slice (some ⟨g, 0, none⟩) d.size c1) ((W.setCell ⟨g, i, none⟩ (.int .i64 (d[j]! : Nat))).setCell ⟨g, j, none⟩ (.int .i64 (d[i]! : Nat))) from ⟨ha.ne, ha.off, by simpa using ha.lt, ((Below.heap_setCell _ _ _ q hqg).trans (Below.heap_setCell _ _ _ q hqg)).trans ha.is⟩)
  have q0 := hb.cell 0
  have r0 := own_cell ho (natC_at _ i _ (arr_at d hi))
  have r1 := own_cell ho (natC_at _ j _ (arr_at d hj))
  have xi := hx _ (List.mem_of_getElem? (arr_at d hi))
  have xj := hx _ (List.mem_of_getElem? (arr_at d hj))
  have f0 := own_frozen ho i
  have ho1 := own_put ho i (.int .i64 (d[j]! : Nat))
  rw [natC_set] at ho1
  obtain ⟨z, hz⟩ : ∃ z, (d.toList.set i d[j]!)[j]? = some z := ⟨_, List.getElem?_eq_getElem (by rw [List.length_set, Array.length_toList]; exact hj)⟩
  have r2 := own_cell ho1 (natC_at _ j _ hz)
  have f2 := own_frozen ho1 j
  have HO2 := Lib.hid (own_put ho1 j (.int .i64 (d[i]! : Nat)))
  rw [natC_set, ← swp_list] at HO2
  have HB2 := Lib.hid ((hb.far (p := ⟨g, i, none⟩) (by simp; omega) (.int .i64 (d[j]! : Nat))).far (p := ⟨g, j, none⟩) (by simp; omega) (.int .i64 (d[i]! : Nat)))
  have HBl := Lib.hid ((hbl.setCell (p := ⟨g, i, none⟩) (show h ≤ g by omega) (.int .i64 (d[j]! : Nat))).setCell (p := ⟨g, j, none⟩) (show h ≤ g by omega) (.int .i64 (d[i]! : Nat)))
  have HXs := Lib.hid (show ∀ x ∈ (swp d i j).toList, x < ps.length by rw [swp_list]; exact set_small (set_small hx xj) xi)
  have HSz := Lib.hid (size_swp d i j)
  generalize swp d i j = ds at *
  generalize d[i]! = u at *
  generalize d[j]! = v at *
  have hii : (i : Int) < (d.size : Int) := by omega
  have hjj : (j : Int) < (d.size : Int) := by omega
  generalize d.size = n at *
  clear hb ho hbl hx xi xj ho1 hz ha
  go_enter Try.func148, Try.ntmps148
  go_wp2
  go_region
  all_goals
    go_wp2
    go_end0
    exact ⟨rfl, (show HpM w0 h g0 ps q X ds _ from ⟨_, c1, by rw [HSz.out]; exact HB2.out, by rw [HSz.out]; exact HO2.out, HBl.out, HXs.out, by rw [HSz.out]; exact HA.out⟩).drewN 1⟩
theorem hint_info : (Try.prog.info? 3).map (fun i => (i.zero, i.size, i.bytes)) = some (some (.int .i64 0), 1, 8) := by kernel_rfl
theorem new_one (w : World) (t : TypeId) (n : Nat) (hn : w.heap.size = n) (a : Value) : ∀ j u, ([a] : List Value)[j]? = some u → (w.alloc (.cells #[a] t)).cell? ((⟨n, 0, none⟩ : Addr).add j) = some u := by
  intro j u h
  subst hn
  have := (Blk.new w t [a]).cell j
  rw [Addr.add_lit, Nat.zero_add]
  rw [h] at this
  exact this
theorem int_one (x : Int) : ∀ u ∈ ([Value.int .i64 x] : List Value), u.oneCell' = true := by
  intro u hu
  simp only [List.mem_cons, List.not_mem_nil, or_false] at hu
  subst hu
  rfl

theorem run_assert_int (v : Value) (xT : TypeId) (W : World) : (Instr.typeAssert (.iface 3 v) xT 3 false).run Try.prog W = .ok v W := by
  simp [Instr.typeAssert, run_underlying Try.underlying3, go_sem, Result.andThen]

set_option maxRecDepth 100000 in
set_option maxHeartbeats 4000000 in
theorem hp_push (w0 : World) (h g0 : Nat) (ps : List Pt3) (q : Nat) (X : Option Obj) (d : Array Nat) (W : World) (x : Nat) (hM : HpM w0 h g0 ps q X d W) (hxn : x < ps.length) (hsz : d.size ≤ 1000000) :
    Calls Try.prog 147 #[.pointer (some ⟨h, 0, none⟩), .iface 3 (.int .i64 (x : Int))] W fun e w' => e = .returned (.tuple #[]) ∧ HpM w0 h g0 ps q X (d.push x) w' := by
  obtain ⟨A1, c1, hb, ho, hbl, hx, ha⟩ := hM
  have HA := Lib.hid ha
  obtain ⟨i0, hi0, hz0, hz1, hz2⟩ := info_parts hint_info
  have Hi0 := Lib.hid hi0
  have Hz0 := Lib.hid hz0
  have Hz1 := Lib.hid hz1
  have Hz2 := Lib.hid hz2
  have q0 := hb.cell 0
  have HB := Lib.hid hb
  have HO := Lib.hid ho
  have HBl := Lib.hid hbl
  have hlt := hb.lt
  have HXs := Lib.hid (show ∀ y ∈ (d.push x).toList, y < ps.length by
    intro y hy
    rw [Array.toList_push, List.mem_append, List.mem_singleton] at hy
    rcases hy with hy | rfl
    · exact hx y hy
    · exact hxn)
  have hta := fun xT W => run_assert_int (.int .i64 (x : Int)) xT W
  have HSz := Lib.hid (show (d.push x).size = d.size + 1 by simp)
  have HLs := Lib.hid (show natC (d.push x).toList = natC d.toList ++ [.int .i64 (x : Int)] by rw [Array.toList_push, natC_snoc])
  generalize d.push x = ds at *
  generalize d.size = n at *
  clear hi0 hz0 hz1 hz2 hb ho hbl hx hxn ha
  go_enter Try.func147, Try.ntmps147
  go_wp2_with fail
  go_region_law (first
    | ((refine step_append_lies _ (by rfl) _ _ _ (by rfl) (h + 1) 3 i0 _ 1 8 Try.underlying31 Hi0.out Hz0.out Hz1.out Hz2.out rfl (by omega) (.slice A1 n c1) n _ (by rfl) (by exact HO.out.alloc _) ⟨W.heap.size, 0, none⟩ 1 1 [.int .i64 (x : Int)] (by rfl) (by rfl) (new_one _ _ _ rfl _) (int_one _) (by omega) (by simp only [maxLen]; omega) (by omega) (by simp; omega) (W.heap.size + 1) (by simp) ?_; intro gg cap w2 hown2 hgrow hat hlt2; have hb2 : Blk w2 h 83 [.slice A1 n c1, .func (.func 51) #[] #[.pointer (some ⟨g0, 0, none⟩)]] := (hgrow.block h (by simp; omega) (fun e => by have := (HO.out.lt _ e.symm).1; omega)).trans (HB.out.drew.alloc _); have c0 := hb2.cell 0; have f0 := hb2.frozen 0)))
  all_goals
    have HB2 := Lib.hid (hb2.put 0 (.slice (some ⟨gg, 0, none⟩) (n + 1) cap))
    have HBe := Lib.hid (Below.grown ((HBl.out.drew).alloc (by show h ≤ W.heap.size; omega) _) hgrow (by simp; omega) (fun q hq => by have := (HO.out.lt q hq).1; omega))
    have hgg : h + 1 ≤ gg := (hown2.lt gg rfl).1
    have HO2 := Lib.hid (own_keep hown2 (w' := w2.setCell ⟨h, 0, none⟩ (.slice (some ⟨gg, 0, none⟩) (n + 1) cap)) (fun q hq => Below.heap_setCell w2 _ _ q (fun e => by have := (hown2.lt q hq).1; simp at e; omega)))
    have hqb : w2.heap[q]? = X := (hgrow.block q (by have := HA.out.lt; simp; omega) (fun e => HA.out.off e.symm)).trans (((Below.heap_alloc W.drew _ q HA.out.lt)).trans HA.out.is)
    have HA2 := Lib.hid (show Aside q h X (.slice (some ⟨gg, 0, none⟩) (n + 1) cap) (w2.setCell ⟨h, 0, none⟩ (.slice (some ⟨gg, 0, none⟩) (n + 1) cap)) from ⟨HA.out.ne, fun e => by
      have e2 : gg = q := Option.some.inj e
      have h1 := HA.out.lt
      rcases hat with e3 | e3
      · exact HA.out.off (by rw [← e2]; exact e3)
      · omega, by have := hgrow.size; have h1 := HA.out.lt; simp at this ⊢; omega, (Below.heap_setCell _ _ _ q HA.out.ne).trans hqb⟩)
    clear hb2 hown2 hgrow hat hqb
    go_wp2_with fail
    go_end0
    exact ⟨rfl, some ⟨gg, 0, none⟩, cap, by rw [HSz.out]; exact HB2.out, by rw [HSz.out, HLs.out]; exact HO2.out, HBe.out.setCell (Nat.le_refl _) _, HXs.out, by rw [HSz.out]; exact HA2.out⟩
end Go.Proofs.Ythmfcdefdbeefaa

namespace Go.Proofs.Ythmfcdefdbeefaa
open Go.RowKit Go.Sort

set_option maxRecDepth 100000 in
set_option maxHeartbeats 2000000 in
theorem hp_pop (w0 : World) (h g0 : Nat) (ps : List Pt3) (q : Nat) (X : Option Obj) (d : Array Nat) (W : World) (x : Nat) (hM : HpM w0 h g0 ps q X (d.push x) W) (hbd : d.size ≤ 1000000) :
    Calls Try.prog 146 #[.pointer (some ⟨h, 0, none⟩)] W fun e w' => e = .returned (.iface 3 (.int .i64 (x : Int))) ∧ HpM w0 h g0 ps q X d w' := by
  obtain ⟨A1, c1, hb, ho, hbl, hx, ha⟩ := hM
  have hsz : (d.push x).size = d.size + 1 := by simp
  obtain ⟨g, rfl, hg⟩ := own_at ho (by omega)
  have hle : (d.push x).size ≤ c1 := by
    obtain ⟨_, _, e, hle, _⟩ := own_slice ho
    injection e with _ _ e
    omega
  have q0 := hb.cell 0
  have f0 := hb.frozen 0
  have r0 := own_cell ho (natC_at _ d.size x (by rw [Array.toList_push, List.getElem?_append_right (by simp)]; simp))
  have hsl := slice_upto (P := Try.prog) (A := some ⟨g, 0, none⟩) (n := (d.push x).size) (c := c1) (a := d.size) 31 (by kernel_rfl) (fun W => by kernel_rfl) (by omega) (fun e => by cases e) (fun ad e => ⟨g, 0, (Option.some.inj e).symm⟩)
  have HCut := Lib.hid (own_cut ho (m := d.size) (by omega))
  have HLs := Lib.hid (show (natC (d.push x).toList).take d.size = natC d.toList by
    rw [Array.toList_push, natC_append, List.take_append_of_le_length (by rw [natC_length, Array.length_toList]; exact Nat.le_refl _), List.take_of_length_le (by rw [natC_length, Array.length_toList]; exact Nat.le_refl _)])
  rw [HLs.out] at HCut
  have HXs := Lib.hid (show ∀ y ∈ d.toList, y < ps.length from fun y hy => hx y (by rw [Array.toList_push]; exact List.mem_append_left _ hy))
  rw [hsz] at hb q0 hsl hle
  have HB2 := Lib.hid (hb.put 0 (.slice (some ⟨g, 0, none⟩) d.size c1))
  have HBl := Lib.hid (hbl.setCell (p := ⟨h, 0, none⟩) (Nat.le_refl _) (.slice (some ⟨g, 0, none⟩) d.size c1))
  have HO2 := Lib.hid (own_keep HCut.out (w' := W.setCell ⟨h, 0, none⟩ (.slice (some ⟨g, 0, none⟩) d.size c1)) (fun q hq => Below.heap_setCell W _ _ q (fun e => by have := (HCut.out.lt q hq).1; simp at e; omega)))
  have HG := Lib.hid (show HpM w0 h g0 ps q X d (W.setCell ⟨h, 0, none⟩ (.slice (some ⟨g, 0, none⟩) d.size c1)) from ⟨_, c1, HB2.out, HO2.out, HBl.out, HXs.out, ha.ne, ha.off, by simpa using ha.lt, (Below.heap_setCell _ _ _ q ha.ne).trans ha.is⟩)
  generalize d.size = n at *
  have hn1 : ((n + 1 : Nat) : Int) - 1 = (n : Int) := by omega
  have hni : (n : Int) < ((n + 1 : Nat) : Int) := by omega
  have hmx : n + 1 ≤ 9223372036854775807 := by omega
  clear hb ho hbl hx HLs HCut ha
  obtain ⟨m, hm⟩ : ∃ m, n + 1 = m := ⟨_, rfl⟩
  rw [hm] at q0 hsl hle hn1 hni hmx
  clear hm hsz
  go_enter Try.func146, Try.ntmps146
  go_wp2_with fail
  go_ret
  exact ⟨rfl, HG.out⟩

theorem has_len (rv : Value) : Has 81 rv "Len" 53 := ⟨fun w => by kernel_rfl, fun args w => enters_of Try.func53 (by kernel_rfl) rfl args w⟩
theorem has_less (rv : Value) : Has 81 rv "Less" 145 := ⟨fun w => by kernel_rfl, fun args w => enters_of Try.func145 (by kernel_rfl) rfl args w⟩
theorem has_swap (rv : Value) : Has 81 rv "Swap" 148 := ⟨fun w => by kernel_rfl, fun args w => enters_of Try.func148 (by kernel_rfl) rfl args w⟩
theorem has_push (rv : Value) : Has 81 rv "Push" 147 := ⟨fun w => by kernel_rfl, fun args w => enters_of Try.func147 (by kernel_rfl) rfl args w⟩
theorem has_pop (rv : Value) : Has 81 rv "Pop" 146 := ⟨fun w => by kernel_rfl, fun args w => enters_of Try.func146 (by kernel_rfl) rfl args w⟩
/-- The five together. -/
theorem hp_heap (w0 : World) (h g0 : Nat) (A : Option Addr) (c : Nat) (ps : List Pt3) (q : Nat) (X : Option Obj) (hC : HpC w0 h g0 A c ps) :
    HeapT 81 (.pointer (some ⟨h, 0, none⟩)) (bfW ps) (fun x : Nat => .iface 3 (.int .i64 (x : Int))) (HpM w0 h g0 ps q X) (fun x => x < ps.length) 53 145 148 147 146 where
  hLen := has_len _
  hLess := has_less _
  hSwap := has_swap _
  hPush := has_push _
  hPop := has_pop _
  len := fun d W hM => hp_len w0 h g0 ps q X d W hM
  less := fun d W i j hM hi hj => hp_less w0 h g0 A c ps q X hC d W i j hM hi hj
  swap := fun d W i j hM hi hj => hp_swap w0 h g0 ps q X d W i j hM hi hj
  push := fun d W x hM hx hs => hp_push w0 h g0 ps q X d W x hM hx hs
  pop := fun d W x hM hs => hp_pop w0 h g0 ps q X d W x hM hs
end Go.Proofs.Ythmfcdefdbeefaa
