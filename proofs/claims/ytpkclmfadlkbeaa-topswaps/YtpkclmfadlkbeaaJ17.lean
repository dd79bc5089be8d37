/-
  What ranks.distinct and ranks.Make return: contracts, walked over the translated text; slices.Sort, Compact and Clone by the library's contracts. No condition but what each theorem names.
-/
import Derived.Test.YtpkclmfadlkbeaaJ14
import Derived.Test.YtpkclmfadlkbeaaJ15
import Derived.Test.YtpkclmfadlkbeaaJ16
import Derived.Test.YtpkclmfadlkbeaaJ13
import Derived.Test.YtpkclmfadlkbeaaJ08
namespace Go.Proofs.Ytpkclmfadlkbeaa
open Go.RowKit Go.Sort Words

theorem rint_info : (Try.prog.info? 3).map (fun i => (i.zero, i.size, i.bytes)) = some (some (.int .i64 0), 1, 8) := by kernel_rfl

/-- A new row of int, its caller's own. -/
def GivesR (w : World) (l : List Int) (e : Ending) (w' : World) : Prop := ∃ v, e = .returned v ∧ w'.ownsRow w.heap.size 3 1 v l.length (l.map (.int .i64)) ∧ Below w.heap.size w w'

/-- slices.Clone. -/
theorem clone_own (A : Option Addr) (l : List Int) (c : Nat) (w : World) (hn : l.length ≤ 1000000) (hL : Lies w w.heap.size A (l.map (.int .i64))) :
    Calls Try.prog 37 #[.slice A l.length c] w (GivesR w l) := by
  cases A with
  | none =>
    have h0 : l = [] := by
      by_cases hne : l.map (Value.int .i64) = []
      · rwa [List.map_eq_nil_iff] at hne
      · obtain ⟨b, o', e', _⟩ := hL hne
        cases e'
    subst h0
    exact (Try.slices_Clone_int_nil _ c w).mono fun _ _ ⟨he, hw⟩ => by subst hw; exact ⟨_, he, World.ownsRow_nil _ _ _ _, Below.refl _ _⟩
  | some ad =>
    by_cases h0 : l = []
    · subst h0
      exact (Try.slices_Clone_int_zero ad c w).mono fun _ _ ⟨v, he, hown, _, hb⟩ => ⟨v, he, hown, hb⟩
    · obtain ⟨b, o, e, hb, hc⟩ := hL (by rw [ne_eq, List.map_eq_nil_iff]; exact h0)
      obtain rfl := Option.some.inj e
      refine (Try.slices_Clone_int b o l.length c l w (Nat.le_refl _) (by omega) (fun j hj => ?_)).mono fun _ _ ⟨v, he, hown, _, hb⟩ => ⟨v, he, by rwa [List.take_length] at hown, hb⟩
      refine hc j _ ?_
      rw [List.getElem?_map, List.getElem?_eq_getElem hj, List.getD_eq_getElem?_getD, List.getElem?_eq_getElem hj]
      rfl

theorem srtd_length (l : List Int) : (srtd l).length = l.length := (srtd_perm l).length_eq
/-- slices.Sort of a row of the call's own. -/
theorem sort_own (base : Nat) (v : Value) (zs : List Int) (w : World) (hown : w.ownsRow base 3 1 v zs.length (zs.map (.int .i64))) (hn : zs.length ≤ 1000000) :
    Calls Try.prog 86 #[v] w fun e w' => e = .returned (.tuple #[]) ∧ w'.ownsRow base 3 1 v (srtd zs).length ((srtd zs).map (.int .i64)) ∧ w.grownBy w' v.ownBlock := by
  rw [srtd_length]
  have hlt := fun q hq => own_lt hown (q := q) hq
  rcases hown.2 with ⟨rfl, h0⟩ | ⟨g, cap, cur, rfl, _⟩
  · have hz : zs = [] := List.eq_nil_of_length_eq_zero h0
    subst hz
    exact (Try.slices_Sort_int_none none 0 w).mono fun _ _ ⟨he, hw⟩ => by subst hw; exact ⟨he, by rw [show srtd [] = [] from List.eq_nil_of_length_eq_zero (srtd_length [])]; exact hown, rfl, rfl, rfl, Nat.le_refl _, fun _ _ _ => rfl⟩
  · exact (Try.slices_Sort_int g 0 cap zs w (holds_own hown) (hlt g rfl) (by omega)).mono fun _ _ ⟨he, m, os, hw⟩ => by
      subst hw
      have h := put_own hown (srtd_length zs) m os
      exact ⟨he, h.1, h.2⟩

/-- slices.Compact of a row of the call's own. -/
theorem compact_own (base : Nat) (A : Option Addr) (c : Nat) (zs : List Int) (w : World) (hown : w.ownsRow base 3 1 (.slice A zs.length c) zs.length (zs.map (.int .i64))) (hn : zs.length ≤ 1000000) :
    Calls Try.prog 87 #[.slice A zs.length c] w fun e w' => e = .returned (.slice A (Lib.compact zs).length c) ∧ w'.ownsRow base 3 1 (.slice A (Lib.compact zs).length c) (Lib.compact zs).length ((Lib.compact zs).map (.int .i64)) ∧ w.grownBy w' (Value.slice A zs.length c).ownBlock := by
  by_cases h0 : zs = []
  · subst h0
    exact (Try.slices_Compact_int_empty A c w).mono fun _ _ ⟨he, hw⟩ => by subst hw; exact ⟨he, hown, rfl, rfl, rfl, Nat.le_refl _, fun _ _ _ => rfl⟩
  · obtain ⟨g, rfl, hg⟩ := own_at hown (List.length_pos_iff.2 h0)
    obtain ⟨_, _, e, hle, _⟩ := own_slice hown
    injection e with _ _ e
    subst e
    refine (Try.slices_Compact_int g 0 c zs w (holds_own hown) (by omega) hle).mono fun _ _ ⟨he, q, hw⟩ => ?_
    subst hw
    have hcl := comp_length_le zs
    have hd : (Lib.compact zs ++ List.replicate (zs.length - (Lib.compact zs).length) (0 : Int)).length = zs.length := by simp; omega
    have h := put_own hown hd q #[]
    rw [grow_empty] at h
    refine ⟨he, ?_, h.2⟩
    have h2 := own_cut h.1 (m := (Lib.compact zs).length) hcl
    rwa [List.map_append, List.take_append_of_le_length (by rw [List.length_map]; exact Nat.le_refl _), List.take_of_length_le (by rw [List.length_map]; exact Nat.le_refl _)] at h2

set_option maxHeartbeats 1000000 in
/-- ranks.distinct. -/
theorem distinct_any (A : Option Addr) (l : List Int) (c : Nat) (w : World) (hn : l.length ≤ 1000000) (hL : Lies w w.heap.size A (l.map (.int .i64))) :
    Calls Try.prog 82 #[.slice A l.length c] w (GivesR w (dst l)) := by
  have H1 := Lib.hid (clone_own A l c w hn hL)
  have H2 := Lib.hid (fun v W hW => sort_own w.heap.size v l W hW hn)
  have H3 := Lib.hid (fun A c W hW => compact_own w.heap.size A c (srtd l) W hW (by rw [srtd_length]; exact hn))
  have HL := srtd_length l
  unfold GivesR at H1 ⊢
  rw [show Lib.compact (srtd l) = dst l from rfl] at H3
  rw [HL] at H2 H3
  obtain ⟨m, hm⟩ : ∃ m, (dst l).length = m := ⟨_, rfl⟩
  rw [hm] at H3 ⊢
  generalize (dst l).map (Value.int .i64) = ds at *
  generalize (srtd l).map (Value.int .i64) = ss at *
  generalize l.map (Value.int .i64) = ls at *
  generalize l.length = n at *
  clear hL HL hm
  go_enter Try.func82, Try.ntmps82
  go_wp2_with fail
  refine H1.out.mono ?_
  rintro e w1 ⟨v, rfl, hown, hb⟩
  have HB := Lib.hid hb
  have HO := Lib.hid hown
  obtain ⟨A1, c1, rfl, _, _, _, _, _⟩ := own_slice hown
  have HS := Lib.hid (H2.out _ w1 HO.out)
  clear hown hb
  go_wp2_with fail
  refine HS.out.mono ?_
  rintro e w2 ⟨rfl, hown2, hg2⟩
  have HB2 := Lib.hid (HB.out.grown hg2 HB.out.size fun q hq => (HO.out.lt q hq).1)
  have HO2 := Lib.hid hown2
  have HC := Lib.hid (H3.out A1 c1 w2 HO2.out)
  clear hown2 hg2
  go_wp2_with fail
  refine HC.out.mono ?_
  rintro e w3 ⟨rfl, hown3, hg3⟩
  go_wp2_with fail
  go_ret
  exact ⟨_, rfl, hown3, HB2.out.grown hg3 HB2.out.size fun q hq => (HO2.out.lt q hq).1⟩

/-- Two lists of int and OK; no lists and an error. -/
def GivesRk (w : World) (vs rs : List Int) (e : Ending) (w' : World) : Prop := ∃ A c A2 c2, e = .returned (.tuple #[.slice A vs.length c, .slice A2 rs.length c2, .int .i64 0]) ∧ Lies w' w'.heap.size A (vs.map (.int .i64)) ∧ (A = none → c = 0) ∧ New w.heap.size A ∧ Lies w' w'.heap.size A2 (rs.map (.int .i64)) ∧ (A2 = none → c2 = 0) ∧ New w.heap.size A2 ∧ Below w.heap.size w w'
def NoRk (w : World) (r : Int) (e : Ending) (w' : World) : Prop := e = .returned (.tuple #[.slice none 0 0, .slice none 0 0, .int .i64 r]) ∧ Below w.heap.size w w'

set_option maxHeartbeats 1000000 in
theorem make_size12 (A : Option Addr) (n c : Nat) (w : World) (hn : 300 < n) (hb : n ≤ 17592186044416) :
    Calls Try.prog 76 #[.slice A n c] w (NoRk w 1) := by
  go_enter Try.func76, Try.ntmps76
  go_wp2_with fail
  go_ret3
  exact ⟨rfl, Below.refl _ _⟩

set_option maxHeartbeats 2000000 in
/-- ranks.Make. -/
theorem make_ranks (A : Option Addr) (l : List Int) (c : Nat) (w : World) (hn : l.length ≤ 300) (hL : Lies w w.heap.size A (l.map (.int .i64))) :
    Calls Try.prog 76 #[.slice A l.length c] w (GivesRk w (dst l) (rks l)) := by
  have HL := Lib.hid hL
  have HD := Lib.hid (distinct_any A l c w (by omega) hL)
  unfold GivesR at HD
  have hdl := dst_length_le l
  have HC := Lib.hid (fun A c x W hW => less_count A (dst l) c x W (by omega) (rise_le (dst_lt l)) hW)
  have HG := Lib.hid (fun i x (h : l[i]? = some x) => show ((rks l).map (Value.int .i64))[i]? = some (Value.int .i64 (cntL (dst l) x : Nat)) by rw [List.getElem?_map, rks_get h]; rfl)
  have HCl := Lib.hid (fun x => cntL_le (dst l) x)
  have HXl := Lib.hid (show ((rks l).map (Value.int .i64)).length = l.length by rw [List.length_map, rks_length])
  have hmk := make_row (P := Try.prog) 31 3 (.int .i64 0) 8 Try.underlying31 rint_info rfl l.length (by omega) (by omega)
  unfold GivesRk
  rw [rks_length]
  obtain ⟨n, hnn⟩ : ∃ n, l.length = n := ⟨_, rfl⟩
  have HN := Lib.hid hnn
  rw [hnn] at hn hdl hmk HXl ⊢
  generalize (rks l).map (Value.int .i64) = xs at *
  generalize (dst l).map (Value.int .i64) = ds at *
  generalize (dst l).length = m at *
  generalize cntL (dst l) = cn at *
  clear hnn hL
  have hd : decide ((300 : Int) < (n : Int)) = false := by simp; omega
  go_enter Try.func76, Try.ntmps76
  go_wp2_with fail
  rw [HN.out] at HD
  refine HD.out.mono ?_
  rintro e w1 ⟨v, rfl, hown, hb⟩
  have HB1 := Lib.hid hb
  obtain ⟨A1, c1, rfl, _, _, hl1, hn1, hnew1⟩ := own_slice hown
  have HL1 := Lib.hid hl1
  have HLa := Lib.hid (HL.out.on hb)
  have HN1 := Lib.hid hn1
  have HW1 := Lib.hid hnew1
  clear hown hb hl1 hn1 hnew1
  go_wp2_with fail
  have hbz := zeros_blk w1 (.int .i64 0) n 3
  have HBl := Lib.hid (bnew w1 (.cells (zeros (.int .i64 0) n) 3))
  generalize w1.alloc (.cells (zeros (.int .i64 0) n) 3) = w2 at *
  have HBz := Lib.hid hbz
  clear hbz hmk
  go_loopw [17] (fun u w' => ∃ i : Nat, i ≤ n ∧ u = .int .i64 i ∧ Blk w' w1.heap.size 3 (fillR xs (.int .i64 0) i) ∧ Below w1.heap.size w1 w') (fun u _ => n - (intOf u).toNat)
  case atStart => exact ⟨0, Nat.zero_le _, rfl, by rw [fillR_zero, HXl.out]; exact HBz.out, HBl.out⟩
  case round =>
    obtain ⟨i, hi, rfl, hbk, hbl⟩ := hrel
    have HBk := Lib.hid hbk
    have HB2 := Lib.hid hbl
    by_cases hlt : i < n
    · obtain ⟨b, o, x, rfl, hb, hx, hc⟩ := (HLa.out.below hbl).at_ (k := i) (by rw [HN.out]; exact hlt)
      have HX := Lib.hid hx
      have hcx := hbk.cell i
      rw [fillR_at _ _ i (by rw [HXl.out]; exact hlt)] at hcx
      have hfz := hbk.frozen i
      have HCx := Lib.hid (HC.out A1 c1 x wr (HL1.out.on hbl))
      have hil : (i : Int) < (n : Int) := by omega
      have HSt := Lib.hid (HBk.out.put i (.int .i64 (cn x : Nat)))
      rw [fillR_step _ _ _ _ (HG.out i x HX.out)] at HSt
      clear hx hbk hbl
      generalize cn x = r at *
      go_wp2_with fail
      refine HCx.out.mono ?_
      rintro e w' ⟨rfl, rfl⟩
      go_wp2_with fail
      go_roundw
      case rel => exact ⟨i + 1, by omega, by go_num, HSt.out, HB2.out.setCell (Nat.le_refl _) _⟩
      case measure => simp [intOf]; omega
    · obtain rfl : n = i := by omega
      have hful : fillR xs (.int .i64 0) n = xs := by rw [← HXl.out]; exact fillR_all _ _
      rw [hful] at hbk
      have HBF := Lib.hid hbk
      have HNew := Lib.hid (HB1.out.size)
      clear hbk hbl hful
      go_wp2_with fail
      go_ret3
      exact ⟨A1, c1, some ⟨w1.heap.size, 0, none⟩, n, rfl, HL1.out.on HB2.out, HN1.out, HW1.out, HBF.out.lies, (fun e => by cases e), (fun ad e => by obtain rfl := Option.some.inj e; exact HNew.out), chain HB1.out HB2.out⟩
end Go.Proofs.Ytpkclmfadlkbeaa
