/-
  What sky.Under returns: contracts, walked over the translated text. No condition but what each theorem names.
-/
import Derived.Test.YtpkclmfadlkbeaaJ25
import Derived.Test.YtpkclmfadlkbeaaJ22
namespace Go.Proofs.Ytpkclmfadlkbeaa
open Go.RowKit Go.Sort Words

set_option maxHeartbeats 1000000 in
/-- sky.Under: the errors. -/
theorem sunder_err (A : Option Addr) (ps : List Pt3) (c : Nat) (i : Int) (w : World) (hb : ps.length ≤ 17592186044416) (hL : Lies w w.heap.size A (ptC ps)) (he : ptsF ps ≠ 0) :
    Calls Try.prog 8 #[.slice A ps.length c, .int .i64 i] w (TellsG w 0 (ptsF ps)) := by
  have HP := Lib.hid (gck_any A ps c w hb hL)
  have hc := ptsF_cases ps
  generalize ptsF ps = z at *
  generalize ps.length = n at *
  have hz : (z != 0) = true := by simpa using he
  clear hL he
  go_enter Try.func8, Try.ntmps8
  go_wp2_with fail
  refine HP.out.mono ?_
  rintro e w1 ⟨rfl, hb1⟩
  go_wp2_with fail
  go_ret2
  exact ⟨rfl, hb1⟩
set_option maxHeartbeats 1000000 in
theorem sunder_out (A : Option Addr) (ps : List Pt3) (c : Nat) (i : Int) (w : World) (hb : ps.length ≤ 17592186044416) (hL : Lies w w.heap.size A (ptC ps)) (he : ptsF ps = 0) (hi : i < 0 ∨ (ps.length : Int) ≤ i) :
    Calls Try.prog 8 #[.slice A ps.length c, .int .i64 i] w (TellsG w 0 2) := by
  have HP := Lib.hid (gck_any A ps c w hb hL)
  rw [he] at HP
  generalize ps.length = n at *
  clear hL he
  rcases hi with hi | hi
  all_goals
    go_enter Try.func8, Try.ntmps8
    go_wp2_with fail
    refine HP.out.mono ?_
    rintro e w1 ⟨rfl, hb1⟩
    go_wp2_with fail
    go_ret2
    exact ⟨rfl, hb1⟩

theorem co_wf {x : Int} (h : coOk x = true) : (Lit.int .i64 x).wf = true := by
  unfold coOk at h
  simp only [Bool.and_eq_true, decide_eq_true_eq] at h
  simp [Lit.wf, IntKind.min, IntKind.max, IntKind.signed, IntKind.bits]
  omega
set_option maxRecDepth 100000 in
set_option maxHeartbeats 2000000 in
/-- sky.Under of a point that there is. -/
theorem sunder_ok (A : Option Addr) (ps : List Pt3) (c : Nat) (i : Nat) (w : World) (hL : Lies w w.heap.size A (ptC ps)) (he : ptsF ps = 0) (hi : i < ps.length) :
    Calls Try.prog 8 #[.slice A ps.length c, .int .i64 i] w (TellsG w (undN ps i : Nat) 0) := by
  have hn := (ptsF_zero he).1
  have HP := Lib.hid (gck_any A ps c w (by omega) hL)
  rw [he] at HP
  obtain ⟨b, o, rfl, hbb, hx, hy, hw⟩ := pts_at hL (ptAt_get hi)
  have hok := (ptsF_zero he).2 _ (List.mem_of_getElem? (ptAt_get hi))
  unfold ptOk at hok
  simp only [Bool.and_eq_true] at hok
  have wx := co_wf hok.1.1
  have wy := co_wf hok.1.2
  have wm : (Lit.int .i64 (-1048576)).wf = true := by decide
  have hu := und_two he i
  have HC1 := Lib.hid (fun W (h : Below w.heap.size w W) => gcount_ok (some ⟨b, o, none⟩) ps c ⟨-1048576, -1048576, (ptAt ps i).x, (ptAt ps i).y⟩ W he ⟨wm, wm, wx, wy⟩ (hL.on h))
  have HC2 := Lib.hid (fun W (h : Below w.heap.size w W) => gcount_ok (some ⟨b, o, none⟩) ps c ⟨(ptAt ps i).x, (ptAt ps i).y, (ptAt ps i).x, (ptAt ps i).y⟩ W he ⟨wx, wy, wx, wy⟩ (hL.on h))
  have hm1 : (insR ps ⟨-1048576, -1048576, (ptAt ps i).x, (ptAt ps i).y⟩).length ≤ 150 := Nat.le_trans (insTo_length _ _ _) hn
  unfold Rc4.val at HC1 HC2
  generalize (insR ps ⟨-1048576, -1048576, (ptAt ps i).x, (ptAt ps i).y⟩).length = m1 at *
  generalize (insR ps ⟨(ptAt ps i).x, (ptAt ps i).y, (ptAt ps i).x, (ptAt ps i).y⟩).length = m2 at *
  generalize undN ps i = u at *
  generalize ptAt ps i = P at *
  have hsub : (m1 : Int) - (m2 : Int) = (u : Int) := by omega
  have hub : u ≤ 150 := by omega
  have hcx := hx
  have hcy := hy
  have HX := Lib.hid hx
  have HY := Lib.hid hy
  generalize ps.length = n at *
  have hin : (i : Int) < (n : Int) := by omega
  clear hL he hu hx hy hw wx wy wm hok
  go_enter Try.func8, Try.ntmps8
  go_wp2_with fail
  refine HP.out.mono ?_
  rintro e w1 ⟨rfl, hb1⟩
  have HB1 := Lib.hid hb1
  replace hcx := (hb1.cell (p := ⟨b, o + i * 3, none⟩) hbb).trans HX.out
  replace hcy := (hb1.cell (p := ⟨b, o + i * 3 + 1, none⟩) hbb).trans HY.out
  clear hb1
  go_wp2_with fail
  go_region_held3 (fun W => W.cell? ⟨b, o + i * 3, none⟩ = some (.int .i64 P.x) ∧ W.cell? ⟨b, o + i * 3 + 1, none⟩ = some (.int .i64 P.y)) (exact ⟨hcx, hcy⟩) (fail)
  all_goals
    have HB2 := Lib.hid HB1.out.drew
    go_wp2_with fail
    refine (HC1.out _ HB2.out).mono ?_
    rintro e w3 ⟨rfl, hb3⟩
    have HB3 := Lib.hid (chain HB2.out hb3)
    clear hb3
    go_wp2_with fail
    refine (HC2.out _ HB3.out).mono ?_
    rintro e w4 ⟨rfl, hb4⟩
    have HB4 := Lib.hid (chain HB3.out hb4)
    clear hb4
    go_wp2_with fail
    go_ret2
    exact ⟨rfl, HB4.out⟩
end Go.Proofs.Ytpkclmfadlkbeaa
