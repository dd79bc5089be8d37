/-
  What sky.Sky and sky.Layers return: contracts, walked over the translated text. No condition but what each theorem names.
-/
import Derived.Test.YtpkclmfadlkbeaaJ30
import Derived.Test.YtpkclmfadlkbeaaJ22
namespace Go.Proofs.Ytpkclmfadlkbeaa
open Go.RowKit Go.Sort Words

theorem allR_fits : allR.Fits := by unfold allR Rc4.Fits; decide
set_option maxHeartbeats 1000000 in
/-- byX: the error of points that may not be. -/
theorem byx_err (A : Option Addr) (ps : List Pt3) (c : Nat) (w : World) (hb : ps.length ≤ 17592186044416) (hL : Lies w w.heap.size A (ptC ps)) (he : ptsF ps ≠ 0) :
    Calls Try.prog 28 #[.slice A ps.length c] w (NoGL w (ptsF ps)) := by
  have HG := Lib.hid (greport_err A ps c allR w hb hL he)
  unfold Rc4.val allR at HG
  generalize ptsF ps = z at *
  generalize ps.length = n at *
  clear hL he
  go_enter Try.func28, Try.ntmps28
  go_wp2_with fail
  refine HG.out.mono ?_
  rintro e w1 ⟨rfl, hb1⟩
  go_wp2_with fail
  go_ret2
  exact ⟨rfl, hb1⟩
set_option maxHeartbeats 1000000 in
/-- .. the order. -/
theorem byx_ok (A : Option Addr) (ps : List Pt3) (c : Nat) (w : World) (he : ptsF ps = 0) (hL : Lies w w.heap.size A (ptC ps)) :
    Calls Try.prog 28 #[.slice A ps.length c] w (GivesGL w (ordX ps)) := by
  have HG := Lib.hid (greport_ok A ps c allR w he allR_fits hL)
  rw [ins_all he] at HG
  unfold Rc4.val allR at HG
  unfold ordX GivesGL at *
  generalize ssort (ltP ps ltX) (List.range ps.length) = O at *
  generalize ps.length = n at *
  clear hL he
  go_enter Try.func28, Try.ntmps28
  go_wp2_with fail
  refine HG.out.mono ?_
  rintro e w1 ⟨A2, c2, rfl, h1, h2, h3, h4, h5⟩
  have H1 := Lib.hid h1
  have H2 := Lib.hid h2
  have H3 := Lib.hid h3
  have H4 := Lib.hid h4
  have H5 := Lib.hid h5
  clear h1 h2 h3 h4 h5
  go_wp2_with fail
  go_ret2
  exact ⟨A2, c2, rfl, H1.out, H2.out, H3.out, H4.out, H5.out⟩

set_option maxHeartbeats 1000000 in
/-- sky.Layers: the errors. -/
theorem slay_err (A : Option Addr) (ps : List Pt3) (c : Nat) (w : World) (hb : ps.length ≤ 17592186044416) (hL : Lies w w.heap.size A (ptC ps)) (he : ptsF ps ≠ 0) :
    Calls Try.prog 13 #[.slice A ps.length c] w (NoGL w (ptsF ps)) := by
  have HP := Lib.hid (byx_err A ps c w hb hL he)
  generalize ptsF ps = z at *
  generalize ps.length = n at *
  have hz : (z != 0) = true := by simpa using he
  clear hL he
  go_enter Try.func13, Try.ntmps13
  go_wp2_with fail
  refine HP.out.mono ?_
  rintro e w1 ⟨rfl, hb1⟩
  go_wp2_with fail
  go_ret2
  exact ⟨rfl, hb1⟩
set_option maxHeartbeats 1000000 in
theorem ssky_err (A : Option Addr) (ps : List Pt3) (c : Nat) (w : World) (hb : ps.length ≤ 17592186044416) (hL : Lies w w.heap.size A (ptC ps)) (he : ptsF ps ≠ 0) :
    Calls Try.prog 11 #[.slice A ps.length c] w (NoGL w (ptsF ps)) := by
  have HP := Lib.hid (byx_err A ps c w hb hL he)
  generalize ptsF ps = z at *
  generalize ps.length = n at *
  have hz : (z != 0) = true := by simpa using he
  clear hL he
  go_enter Try.func11, Try.ntmps11
  go_wp2_with fail
  refine HP.out.mono ?_
  rintro e w1 ⟨rfl, hb1⟩
  go_wp2_with fail
  go_ret2
  exact ⟨rfl, hb1⟩

/-- The layers of points, a new row; and no error. -/
def GivesLays (w : World) (ps : List Pt3) (e : Ending) (w' : World) : Prop := ∃ f, IsLay ps f ∧ GivesGL w ((List.range ps.length).map f) e w'
set_option maxHeartbeats 1000000 in
/-- sky.Layers of points that may be. -/
theorem slay_ok (A : Option Addr) (ps : List Pt3) (c : Nat) (w : World) (he : ptsF ps = 0) (hL : Lies w w.heap.size A (ptC ps)) :
    Calls Try.prog 13 #[.slice A ps.length c] w (GivesLays w ps) := by
  have HP := Lib.hid (byx_ok A ps c w he hL)
  have HLy := Lib.hid (fun B cO W (hb : Below w.heap.size w W) (hO : Lies W W.heap.size B (natC (ordX ps))) => layers_any A B ps c cO W he (hL.on hb) hO)
  have hl := ordX_length ps
  unfold GivesGL at HP
  unfold GivesLays GivesGL
  unfold GivesLay at HLy
  rw [hl] at HP
  simp only [List.length_map, List.length_range]
  generalize ordX ps = O at *
  obtain ⟨n, hn⟩ : ∃ n, ps.length = n := ⟨_, rfl⟩
  have HN := Lib.hid hn
  rw [hn] at HP HLy ⊢
  clear hL he hl hn
  go_enter Try.func13, Try.ntmps13
  go_wp2_with fail
  refine HP.out.mono ?_
  rintro e w1 ⟨B, cO, rfl, h1, h2, h3, h4, h5⟩
  have HL1 := Lib.hid (HLy.out B cO w1 h5 h2)
  have HB1 := Lib.hid h5
  clear h1 h2 h3 h4 h5
  go_wp2_with fail
  refine HL1.out.mono ?_
  rintro e w2 ⟨f, v, hf, rfl, hown, hb2⟩
  obtain ⟨A2, c2, rfl, hle, _, hl2, hn2, hnew⟩ := own_slice hown
  have H1 := Lib.hid hle
  have H2 := Lib.hid hl2
  have H3 := Lib.hid hn2
  have H4 := Lib.hid hnew
  have H5 := Lib.hid hb2
  clear hown hle hl2 hn2 hnew hb2
  go_wp2_with fail
  go_ret2
  exact ⟨f, hf, A2, c2, rfl, H1.out, H2.out, H3.out, H4.out.mono HB1.out.size, chain HB1.out H5.out⟩

set_option maxRecDepth 100000 in
set_option maxHeartbeats 2000000 in
/-- sky.Sky of points that may be. -/
theorem ssky_ok (A : Option Addr) (ps : List Pt3) (c : Nat) (w : World) (he : ptsF ps = 0) (hL : Lies w w.heap.size A (ptC ps)) :
    Calls Try.prog 11 #[.slice A ps.length c] w (GivesGL w (skyL ps)) := by
  have HP := Lib.hid (byx_ok A ps c w he hL)
  have HLy := Lib.hid (fun B cO W (hb : Below w.heap.size w W) (hO : Lies W W.heap.size B (natC (ordX ps))) => layers_any A B ps c cO W he (hL.on hb) hO)
  have hl := ordX_length ps
  have HOm := Lib.hid (fun i => ordX_mem ps i)
  have hsk : skyL ps = (ordX ps).filter (freeP ps) := rfl
  have hn150 := (ptsF_zero he).1
  unfold GivesGL at HP ⊢
  unfold GivesLay at HLy
  rw [hl] at HP
  rw [hsk]
  generalize ordX ps = O at *
  obtain ⟨n, hn⟩ : ∃ n, ps.length = n := ⟨_, rfl⟩
  have HN := Lib.hid hn
  rw [hn] at HP HLy hl hn150 ⊢
  have HOl := Lib.hid hl
  clear hL he hl hn hsk
  go_enter Try.func11, Try.ntmps11
  go_wp2_with fail
  refine HP.out.mono ?_
  rintro e w1 ⟨B, cO, rfl, h1, h2, h3, h4, h5⟩
  have HL1 := Lib.hid (HLy.out B cO w1 h5 h2)
  have HB1 := Lib.hid h5
  have HO1 := Lib.hid h2
  clear h1 h2 h3 h4 h5
  go_wp2_with fail
  refine HL1.out.mono ?_
  rintro e w2 ⟨f, v, hf, rfl, hown, hb2⟩
  obtain ⟨A2, c2, rfl, _, _, hl2, _, _⟩ := own_slice hown
  have HL2 := Lib.hid hl2
  have HB2 := Lib.hid (chain HB1.out hb2)
  have HO2 := Lib.hid (HO1.out.on hb2)
  have HF := Lib.hid (fun i (hi : i < n) => hf.free (i := i) (by rw [HN.out]; exact hi))
  clear hown hl2 hb2 hf
  have hsz2 := HB2.out.size
  go_wp2_with fail
  go_loopw [7, 23] (fun v u w' => ∃ i : Nat, i ≤ n ∧ u = .int .i64 i ∧ w'.ownsRow w2.heap.size 3 1 v (pkTo O (freeP ps) i).length (natC (pkTo O (freeP ps) i)) ∧ Below w2.heap.size w2 w') (fun _ u _ => n - (intOf u).toNat)
  case atStart => exact ⟨0, Nat.zero_le _, rfl, World.ownsRow_nil _ _ _ _, Below.refl _ _⟩
  case round =>
    obtain ⟨i, hi, rfl, hown, hbl⟩ := hrel
    have HO := Lib.hid hown
    have HB := Lib.hid hbl
    by_cases hlt : i < n
    · obtain ⟨b, o, x, rfl, hb, hx, hcx⟩ := Lies.at_ (f := fun x : Nat => Value.int .i64 (x : Int)) (l := O) (HO2.out.keep fun q hq => hbl.cell (p := q) (by omega)) (k := i) (by rw [HOl.out]; exact hlt)
      have hxn : x < n := by have := (HOm.out x).1 (List.mem_of_getElem? hx); rw [HN.out] at this; exact this
      obtain ⟨b2, o2, y, rfl, hb2, hy, hcy⟩ := Lies.at_ (f := fun x : Nat => Value.int .i64 (x : Int)) (l := (List.range n).map f) (HL2.out.keep fun q hq => hbl.cell (p := q) (by omega)) (k := x) (by simp; exact hxn)
      obtain rfl : f x = y := by
        rw [List.getElem?_map, List.getElem?_range hxn] at hy
        exact Option.some.inj hy
      have hil : (i : Int) < (n : Int) := by omega
      have hxi : (x : Int) < (n : Int) := by omega
      have HY := Lib.hid (fun h => pkTo_yes (p := freeP ps) hx h)
      have HNo := Lib.hid (fun h => pkTo_no (p := freeP ps) hx h)
      have HPx := HF.out x hxn
      have hkl := pkTo_length O (freeP ps) i
      have hszr := hbl.size
      clear hx hy hown hbl
      generalize f x = y at *
      generalize pkTo O (freeP ps) i = k at *
      obtain ⟨kn, hkn⟩ : ∃ kn, k.length = kn := ⟨_, rfl⟩
      have HKn := Lib.hid hkn
      rw [hkn] at HO hkl
      clear hkn
      by_cases h1 : y = 0
      · have HEq := Lib.hid (HY.out (by rw [HPx, h1]; rfl))
        have hy0 : ((y : Int) == 0) = true := by rw [h1]; rfl
        clear HY HNo HPx h1
        go_wp2_with (at_builtin; go_loud (refine append_one _ rfl (.tmp 32) (.tmp 34) 31 rfl w2.heap.size 3 (.int .i64 0) 8 Try.underlying31 lint_info rfl u7 kn _ rfl (HO.out.alloc _) wr.heap.size 1 (.int .i64 x) rfl (by simp) rfl (by simp only [maxLen]; omega) (by omega) (by simp; omega) ?_))
        intro v1 w3 hown1 hg1
        have HB3 := Lib.hid ((HB.out.alloc hszr _).grown hg1 (by simp; omega) (fun q hq => (HO.out.lt q hq).1))
        have HO3 := Lib.hid hown1
        clear hown1 hg1
        go_wp2_with fail
        go_roundw
        case rel => exact ⟨i + 1, by omega, by go_num, by rw [HEq.out, List.length_append, HKn.out, natC_snoc]; exact HO3.out, HB3.out⟩
        case measure => simp [intOf]; omega
      · have HEq := Lib.hid (HNo.out (by rw [HPx]; simpa using h1))
        have hy0 : ((y : Int) == 0) = false := beq_eq_false_iff_ne.2 fun e => h1 (Int.ofNat.inj e)
        clear HY HNo HPx h1
        go_wp2_with fail
        go_roundw
        case rel => exact ⟨i + 1, by omega, by go_num, by rw [HEq.out, HKn.out]; exact HO.out, HB.out⟩
        case measure => simp [intOf]; omega
    · obtain rfl : n = i := by omega
      have HAl := Lib.hid (show pkTo O (freeP ps) n = O.filter (freeP ps) by rw [← HOl.out]; exact pkTo_all O (freeP ps))
      rw [HAl.out] at HO
      obtain ⟨A3, c3, e3, hle, _, hl3, hn3, hnew⟩ := own_slice HO.out
      have H1 := Lib.hid hle
      have H2 := Lib.hid hl3
      have H3 := Lib.hid hn3
      have H4 := Lib.hid hnew
      clear hown hbl hle hl3 hn3 hnew
      subst e3
      go_wp2_with fail
      go_ret2
      exact ⟨A3, c3, rfl, H1.out, H2.out, H3.out, H4.out.mono hsz2, HB2.out.trans (HB.out.mono hsz2)⟩
end Go.Proofs.Ytpkclmfadlkbeaa
