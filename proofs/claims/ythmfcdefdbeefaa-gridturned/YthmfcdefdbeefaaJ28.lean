/-
  GridSplit of the keeps, grid.Count's contract being given: it returns true; walked over the translated text. GridTurned of the keeps, grid.Count's contract being given: it returns true; walked over the translated text. No condition but what each theorem names.
-/
import Derived.Test.YthmfcdefdbeefaaJ26
import Derived.Test.YthmfcdefdbeefaaJ27
import Derived.Test.YthmfcdefdbeefaaJ02
import Derived.Deep.QuietTactic
import Derived.BigQuiet
import Derived.Deep.RegionHeld3
namespace Go.Proofs.Ythmfcdefdbeefaa
open Go.RowKit

theorem fits_small (a b c d : Int) (ha : -1000 ≤ a ∧ a ≤ 1000) (hb : -1000 ≤ b ∧ b ≤ 1000) (hc : -1000 ≤ c ∧ c ≤ 1000) (hd : -1000 ≤ d ∧ d ≤ 1000) : (⟨a, b, c, d⟩ : Rc4).Fits := by
  have h : ∀ z : Int, -1000 ≤ z ∧ z ≤ 1000 → (Lit.int .i64 z).wf = true := fun z hz => by
    simp [Lit.wf, IntKind.min, IntKind.max, IntKind.signed, IntKind.bits]
    omega
  exact ⟨h a ha, h b hb, h c hc, h d hd⟩
/-- Points below a bound may be. -/
theorem ptsF_of {n b : Nat} (hn : n ≤ 150) (h0 : 0 < b) (hb : b ≤ 1000) (l : List Pt3) : ptsF (ptsOf n b l) = 0 := by
  unfold ptsF
  rw [if_neg (by have := ptsOf_le n b l; omega), if_pos]
  rw [List.all_eq_true]
  intro p hp
  obtain ⟨⟨a1, a2⟩, ⟨a3, a4⟩, a5, a6⟩ := ptsOf_lim (n := n) h0 l p hp
  unfold ptOk coOk
  simp only [Bool.and_eq_true, decide_eq_true_eq]
  omega

/-- Five new blocks, one behind the other. -/
theorem five_boxes (w : World) (t : TypeId) (x0 x1 x2 x3 x4 : List Value) :
    ∃ w0, w0 = ((((w.alloc (.cells x0.toArray t)).alloc (.cells x1.toArray t)).alloc (.cells x2.toArray t)).alloc (.cells x3.toArray t)).alloc (.cells x4.toArray t) ∧
      Blk w0 w.heap.size t x0 ∧ Blk w0 (w.heap.size + 1) t x1 ∧ Blk w0 (w.heap.size + 1 + 1) t x2 ∧ Blk w0 (w.heap.size + 1 + 1 + 1) t x3 ∧ Blk w0 (w.heap.size + 1 + 1 + 1 + 1) t x4 ∧ Below w.heap.size w w0 ∧ w0.heap.size = w.heap.size + 1 + 1 + 1 + 1 + 1 := by
  refine ⟨_, rfl, ((((Blk.new w t x0).alloc _).alloc _).alloc _).alloc _, ?_, ?_, ?_, ?_, ((((bnew w _).alloc (by simp) _).alloc (by simp; omega) _).alloc (by simp; omega) _).alloc (by simp; omega) _, by simp⟩
  · have := (((Blk.new (w.alloc (.cells x0.toArray t)) t x1).alloc (.cells x2.toArray t)).alloc (.cells x3.toArray t)).alloc (.cells x4.toArray t)
    rwa [World.size_alloc] at this
  · have := ((Blk.new ((w.alloc (.cells x0.toArray t)).alloc (.cells x1.toArray t)) t x2).alloc (.cells x3.toArray t)).alloc (.cells x4.toArray t)
    rwa [World.size_alloc, World.size_alloc] at this
  · have := (Blk.new (((w.alloc (.cells x0.toArray t)).alloc (.cells x1.toArray t)).alloc (.cells x2.toArray t)) t x3).alloc (.cells x4.toArray t)
    rwa [World.size_alloc, World.size_alloc, World.size_alloc] at this
  · have := Blk.new ((((w.alloc (.cells x0.toArray t)).alloc (.cells x1.toArray t)).alloc (.cells x2.toArray t)).alloc (.cells x3.toArray t)) t x4
    rwa [World.size_alloc, World.size_alloc, World.size_alloc, World.size_alloc] at this

set_option maxRecDepth 100000 in
set_option maxHeartbeats 4000000 in
/-- damaskkeep.GridSplit. -/
theorem gsplit_any (hC : Counts) (A : Option Addr) (l : List Pt3) (c : Nat) (a1 a2 a3 a4 a5 : Int) (w : World) (hw : ∀ o ∈ l, o.Fits) (h1 : (Lit.int .i64 a1).wf = true) (h2 : (Lit.int .i64 a2).wf = true) (h3 : (Lit.int .i64 a3).wf = true) (h4 : (Lit.int .i64 a4).wf = true) (h5 : (Lit.int .i64 a5).wf = true) (hL : Lies w w.heap.size A (ptC l)) :
    Calls Try.prog 8 #[.slice A l.length c, .int .i64 a1, .int .i64 a2, .int .i64 a3, .int .i64 a4, .int .i64 a5] w fun e w' => e = .returned (.bool true) ∧ Below w.heap.size w w' := by
  have HP : Hid (Calls Try.prog 22 #[.slice A l.length c, .int .i64 80, .int .i64 20] w (GivesPts w (ptsOf 80 20 l))) := Lib.hid (points_any A l c 80 20 w (by decide) (by decide) (by decide) hw hL)
  unfold GivesPts at HP
  have HR : Hid (∀ W, Calls Try.prog 23 #[.int .i64 a1, .int .i64 a2, .int .i64 a3, .int .i64 a4, .int .i64 20] W fun e w' => e = .returned (.agg #[.int .i64 (rcOf a1 a2 a3 a4 20).x0, .int .i64 (rcOf a1 a2 a3 a4 20).y0, .int .i64 (rcOf a1 a2 a3 a4 20).x1, .int .i64 (rcOf a1 a2 a3 a4 20).y1]) ∧ Below W.heap.size W w') := Lib.hid (fun W => rectOf_any a1 a2 a3 a4 20 W (by decide) (by decide) h1 h2 h3 h4)
  obtain ⟨⟨x0, x1, x2⟩, y0, y1, y2⟩ := rcOf_lim a1 a2 a3 a4 (bd := 20) (by decide)
  have hps := ptsF_of (n := 80) (b := 20) (by decide) (by decide) (by decide) l
  have hlim := ptsOf_lim (n := 80) (b := 20) (by decide) l
  have hlen := ptsOf_le 80 20 l
  generalize ptsOf 80 20 l = ps at *
  generalize rcOf a1 a2 a3 a4 20 = r at *
  have HCt := Lib.hid (fun A c r W hr hA hW => counted_any hC A ps c r W hps hr hA hW)
  have HSu := Lib.hid (fun W => sure_any hC W)
  obtain ⟨z, hz⟩ : ∃ z : Nat, (z : Int) = r.x1 - r.x0 + 1 := ⟨(r.x1 - r.x0 + 1).toNat, by omega⟩
  have hpk := pick_lt (n := z) (by omega) a5
  have HPk := Lib.hid (fun W => pick_any a5 z W (by omega) (by omega) h5)
  generalize pick z a5 = q at *
  obtain ⟨m, hm⟩ : ∃ m : Int, r.x0 + (q : Int) = m := ⟨_, rfl⟩
  have HCut := Lib.hid (cut_count ps r m (by omega) (by omega))
  have HAll := Lib.hid (all_count (ps := ps) (r := ⟨0, 0, 19, 19⟩) (fun p hp => inR_iff.2 (by have := hlim p hp; simp only; omega)))
  have HCr := Lib.hid (cross_count (ps := ps) r 20 (by intro p hp; have := hlim p hp; omega))
  have HFl := Lib.hid (fits_small r.x0 r.y0 m r.y1 (by omega) (by omega) (by omega) (by omega))
  have HFr := Lib.hid (fits_small (m + 1) r.y0 r.x1 r.y1 (by omega) (by omega) (by omega) (by omega))
  have HFf := Lib.hid (fits_small r.x0 0 r.x1 19 (by omega) (by omega) (by omega) (by omega))
  have HFt := Lib.hid (fits_small 0 r.y0 19 r.y1 (by omega) (by omega) (by omega) (by omega))
  have HFa := Lib.hid (fits_small 0 0 19 19 (by omega) (by omega) (by omega) (by omega))
  have HF0 := Lib.hid (fits_small r.x0 r.y0 r.x1 r.y1 (by omega) (by omega) (by omega) (by omega))
  clear hC hw hL hps h1 h2 h3 h4 h5
  go_enter Try.func8, Try.ntmps8
  go_wp2_with fail
  refine HP.out.mono ?_
  rintro e w1 ⟨v1, rfl, hown, hb1⟩
  obtain ⟨A1, c1, rfl, hl1, hn1, _⟩ := own_slice_all hown
  have HL1 := Lib.hid hl1
  have HN1 := Lib.hid hn1
  have HB1 := Lib.hid hb1
  clear hown hl1 hn1 hb1
  go_wp2_with fail
  refine (HR.out _).mono ?_
  rintro e w2 ⟨rfl, hb2⟩
  have HB2 := Lib.hid (chain HB1.out hb2)
  have HL2 := Lib.hid (HL1.out.on hb2)
  clear hb2
  go_wp2_with fail
  have HX := Lib.hid (Blk.new w2 27 [.int .i64 r.x0, .int .i64 r.y0, .int .i64 r.x1, .int .i64 r.y1])
  have HL3 := Lib.hid (HL2.out.alloc (.cells #[.int .i64 r.x0, .int .i64 r.y0, .int .i64 r.x1, .int .i64 r.y1] 27))
  have HB3 := Lib.hid (chain HB2.out (bnew w2 (.cells #[.int .i64 r.x0, .int .i64 r.y0, .int .i64 r.x1, .int .i64 r.y1] 27)))
  generalize w2.alloc (.cells #[.int .i64 r.x0, .int .i64 r.y0, .int .i64 r.x1, .int .i64 r.y1] 27) = w3 at *
  have c0 := HX.out.cell 0
  have c1 := HX.out.cell 1
  have c2 := HX.out.cell 2
  have c3 := HX.out.cell 3
  have hz1 : r.x1 - r.x0 + 1 = (z : Int) := by omega
  clear hz
  go_quiet (first | exact quiet1 HPk | exact quiet2 HPk)
  have HX4 := Lib.hid (HX.out.drewN nq)
  have HL4 : Hid (Lies (w3.drewN nq) (w3.drewN nq).heap.size A1 (ptC ps)) := Lib.hid (HL3.out.drewN nq)
  have HB4 := Lib.hid (bdN HB3.out nq)
  clear c0 c1 c2 c3
  generalize w3.drewN nq = w4 at *
  have c0 := HX4.out.cell 0
  have c1 := HX4.out.cell 1
  have c2 := HX4.out.cell 2
  have c3 := HX4.out.cell 3
  have hlt := HX4.out.lt
  have hlt1 : w2.heap.size < w4.heap.size + 1 := by omega
  have hlt2 : w2.heap.size < w4.heap.size + 1 + 1 := by omega
  have hlt3 : w2.heap.size < w4.heap.size + 1 + 1 + 1 := by omega
  have hlt4 : w2.heap.size < w4.heap.size + 1 + 1 + 1 + 1 := by omega
  go_wp2_with fail
  -- the boxes
  obtain ⟨w5, hw5, b0, b1, b2, b3, b4, hb5, hs5⟩ := five_boxes w4 27 [.int .i64 r.x0, .int .i64 r.y0, .int .i64 m, .int .i64 r.y1] [.int .i64 (m + 1), .int .i64 r.y0, .int .i64 r.x1, .int .i64 r.y1] [.int .i64 r.x0, .int .i64 0, .int .i64 r.x1, .int .i64 19] [.int .i64 0, .int .i64 r.y0, .int .i64 19, .int .i64 r.y1] [.int .i64 0, .int .i64 0, .int .i64 19, .int .i64 19]
  have e : (((((w4.alloc (.cells #[.int .i64 r.x0, .int .i64 r.y0, .int .i64 m, .int .i64 r.y1] 27)).alloc (.cells #[.int .i64 (m + 1), .int .i64 r.y0, .int .i64 r.x1, .int .i64 r.y1] 27)).alloc (.cells #[.int .i64 r.x0, .int .i64 0, .int .i64 r.x1, .int .i64 19] 27)).alloc (.cells #[.int .i64 0, .int .i64 r.y0, .int .i64 19, .int .i64 r.y1] 27)).alloc (.cells #[.int .i64 0, .int .i64 0, .int .i64 19, .int .i64 19] 27)) = w5 := hw5.symm
  rw [e]
  clear e hw5 hlt1 hlt2 hlt3 hlt4
  have HX5 := Lib.hid (HX4.out.below hb5 hlt)
  have HL5 := Lib.hid (HL4.out.on hb5)
  have HB5 := Lib.hid (chain HB4.out hb5)
  generalize e4 : w4.heap.size + 1 + 1 + 1 + 1 = g4 at *
  generalize e3 : w4.heap.size + 1 + 1 + 1 = g3 at *
  generalize e2 : w4.heap.size + 1 + 1 = g2 at *
  generalize e1 : w4.heap.size + 1 = g1 at *
  generalize e0 : w4.heap.size = g0 at *
  have HSb := Lib.hid (fun W (h : Below w5.heap.size w5 W) => show W.cell? ⟨g0, 0, none⟩ = some (.int .i64 r.x0) ∧ W.cell? ⟨g0, 1, none⟩ = some (.int .i64 r.y0) ∧ W.cell? ⟨g0, 2, none⟩ = some (.int .i64 m) ∧ W.cell? ⟨g0, 3, none⟩ = some (.int .i64 r.y1) ∧ W.cell? ⟨g1, 0, none⟩ = some (.int .i64 (m + 1)) ∧ W.cell? ⟨g1, 1, none⟩ = some (.int .i64 r.y0) ∧ W.cell? ⟨g1, 2, none⟩ = some (.int .i64 r.x1) ∧ W.cell? ⟨g1, 3, none⟩ = some (.int .i64 r.y1) ∧ W.cell? ⟨g2, 0, none⟩ = some (.int .i64 r.x0) ∧ W.cell? ⟨g2, 1, none⟩ = some (.int .i64 0) ∧ W.cell? ⟨g2, 2, none⟩ = some (.int .i64 r.x1) ∧ W.cell? ⟨g2, 3, none⟩ = some (.int .i64 19) ∧ W.cell? ⟨g3, 0, none⟩ = some (.int .i64 0) ∧ W.cell? ⟨g3, 1, none⟩ = some (.int .i64 r.y0) ∧ W.cell? ⟨g3, 2, none⟩ = some (.int .i64 19) ∧ W.cell? ⟨g3, 3, none⟩ = some (.int .i64 r.y1) ∧ W.cell? ⟨g4, 0, none⟩ = some (.int .i64 0) ∧ W.cell? ⟨g4, 1, none⟩ = some (.int .i64 0) ∧ W.cell? ⟨g4, 2, none⟩ = some (.int .i64 19) ∧ W.cell? ⟨g4, 3, none⟩ = some (.int .i64 19) from
    ⟨(b0.below h b0.lt).cell 0, (b0.below h b0.lt).cell 1, (b0.below h b0.lt).cell 2, (b0.below h b0.lt).cell 3, (b1.below h b1.lt).cell 0, (b1.below h b1.lt).cell 1, (b1.below h b1.lt).cell 2, (b1.below h b1.lt).cell 3, (b2.below h b2.lt).cell 0, (b2.below h b2.lt).cell 1, (b2.below h b2.lt).cell 2, (b2.below h b2.lt).cell 3, (b3.below h b3.lt).cell 0, (b3.below h b3.lt).cell 1, (b3.below h b3.lt).cell 2, (b3.below h b3.lt).cell 3, (b4.below h b4.lt).cell 0, (b4.below h b4.lt).cell 1, (b4.below h b4.lt).cell 2, (b4.below h b4.lt).cell 3⟩)
  clear b0 b1 b2 b3 b4 hb5 hs5 c0 c1 c2 c3 e0 e1 e2 e3 e4
  obtain ⟨n, hn⟩ : ∃ n, ps.length = n := ⟨_, rfl⟩
  have HN := Lib.hid hn
  have HTk := Lib.hid (show (ps.take n).countP (cornB r) = ps.countP (cornB r) by rw [← hn, List.take_length])
  have hkb0 : ∀ i, (ps.take i).countP (cornB r) ≤ 80 := fun i => Nat.le_trans List.countP_le_length (by rw [List.length_take]; omega)
  rw [hn] at HAll HCr HCt hlen ⊢
  have HKb := Lib.hid hkb0
  clear hn hkb0
  go_loopw [21, 22] (fun s u w' => ∃ i d : Nat, i ≤ n ∧ s = .int .i64 ((ps.take i).countP (cornB r) : Nat) ∧ u = .int .i64 i ∧ w' = w5.drewN d) (fun _ u _ => n - (intOf u).toNat)
  case atStart => exact ⟨0, 0, Nat.zero_le _, rfl, rfl, rfl⟩
  case round =>
    obtain ⟨i, d, hi, rfl, rfl, rfl⟩ := hrel
    have hkb := HKb.out i
    by_cases hltn : i < n
    · obtain ⟨p, hp⟩ : ∃ p, ps[i]? = some p := ⟨_, List.getElem?_eq_getElem (by rw [HN.out]; exact hltn)⟩
      obtain ⟨b, o, rfl, hb, hcx, hcy, hcw⟩ := pts_at HL5.out hp
      have HP := Lib.hid hp
      have c0 := HX5.out.cell 0
      have c1 := HX5.out.cell 1
      have c2 := HX5.out.cell 2
      have c3 := HX5.out.cell 3
      have hin : (i : Int) < (n : Int) := by omega
      clear hp
      by_cases hx : p.x < r.x0
      · have d1 : decide (p.x < r.x0) = true := decide_eq_true hx
        by_cases hy : p.y < r.y0
        · have d3 : decide (p.y < r.y0) = true := decide_eq_true hy
          have HE := Lib.hid (show cornB r p = true from cornB_iff.2 (by omega))
          have HCn := Lib.hid (show (ps.take (i + 1)).countP (cornB r) = (ps.take i).countP (cornB r) + 1 by rw [List.take_add_one, HP.out, Option.toList_some, List.countP_append, List.countP_singleton, HE.out]; rfl)
          obtain ⟨kc, hkc⟩ : ∃ kc, (ps.take i).countP (cornB r) = kc := ⟨_, rfl⟩
          rw [hkc] at HCn hkb ⊢
          clear hkc
          go_wp2_with fail
          go_quiet (fail)
          go_wp2_with fail
          go_roundw
          case rel => exact ⟨i + 1, _, by omega, by rw [HCn.out]; go_num, by go_num, by first | rfl | (simp only [World.drewN_drewN]; rfl)⟩
          case measure => simp [intOf]; omega
        · have d3 : decide (p.y < r.y0) = false := decide_eq_false hy
          by_cases hy2 : r.y1 < p.y
          · have d4 : decide (r.y1 < p.y) = true := decide_eq_true hy2
            have HE := Lib.hid (show cornB r p = true from cornB_iff.2 (by omega))
            have HCn := Lib.hid (show (ps.take (i + 1)).countP (cornB r) = (ps.take i).countP (cornB r) + 1 by rw [List.take_add_one, HP.out, Option.toList_some, List.countP_append, List.countP_singleton, HE.out]; rfl)
            obtain ⟨kc, hkc⟩ : ∃ kc, (ps.take i).countP (cornB r) = kc := ⟨_, rfl⟩
            rw [hkc] at HCn hkb ⊢
            clear hkc
            go_wp2_with fail
            go_quiet (fail)
            go_wp2_with fail
            go_roundw
            case rel => exact ⟨i + 1, _, by omega, by rw [HCn.out]; go_num, by go_num, by first | rfl | (simp only [World.drewN_drewN]; rfl)⟩
            case measure => simp [intOf]; omega
          · have d4 : decide (r.y1 < p.y) = false := decide_eq_false hy2
            have HE := Lib.hid (show cornB r p = false from (by rw [Bool.eq_false_iff, ne_eq, cornB_iff]; omega))
            have HCn := Lib.hid (show (ps.take (i + 1)).countP (cornB r) = (ps.take i).countP (cornB r) + 0 by rw [List.take_add_one, HP.out, Option.toList_some, List.countP_append, List.countP_singleton, HE.out]; rfl)
            obtain ⟨kc, hkc⟩ : ∃ kc, (ps.take i).countP (cornB r) = kc := ⟨_, rfl⟩
            rw [hkc] at HCn hkb ⊢
            clear hkc
            go_wp2_with fail
            go_quiet (fail)
            go_wp2_with fail
            go_roundw
            case rel => exact ⟨i + 1, _, by omega, by rw [HCn.out]; rfl, by go_num, by first | rfl | (simp only [World.drewN_drewN]; rfl)⟩
            case measure => simp [intOf]; omega
      · have d1 : decide (p.x < r.x0) = false := decide_eq_false hx
        by_cases hx2 : r.x1 < p.x
        · have d2 : decide (r.x1 < p.x) = true := decide_eq_true hx2
          by_cases hy : p.y < r.y0
          · have d3 : decide (p.y < r.y0) = true := decide_eq_true hy
            have HE := Lib.hid (show cornB r p = true from cornB_iff.2 (by omega))
            have HCn := Lib.hid (show (ps.take (i + 1)).countP (cornB r) = (ps.take i).countP (cornB r) + 1 by rw [List.take_add_one, HP.out, Option.toList_some, List.countP_append, List.countP_singleton, HE.out]; rfl)
            obtain ⟨kc, hkc⟩ : ∃ kc, (ps.take i).countP (cornB r) = kc := ⟨_, rfl⟩
            rw [hkc] at HCn hkb ⊢
            clear hkc
            go_wp2_with fail
            go_quiet (fail)
            go_wp2_with fail
            go_roundw
            case rel => exact ⟨i + 1, _, by omega, by rw [HCn.out]; go_num, by go_num, by first | rfl | (simp only [World.drewN_drewN]; rfl)⟩
            case measure => simp [intOf]; omega
          · have d3 : decide (p.y < r.y0) = false := decide_eq_false hy
            by_cases hy2 : r.y1 < p.y
            · have d4 : decide (r.y1 < p.y) = true := decide_eq_true hy2
              have HE := Lib.hid (show cornB r p = true from cornB_iff.2 (by omega))
              have HCn := Lib.hid (show (ps.take (i + 1)).countP (cornB r) = (ps.take i).countP (cornB r) + 1 by rw [List.take_add_one, HP.out, Option.toList_some, List.countP_append, List.countP_singleton, HE.out]; rfl)
              obtain ⟨kc, hkc⟩ : ∃ kc, (ps.take i).countP (cornB r) = kc := ⟨_, rfl⟩
              rw [hkc] at HCn hkb ⊢
              clear hkc
              go_wp2_with fail
              go_quiet (fail)
              go_wp2_with fail
              go_roundw
              case rel => exact ⟨i + 1, _, by omega, by rw [HCn.out]; go_num, by go_num, by first | rfl | (simp only [World.drewN_drewN]; rfl)⟩
              case measure => simp [intOf]; omega
            · have d4 : decide (r.y1 < p.y) = false := decide_eq_false hy2
              have HE := Lib.hid (show cornB r p = false from (by rw [Bool.eq_false_iff, ne_eq, cornB_iff]; omega))
              have HCn := Lib.hid (show (ps.take (i + 1)).countP (cornB r) = (ps.take i).countP (cornB r) + 0 by rw [List.take_add_one, HP.out, Option.toList_some, List.countP_append, List.countP_singleton, HE.out]; rfl)
              obtain ⟨kc, hkc⟩ : ∃ kc, (ps.take i).countP (cornB r) = kc := ⟨_, rfl⟩
              rw [hkc] at HCn hkb ⊢
              clear hkc
              go_wp2_with fail
              go_quiet (fail)
              go_wp2_with fail
              go_roundw
              case rel => exact ⟨i + 1, _, by omega, by rw [HCn.out]; rfl, by go_num, by first | rfl | (simp only [World.drewN_drewN]; rfl)⟩
              case measure => simp [intOf]; omega
        · have d2 : decide (r.x1 < p.x) = false := decide_eq_false hx2
          have HE := Lib.hid (show cornB r p = false from (by rw [Bool.eq_false_iff, ne_eq, cornB_iff]; omega))
          have HCn := Lib.hid (show (ps.take (i + 1)).countP (cornB r) = (ps.take i).countP (cornB r) + 0 by rw [List.take_add_one, HP.out, Option.toList_some, List.countP_append, List.countP_singleton, HE.out]; rfl)
          obtain ⟨kc, hkc⟩ : ∃ kc, (ps.take i).countP (cornB r) = kc := ⟨_, rfl⟩
          rw [hkc] at HCn hkb ⊢
          clear hkc
          go_wp2_with fail
          go_quiet (fail)
          go_wp2_with fail
          go_roundw
          case rel => exact ⟨i + 1, _, by omega, by rw [HCn.out]; rfl, by go_num, by first | rfl | (simp only [World.drewN_drewN]; rfl)⟩
          case measure => simp [intOf]; omega
    · obtain rfl : n = i := by omega
      rw [HTk.out]
      have HX6 := Lib.hid (HX5.out.drewN d)
      have HL6 : Hid (Lies (w5.drewN d) (w5.drewN d).heap.size A1 (ptC ps)) := Lib.hid (HL5.out.drewN d)
      have HB6 := Lib.hid (bdN HB5.out d)
      have HS6 := Lib.hid (fun W (h : Below (w5.drewN d).heap.size (w5.drewN d) W) => HSb.out W ((bdN (Below.refl w5.heap.size w5) d).trans (by exact h)))
      clear HSb HX5 HL5 HB5 HKb HTk
      generalize w5.drewN d = w6 at *
      have c0 := HX6.out.cell 0
      have c1' := HX6.out.cell 1
      have c2 := HX6.out.cell 2
      have c3 := HX6.out.cell 3
      have HCr2 : (insR ps ⟨r.x0, 0, r.x1, 19⟩).length + (insR ps ⟨0, r.y0, 19, r.y1⟩).length + ps.countP (cornB r) = n + (insR ps r).length := HCr.out
      have HCut2 := HCut.out
      have hkn : (insR ps r).length ≤ n := by rw [insR_count, ← HN.out]; exact List.countP_le_length
      unfold Rc4.val at HCt
      have H0 := Lib.hid (fun W => HCt.out A1 c1 r W HF0.out HN1.out)
      have H1 := Lib.hid (fun W => HCt.out A1 c1 ⟨r.x0, r.y0, m, r.y1⟩ W HFl.out HN1.out)
      have H2 := Lib.hid (fun W => HCt.out A1 c1 ⟨m + 1, r.y0, r.x1, r.y1⟩ W HFr.out HN1.out)
      have H3 := Lib.hid (fun W => HCt.out A1 c1 ⟨r.x0, 0, r.x1, 19⟩ W HFf.out HN1.out)
      have H4 := Lib.hid (fun W => HCt.out A1 c1 ⟨0, r.y0, 19, r.y1⟩ W HFt.out HN1.out)
      have H5 := Lib.hid (fun W => HCt.out A1 c1 ⟨0, 0, 19, 19⟩ W HFa.out HN1.out)
      dsimp only at H0 H1 H2 H3 H4 H5
      rw [HAll.out] at H5
      generalize (insR ps r).length = kn at *
      generalize (insR ps ⟨r.x0, r.y0, m, r.y1⟩).length = kl at *
      generalize (insR ps ⟨m + 1, r.y0, r.x1, r.y1⟩).length = kr at *
      generalize (insR ps ⟨r.x0, 0, r.x1, 19⟩).length = kf at *
      generalize (insR ps ⟨0, r.y0, 19, r.y1⟩).length = kt at *
      generalize ps.countP (cornB r) = kc at *
      clear HCr HCut HAll HCt HFl HFr HFf HFt HFa HF0
      have f0 : (0 : Int) ≤ (kn : Int) := by omega
      have f1 : IntKind.i64.wrap ((kl : Int) + (kr : Int)) = (kn : Int) := by rw [IntKind.wrap_i64]; omega
      obtain ⟨s, hs⟩ : ∃ s : Int, (kf : Int) + (kt : Int) = s := ⟨_, rfl⟩
      have f2 : IntKind.i64.wrap ((kf : Int) + (kt : Int)) = s := by rw [IntKind.wrap_i64]; omega
      obtain ⟨u, hu⟩ : ∃ u : Int, (n : Int) - (kc : Int) = u := ⟨_, rfl⟩
      have f3 : IntKind.i64.wrap (s - (kn : Int)) = u := by rw [IntKind.wrap_i64]; omega
      have f4 : IntKind.i64.wrap ((n : Int) - (kc : Int)) = u := by rw [IntKind.wrap_i64]; omega
      clear hs hu HCr2 HCut2 hkn hkb hlen hlim x0 x1 x2 y0 y1 y2 hpk hm hz1
      go_wp2_with fail
      refine (H0.out _ HL6.out).mono ?_
      rintro e w7 ⟨rfl, hb7⟩
      have HB7 := Lib.hid (chain HB6.out hb7)
      have HL7 := Lib.hid (fun W (h : Below w7.heap.size w7 W) => HL6.out.on (chain hb7 h))
      have HS7 := Lib.hid (fun W (h : Below w7.heap.size w7 W) => HS6.out W (chain hb7 h))
      clear HL6 HS6 HB6 H0 c0 c1' c2 c3 HX6
      have hbc : Below w7.heap.size w7 w7 := Below.refl _ _
      have s0 := HS7.out w7 hbc
      clear hb7
      go_wp2_with fail
      go_region_held3 (fun W => W.cell? ⟨g0, 0, none⟩ = some (.int .i64 r.x0) ∧ W.cell? ⟨g0, 1, none⟩ = some (.int .i64 r.y0) ∧ W.cell? ⟨g0, 2, none⟩ = some (.int .i64 m) ∧ W.cell? ⟨g0, 3, none⟩ = some (.int .i64 r.y1) ∧ W.cell? ⟨g1, 0, none⟩ = some (.int .i64 (m + 1)) ∧ W.cell? ⟨g1, 1, none⟩ = some (.int .i64 r.y0) ∧ W.cell? ⟨g1, 2, none⟩ = some (.int .i64 r.x1) ∧ W.cell? ⟨g1, 3, none⟩ = some (.int .i64 r.y1) ∧ W.cell? ⟨g2, 0, none⟩ = some (.int .i64 r.x0) ∧ W.cell? ⟨g2, 1, none⟩ = some (.int .i64 0) ∧ W.cell? ⟨g2, 2, none⟩ = some (.int .i64 r.x1) ∧ W.cell? ⟨g2, 3, none⟩ = some (.int .i64 19) ∧ W.cell? ⟨g3, 0, none⟩ = some (.int .i64 0) ∧ W.cell? ⟨g3, 1, none⟩ = some (.int .i64 r.y0) ∧ W.cell? ⟨g3, 2, none⟩ = some (.int .i64 19) ∧ W.cell? ⟨g3, 3, none⟩ = some (.int .i64 r.y1) ∧ W.cell? ⟨g4, 0, none⟩ = some (.int .i64 0) ∧ W.cell? ⟨g4, 1, none⟩ = some (.int .i64 0) ∧ W.cell? ⟨g4, 2, none⟩ = some (.int .i64 19) ∧ W.cell? ⟨g4, 3, none⟩ = some (.int .i64 19))
        (first | exact s0)
        (first
          | (go_at_call 26; go_loud (refine (HSu.out _).mono ?_); rintro e w8 ⟨rfl, hb8⟩; have hbc := (show Below w7.heap.size w7 w8 from by first | exact chain hbc hb8 | exact chain hbc.drew hb8); have s0 := HS7.out w8 hbc; clear hb8)
          | (go_at_call 25; go_loud (refine (H1.out _ (HL7.out _ (by first | exact hbc | exact hbc.drew))).mono ?_); rintro e w8 ⟨rfl, hb8⟩; have hbc := (show Below w7.heap.size w7 w8 from by first | exact chain hbc hb8 | exact chain hbc.drew hb8); have s0 := HS7.out w8 hbc; clear hb8 H1)
          | (go_at_call 25; go_loud (refine (H2.out _ (HL7.out _ (by first | exact hbc | exact hbc.drew))).mono ?_); rintro e w8 ⟨rfl, hb8⟩; have hbc := (show Below w7.heap.size w7 w8 from by first | exact chain hbc hb8 | exact chain hbc.drew hb8); have s0 := HS7.out w8 hbc; clear hb8 H2)
          | (go_at_call 25; go_loud (refine (H5.out _ (HL7.out _ (by first | exact hbc | exact hbc.drew))).mono ?_); rintro e w8 ⟨rfl, hb8⟩; have hbc := (show Below w7.heap.size w7 w8 from by first | exact chain hbc hb8 | exact chain hbc.drew hb8); have s0 := HS7.out w8 hbc; clear hb8 H5)
          | (go_at_call 25; go_loud (refine (H3.out _ (HL7.out _ (by first | exact hbc | exact hbc.drew))).mono ?_); rintro e w8 ⟨rfl, hb8⟩; have hbc := (show Below w7.heap.size w7 w8 from by first | exact chain hbc hb8 | exact chain hbc.drew hb8); have s0 := HS7.out w8 hbc; clear hb8 H3)
          | (go_at_call 25; go_loud (refine (H4.out _ (HL7.out _ (by first | exact hbc | exact hbc.drew))).mono ?_); rintro e w8 ⟨rfl, hb8⟩; have hbc := (show Below w7.heap.size w7 w8 from by first | exact chain hbc hb8 | exact chain hbc.drew hb8); have s0 := HS7.out w8 hbc; clear hb8 H4))
      go_wp2_with fail
      go_ret
      exact ⟨rfl, chain HB7.out hbc⟩
end Go.Proofs.Ythmfcdefdbeefaa

namespace Go.Proofs.Ythmfcdefdbeefaa
open Go.RowKit

/-- A block known whole, as a row of records. -/
theorem Blk.recs {w : World} {g sz k : Nat} {e : TypeId} {xs : List Value} (h : Blk w g e xs) {base : Nat} (hb : base ≤ g) (hl : xs.length = k * sz) (hk : k ≤ maxLen) : w.ownsRow base e sz (.slice (some ⟨g, 0, none⟩) k k) k xs :=
  ⟨hl, .inr ⟨g, k, xs.toArray, rfl, hb, h, Nat.le_refl _, hk, by simp [hl], by rw [← hl]; simp⟩⟩
theorem turnedTo_zero (ps : List Pt3) (t : Nat) : turnedTo ps t 0 = [] := rfl
theorem turned_cells (ps : List Pt3) (t i x : Nat) {p : Pt3} (hx : (i + t) % ps.length = x) (hp : ps[x]? = some p) : ptC (turnedTo ps t (i + 1)) = [.int .i64 p.y, .int .i64 p.x, .int .i64 p.w] ++ ptC (turnedTo ps t i) := by
  rw [turnedTo_step, hx, ptAt_of hp]
  rfl
theorem turned_lim {ps : List Pt3} (hps : ptsF ps = 0) (t : Nat) : ptsF (turnedTo ps t ps.length) = 0 := by
  obtain ⟨h1, h2⟩ := ptsF_zero hps
  unfold ptsF
  rw [turnedTo_length, if_neg (by omega), if_pos]
  rw [List.all_eq_true]
  intro p hp
  obtain ⟨q, hq, rfl⟩ := List.mem_map.1 ((turned_perm ps t).mem_iff.1 hp)
  have := h2 q hq
  unfold ptOk at this ⊢
  unfold flipP
  simp only [Bool.and_eq_true] at this ⊢
  exact ⟨⟨this.1.2, this.1.1⟩, this.2⟩

set_option maxRecDepth 100000 in
set_option maxHeartbeats 4000000 in
/-- damaskkeep.GridTurned. -/
theorem gturn_any (hC : Counts) (A : Option Addr) (l : List Pt3) (c : Nat) (a1 a2 a3 a4 a5 : Int) (w : World) (hw : ∀ o ∈ l, o.Fits) (h1 : (Lit.int .i64 a1).wf = true) (h2 : (Lit.int .i64 a2).wf = true) (h3 : (Lit.int .i64 a3).wf = true) (h4 : (Lit.int .i64 a4).wf = true) (h5 : (Lit.int .i64 a5).wf = true) (hL : Lies w w.heap.size A (ptC l)) :
    Calls Try.prog 9 #[.slice A l.length c, .int .i64 a1, .int .i64 a2, .int .i64 a3, .int .i64 a4, .int .i64 a5] w fun e w' => e = .returned (.bool true) ∧ Below w.heap.size w w' := by
  have HP : Hid (Calls Try.prog 22 #[.slice A l.length c, .int .i64 80, .int .i64 20] w (GivesPts w (ptsOf 80 20 l))) := Lib.hid (points_any A l c 80 20 w (by decide) (by decide) (by decide) hw hL)
  unfold GivesPts at HP
  have HR : Hid (∀ W, Calls Try.prog 23 #[.int .i64 a1, .int .i64 a2, .int .i64 a3, .int .i64 a4, .int .i64 20] W fun e w' => e = .returned (.agg #[.int .i64 (rcOf a1 a2 a3 a4 20).x0, .int .i64 (rcOf a1 a2 a3 a4 20).y0, .int .i64 (rcOf a1 a2 a3 a4 20).x1, .int .i64 (rcOf a1 a2 a3 a4 20).y1]) ∧ Below W.heap.size W w') := Lib.hid (fun W => rectOf_any a1 a2 a3 a4 20 W (by decide) (by decide) h1 h2 h3 h4)
  obtain ⟨⟨x0, x1, x2⟩, y0, y1, y2⟩ := rcOf_lim a1 a2 a3 a4 (bd := 20) (by decide)
  have hps := ptsF_of (n := 80) (b := 20) (by decide) (by decide) (by decide) l
  have hlen := ptsOf_le 80 20 l
  generalize ptsOf 80 20 l = ps at *
  generalize rcOf a1 a2 a3 a4 20 = r at *
  obtain ⟨n, hn⟩ : ∃ n, ps.length = n := ⟨_, rfl⟩
  have HN := Lib.hid hn
  have HPk := Lib.hid (fun W (h : 0 < n) => pick_any a5 n W h (by omega) h5)
  have HPb := Lib.hid (fun (h : 0 < n) => pick_lt h a5)
  obtain ⟨t, ht⟩ : ∃ t, pick n a5 = t := ⟨_, rfl⟩
  rw [ht] at HPk HPb
  have HF0 := Lib.hid (fits_small r.x0 r.y0 r.x1 r.y1 (by omega) (by omega) (by omega) (by omega))
  have HF1 := Lib.hid (fits_small r.y0 r.x0 r.y1 r.x1 (by omega) (by omega) (by omega) (by omega))
  have HCt := Lib.hid (fun A c W hA hW => counted_any hC A ps c ⟨r.x0, r.y0, r.x1, r.y1⟩ W hps HF0.out hA hW)
  have hcu := fun A c W hA hW => counted_any hC A (turnedTo ps t ps.length) c ⟨r.y0, r.x0, r.y1, r.x1⟩ W (turned_lim hps t) HF1.out hA hW
  have htc := turned_count ps ⟨r.x0, r.y0, r.x1, r.y1⟩ t
  unfold flipR at htc
  dsimp only at htc
  rw [htc, turnedTo_length] at hcu
  have HCu := Lib.hid hcu
  have HSu := Lib.hid (fun W => sure_any hC W)
  unfold Rc4.val at HCt HCu
  dsimp only at HCt HCu
  generalize (insR ps ⟨r.x0, r.y0, r.x1, r.y1⟩).length = kn at *
  have HStep := Lib.hid (fun i x p (hx : (i + t) % ps.length = x) (hp : ps[x]? = some p) => turned_cells ps t i x hx hp)
  have HT0 := Lib.hid (show ptC (turnedTo ps t 0) = [] from rfl)
  have HTl := Lib.hid (fun i => show (ptC (turnedTo ps t i)).length = i * 3 by rw [ptC_length, turnedTo_length])
  have HTo := Lib.hid (fun i => ptC_one (turnedTo ps t i))
  rw [hn] at hlen HP HCt HCu HStep
  clear hC hw hL hps h1 h2 h3 h4 h5 hn ht hcu htc
  go_enter Try.func9, Try.ntmps9
  go_wp2_with fail
  refine HP.out.mono ?_
  rintro e w1 ⟨v1, rfl, hown, hb1⟩
  obtain ⟨A1, c1, rfl, hl1, hn1, _⟩ := own_slice_all hown
  have HL1 := Lib.hid hl1
  have HN1 := Lib.hid hn1
  have HB1 := Lib.hid hb1
  clear hown hl1 hn1 hb1
  go_wp2_with fail
  refine (HR.out _).mono ?_
  rintro e w2 ⟨rfl, hb2⟩
  have HB2 := Lib.hid (chain HB1.out hb2)
  have HL2 := Lib.hid (HL1.out.on hb2)
  clear hb2
  go_wp2_with fail
  have HX := Lib.hid (Blk.new w2 27 [.int .i64 r.x0, .int .i64 r.y0, .int .i64 r.x1, .int .i64 r.y1])
  have HL3 := Lib.hid (HL2.out.alloc (.cells #[.int .i64 r.x0, .int .i64 r.y0, .int .i64 r.x1, .int .i64 r.y1] 27))
  have HB3 := Lib.hid (chain HB2.out (bnew w2 (.cells #[.int .i64 r.x0, .int .i64 r.y0, .int .i64 r.x1, .int .i64 r.y1] 27)))
  generalize w2.alloc (.cells #[.int .i64 r.x0, .int .i64 r.y0, .int .i64 r.x1, .int .i64 r.y1] 27) = w3 at *
  generalize w2.heap.size = g0 at *
  have hg0 := HX.out.lt
  go_loopw [15, 16] (fun v u w' => ∃ (i : Nat) (A' : Option Addr) (c' : Nat), i ≤ n ∧ u = .int .i64 i ∧ v = .slice A' i c' ∧ (A' = none → c' = 0) ∧ Lies w' w'.heap.size A' (ptC (turnedTo ps t i)) ∧ Below w3.heap.size w3 w') (fun _ u _ => n - (intOf u).toNat)
  case atStart => exact ⟨0, none, 0, Nat.zero_le _, rfl, rfl, fun _ => rfl, by rw [HT0.out]; exact Lies.nil, Below.refl _ _⟩
  case round =>
    obtain ⟨i, A2, c2, hi, rfl, rfl, hA2, hl2, hbl⟩ := hrel
    have HL4 := Lib.hid hl2
    have HA2 := Lib.hid hA2
    have HBl := Lib.hid hbl
    clear hl2 hA2
    by_cases hlt : i < n
    · have h0n : 0 < n := by omega
      have hpt := HPb.out h0n
      obtain ⟨s, hs⟩ : ∃ s, i + t = s := ⟨_, rfl⟩
      obtain ⟨x, hx⟩ : ∃ x, s % n = x := ⟨_, rfl⟩
      have hxn : x < n := by rw [← hx]; exact Nat.mod_lt _ h0n
      obtain ⟨p, hp⟩ : ∃ p, ps[x]? = some p := ⟨_, List.getElem?_eq_getElem (by rw [HN.out]; exact hxn)⟩
      have HSt := Lib.hid (HStep.out i x p (by rw [hs]; exact hx) hp)
      obtain ⟨b, o, hA1, hb, hcx, hcy, hcw⟩ := pts_at (HL3.out.on hbl) hp
      have HL5 := Lib.hid (HL3.out.on hbl)
      have HA1 := Lib.hid hA1
      have e1 : (i : Int) + (t : Int) = (s : Int) := by omega
      have e2 : (s : Int).tmod (n : Int) = (x : Int) := by rw [← hx, ← Int.ofNat_tmod]
      have e3 : ((n : Int) == 0) = false := by simp; omega
      have hsb : s ≤ 200 := by omega
      have hni : (n : Int) ≠ 0 := by omega
      have hxi : (x : Int) < (n : Int) := by omega
      have hil : (i : Int) < (n : Int) := by omega
      have HPx := Lib.hid (fun W => HPk.out W h0n)
      have hszr := hbl.size
      clear hs hx hp hbl
      subst hA1
      go_wp2_with fail
      refine (HPx.out _).mono ?_
      rintro e w4 ⟨rfl, rfl⟩
      have HOw := Lib.hid (show ((wr.alloc (.cells #[.int .i64 p.x, .int .i64 p.y, .int .i64 p.w] 43)).alloc (.cells #[.int .i64 p.y, .int .i64 p.x, .int .i64 p.w] 43)).ownsRow (wr.heap.size + 1) 43 3 (.slice (some ⟨wr.heap.size + 1, 0, none⟩) 1 1) 1 [.int .i64 p.y, .int .i64 p.x, .int .i64 p.w] from by
        have hb := Blk.new (wr.alloc (.cells #[.int .i64 p.x, .int .i64 p.y, .int .i64 p.w] 43)) 43 [.int .i64 p.y, .int .i64 p.x, .int .i64 p.w]
        rw [World.size_alloc] at hb
        exact hb.recs (k := 1) (sz := 3) (Nat.le_refl _) rfl (by simp only [maxLen]; omega))
      go_wp2_with (at_builtin; go_loud (refine append_recs _ rfl (.tmp 50) (.tmp 51) 22 rfl (wr.heap.size + 1) 43 (.agg #[.int .i64 0, .int .i64 0, .int .i64 0]) 3 24 Try.underlying22 kpt_info rfl (by decide) (.slice (some ⟨wr.heap.size + 1, 0, none⟩) 1 1) 1 [.int .i64 p.y, .int .i64 p.x, .int .i64 p.w] rfl HOw.out A2 i c2 (ptC (turnedTo ps t i)) rfl (HTl.out i) HA2.out (by exact (HL4.out.alloc _).alloc _) (HTo.out i) (by simp only [maxLen]; omega) (by omega) (by simp) ?_))
      intro v1 w5 hown1 hg1
      have HBe := Lib.hid (Below.grown ((HBl.out.alloc hszr (.cells #[.int .i64 p.x, .int .i64 p.y, .int .i64 p.w] 43)).alloc (by simp; omega) (.cells #[.int .i64 p.y, .int .i64 p.x, .int .i64 p.w] 43)) hg1 (by simp; omega) (fun q hq => by
        have e2 : wr.heap.size + 1 = q := Option.some.inj hq
        omega))
      obtain ⟨A5, c5, rfl, hl5, hn5, _⟩ := own_slice_all hown1
      have HL6 := Lib.hid (show Lies w5 w5.heap.size A5 (ptC (turnedTo ps t (i + 1))) by rw [HSt.out]; exact hl5)
      have HN6 := Lib.hid hn5
      clear hown1 hg1 hl5 hn5
      go_wp2_with fail
      go_roundw
      case rel => exact ⟨i + 1, A5, c5, by omega, by go_num, by rw [Nat.add_comm], HN6.out, HL6.out, HBe.out⟩
      case measure => simp [intOf]; omega
    · obtain rfl : n = i := by omega
      have HB4 := Lib.hid (chain HB3.out HBl.out)
      have HL7 := Lib.hid (HL3.out.on HBl.out)
      have HX4 := Lib.hid (HX.out.below HBl.out hg0)
      have H1 := Lib.hid (fun W hW => HCt.out A1 c1 W HN1.out hW)
      have H2 := Lib.hid (fun W hW => HCu.out A2 c2 W HA2.out hW)
      have hkk : ((kn : Int) == (kn : Int)) = true := by simp
      have HLa := Lib.hid (fun W (h : Below wr.heap.size wr W) => show Lies W W.heap.size A1 (ptC ps) from HL7.out.on h)
      have HLb := Lib.hid (fun W (h : Below wr.heap.size wr W) => show Lies W W.heap.size A2 (ptC (turnedTo ps t n)) from HL4.out.on h)
      have hgr := HX4.out.lt
      have HSs := Lib.hid (fun W (h : Below wr.heap.size wr W) => show W.cell? ⟨g0, 0, none⟩ = some (.int .i64 r.x0) ∧ W.cell? ⟨g0, 1, none⟩ = some (.int .i64 r.y0) ∧ W.cell? ⟨g0, 2, none⟩ = some (.int .i64 r.x1) ∧ W.cell? ⟨g0, 3, none⟩ = some (.int .i64 r.y1) from ⟨(HX4.out.below h hgr).cell 0, (HX4.out.below h hgr).cell 1, (HX4.out.below h hgr).cell 2, (HX4.out.below h hgr).cell 3⟩)
      have hbc : Below wr.heap.size wr wr := Below.refl _ _
      have s0 := HSs.out wr hbc
      clear HCt HCu HPb HPk HStep HP HR
      go_wp2_with fail
      go_region_held3 (fun W => W.cell? ⟨g0, 0, none⟩ = some (.int .i64 r.x0) ∧ W.cell? ⟨g0, 1, none⟩ = some (.int .i64 r.y0) ∧ W.cell? ⟨g0, 2, none⟩ = some (.int .i64 r.x1) ∧ W.cell? ⟨g0, 3, none⟩ = some (.int .i64 r.y1))
        (first | exact s0)
        (first
          | (go_at_call 26; go_loud (refine (HSu.out _).mono ?_); rintro e w8 ⟨rfl, hb8⟩; have hbc := (show Below wr.heap.size wr w8 from by first | exact chain hbc hb8 | exact chain hbc.drew hb8); have s0 := HSs.out w8 hbc; clear hb8)
          | (go_at_call 25; go_loud (refine (H1.out _ (HLa.out _ (by first | exact hbc | exact hbc.drew))).mono ?_); rintro e w8 ⟨rfl, hb8⟩; have hbc := (show Below wr.heap.size wr w8 from by first | exact chain hbc hb8 | exact chain hbc.drew hb8); have s0 := HSs.out w8 hbc; clear hb8 H1)
          | (go_at_call 25; go_loud (refine (H2.out _ (HLb.out _ (by first | exact hbc | exact hbc.drew))).mono ?_); rintro e w8 ⟨rfl, hb8⟩; have hbc := (show Below wr.heap.size wr w8 from by first | exact chain hbc hb8 | exact chain hbc.drew hb8); have s0 := HSs.out w8 hbc; clear hb8 H2))
      all_goals
        go_wp2_with fail
        go_ret
        exact ⟨rfl, chain HB4.out hbc⟩
end Go.Proofs.Ythmfcdefdbeefaa
