/-
  GridAll of the keeps, the contracts of grid.Count, Report, Kth and Top being given: it returns true; walked over the translated text. No condition but what each theorem names.
-/
import Derived.Test.YthmfcdefdbeefaaJ28
import Derived.Test.YthmfcdefdbeefaaJ02
import Derived.Deep.Cut
import Derived.Deep.DeepCutAuto
namespace Go.Proofs.Ythmfcdefdbeefaa
open Go.RowKit Go.Sort

/-- A row of truths: which places are in a list. -/
def mkG (n : Nat) (l : List Nat) : List Value := (List.range n).map fun j => .bool (decide (j ∈ l))
theorem mkG_length (n : Nat) (l : List Nat) : (mkG n l).length = n := by simp [mkG]
theorem mkG_nil (n : Nat) : mkG n [] = List.replicate n (.bool false) := by
  unfold mkG
  rw [List.eq_replicate_iff]
  refine ⟨by simp, fun b hb => ?_⟩
  obtain ⟨x, _, rfl⟩ := List.mem_map.1 hb
  simp
theorem mkG_get {n j : Nat} (l : List Nat) (h : j < n) : (mkG n l)[j]? = some (.bool (decide (j ∈ l))) := by unfold mkG; rw [List.getElem?_map, List.getElem?_range h]; rfl
theorem mkG_step (n : Nat) (l : List Nat) (x : Nat) : (mkG n l).set x (.bool true) = mkG n (l ++ [x]) := by
  apply List.ext_getElem?
  intro q
  rcases Nat.lt_or_ge q n with hq | hq
  · by_cases e : x = q
    · subst e
      rw [List.getElem?_set_self (by rw [mkG_length]; exact hq), mkG_get _ hq]
      simp
    · rw [List.getElem?_set_ne e, mkG_get _ hq, mkG_get _ hq]
      have : (q ∈ l ++ [x]) = (q ∈ l) := by
        rw [List.mem_append, List.mem_singleton]
        exact propext ⟨fun h => h.elim id fun h => absurd h.symm e, Or.inl⟩
      simp [this]
  · rw [List.getElem?_eq_none (by rw [List.length_set, mkG_length]; exact hq), List.getElem?_eq_none (by rw [mkG_length]; exact hq)]
theorem take_snoc {l : List Nat} {i x : Nat} (h : l[i]? = some x) : l.take (i + 1) = l.take i ++ [x] := by rw [List.take_add_one, h, Option.toList_some]
theorem take_fresh {l : List Nat} (hn : l.Nodup) {i x : Nat} (h : l[i]? = some x) : x ∉ l.take i := fun hm => by
  have h2 := hn.sublist (List.take_sublist (i + 1) l)
  rw [take_snoc h, List.nodup_append] at h2
  exact h2.2.2 x hm x (by simp) rfl

/-- What is asked of grid's functions. -/
structure Alls : Prop where
  report : ∀ (A : Option Addr) (ps : List Pt3) (c : Nat) (r : Rc4) (W : World), ptsF ps = 0 → r.Fits → Lies W W.heap.size A (ptC ps) → Calls Try.prog 15 #[.slice A ps.length c, r.val] W (GivesGL W (ssort (ltP ps ltX) (insR ps r)))
  kth : ∀ (A : Option Addr) (ps : List Pt3) (c : Nat) (r : Rc4) (k : Int) (W : World), ptsF ps = 0 → r.Fits → Lies W W.heap.size A (ptC ps) → Calls Try.prog 18 #[.slice A ps.length c, r.val, .int .i64 k] W (TellsG W (kthV (ssort (ltP ps ltY) (insR ps r)) k) (kthE (insR ps r).length k))
  top : ∀ (A : Option Addr) (ps : List Pt3) (c : Nat) (r : Rc4) (k : Nat) (W : World), ptsF ps = 0 → r.Fits → Lies W W.heap.size A (ptC ps) → Calls Try.prog 20 #[.slice A ps.length c, r.val, .int .i64 k] W (GivesGL W (topN (ssort (ltP ps ltW) (insR ps r)) k))

theorem kbool_info : (Try.prog.info? 4).map (fun i => (i.zero, i.size, i.bytes)) = some (some (.bool false), 1, 1) := by kernel_rfl
theorem inR_parts {r : Rc4} {p : Pt3} (h : inR r p = true) : r.x0 ≤ p.x ∧ p.x ≤ r.x1 ∧ r.y0 ≤ p.y ∧ p.y ≤ r.y1 := inR_iff.1 h

/-- What lies in memory all along: the rectangle's box, the points, what was reported. -/
structure AlAt (B g0 : Nat) (ps : List Pt3) (r : Rc4) (A1 A5 : Option Addr) (R : List Nat) (W : World) : Prop where
  rc : Blk W g0 27 [.int .i64 r.x0, .int .i64 r.y0, .int .i64 r.x1, .int .i64 r.y1]
  lt : g0 < B
  pl : Lies W B A1 (ptC ps)
  rl : Lies W B A5 (natC R)
  le : B ≤ W.heap.size
theorem AlAt.keep {B g0 : Nat} {ps : List Pt3} {r : Rc4} {A1 A5 : Option Addr} {R : List Nat} {W W' : World} (h : AlAt B g0 ps r A1 A5 R W) (hb : Below B W W') : AlAt B g0 ps r A1 A5 R W' := ⟨h.rc.below hb h.lt, h.lt, h.pl.below hb, h.rl.below hb, Nat.le_trans h.le hb.size⟩
theorem AlAt.wide {B g0 : Nat} {ps : List Pt3} {r : Rc4} {A1 A5 : Option Addr} {R : List Nat} {W : World} (h : AlAt B g0 ps r A1 A5 R W) : AlAt W.heap.size g0 ps r A1 A5 R W := ⟨h.rc, Nat.lt_of_lt_of_le h.lt h.le, h.pl.wide h.le, h.rl.wide h.le, Nat.le_refl _⟩
/-- What Report has left. -/
def RepRel (w3 : World) (m : Nat) (R : List Nat) (s15 s16 : Value) (wx : World) : Prop := ∃ A5 c5, s15 = .slice A5 m c5 ∧ s16 = .int .i64 0 ∧ Lies wx wx.heap.size A5 (natC R) ∧ Below w3.heap.size w3 wx

set_option maxRecDepth 100000 in
set_option maxHeartbeats 8000000 in
/-- damaskkeep.GridAll. -/
theorem gall_any (hC : Counts) (hA : Alls) (A : Option Addr) (l : List Pt3) (c : Nat) (a1 a2 a3 a4 a5 : Int) (w : World) (hw : ∀ o ∈ l, o.Fits) (h1 : (Lit.int .i64 a1).wf = true) (h2 : (Lit.int .i64 a2).wf = true) (h3 : (Lit.int .i64 a3).wf = true) (h4 : (Lit.int .i64 a4).wf = true) (h5 : (Lit.int .i64 a5).wf = true) (hL : Lies w w.heap.size A (ptC l)) :
    Calls Try.prog 10 #[.slice A l.length c, .int .i64 a1, .int .i64 a2, .int .i64 a3, .int .i64 a4, .int .i64 a5] w fun e w' => e = .returned (.bool true) ∧ Below w.heap.size w w' := by
  have HP : Hid (Calls Try.prog 22 #[.slice A l.length c, .int .i64 60, .int .i64 15] w (GivesPts w (ptsOf 60 15 l))) := Lib.hid (points_any A l c 60 15 w (by decide) (by decide) (by decide) hw hL)
  unfold GivesPts at HP
  have HR : Hid (∀ W, Calls Try.prog 23 #[.int .i64 a1, .int .i64 a2, .int .i64 a3, .int .i64 a4, .int .i64 15] W fun e w' => e = .returned (.agg #[.int .i64 (rcOf a1 a2 a3 a4 15).x0, .int .i64 (rcOf a1 a2 a3 a4 15).y0, .int .i64 (rcOf a1 a2 a3 a4 15).x1, .int .i64 (rcOf a1 a2 a3 a4 15).y1]) ∧ Below W.heap.size W w') := Lib.hid (fun W => rectOf_any a1 a2 a3 a4 15 W (by decide) (by decide) h1 h2 h3 h4)
  obtain ⟨⟨x0, x1, x2⟩, y0, y1, y2⟩ := rcOf_lim a1 a2 a3 a4 (bd := 15) (by decide)
  have hps := ptsF_of (n := 60) (b := 15) (by decide) (by decide) (by decide) l
  have hlim := ptsOf_lim (n := 60) (b := 15) (by decide) l
  have hlen := ptsOf_le 60 15 l
  generalize ptsOf 60 15 l = ps at *
  generalize rcOf a1 a2 a3 a4 15 = r at *
  have hF0 : r.Fits := fits_small r.x0 r.y0 r.x1 r.y1 (by omega) (by omega) (by omega) (by omega)
  have HCt := Lib.hid (fun A c W hA hW => counted_any hC A ps c r W hps hF0 hA hW)
  have HSu := Lib.hid (fun W => sure_any hC W)
  have HRp := Lib.hid (fun A c W hW => hA.report A ps c r W hps hF0 hW)
  have HKt := Lib.hid (fun A c k W hW => hA.kth A ps c r k W hps hF0 hW)
  have HTp := Lib.hid (fun A c k W hW => hA.top A ps c r k W hps hF0 hW)
  obtain ⟨n, hn⟩ : ∃ n, ps.length = n := ⟨_, rfl⟩
  have HN := Lib.hid hn
  -- the lists
  obtain ⟨R, hR⟩ : ∃ R, ssort (ltP ps ltX) (insR ps r) = R := ⟨_, rfl⟩
  obtain ⟨K, hK⟩ : ∃ K, ssort (ltP ps ltY) (insR ps r) = K := ⟨_, rfl⟩
  obtain ⟨S, hS⟩ : ∃ S, ssort (ltP ps ltW) (insR ps r) = S := ⟨_, rfl⟩
  obtain ⟨m, hm⟩ : ∃ m, (insR ps r).length = m := ⟨_, rfl⟩
  have HRm := Lib.hid (fun x => show x ∈ R ↔ x < n ∧ inR r (ptAt ps x) = true by rw [← hR, ← hn]; exact srtR_mem ps r ltX x)
  have HKm := Lib.hid (fun x => show x ∈ K ↔ x < n ∧ inR r (ptAt ps x) = true by rw [← hK, ← hn]; exact srtR_mem ps r ltY x)
  have HSm := Lib.hid (fun x => show x ∈ S ↔ x < n ∧ inR r (ptAt ps x) = true by rw [← hS, ← hn]; exact srtR_mem ps r ltW x)
  have HRn := Lib.hid (show R.Nodup by rw [← hR]; exact srtR_nodup ps r ltX)
  have HSn := Lib.hid (show S.Nodup by rw [← hS]; exact srtR_nodup ps r ltW)
  have hRl : R.length = m := by rw [← hR, ssort_length]; exact hm
  have hKl : K.length = m := by rw [← hK, ssort_length]; exact hm
  have hSl : S.length = m := by rw [← hS, ssort_length]; exact hm
  have HKr := Lib.hid (fun i j x y (hij : i < j) (hx : K[i]? = some x) (hy : K[j]? = some y) => show (ptAt ps x).y ≤ (ptAt ps y).y from kth_rises (r := r) hij (by rw [hK]; exact hx) (by rw [hK]; exact hy))
  have HSf := Lib.hid (fun i j x y (hij : i < j) (hx : S[i]? = some x) (hy : S[j]? = some y) => show (ptAt ps y).w ≤ (ptAt ps x).w from top_falls (r := r) hij (by rw [hS]; exact hx) (by rw [hS]; exact hy))
  have HLim := Lib.hid (fun x (h : x < n) => show (0 ≤ (ptAt ps x).x ∧ (ptAt ps x).x < 15) ∧ (0 ≤ (ptAt ps x).y ∧ (ptAt ps x).y < 15) ∧ (0 ≤ (ptAt ps x).w ∧ (ptAt ps x).w < 20) from hlim _ (List.mem_of_getElem? (ptAt_get (by rw [hn]; exact h))))
  have hmn : m ≤ n := by rw [← hm, ← hn]; exact insTo_length ps r ps.length
  rw [hR] at HRp
  rw [hK, hm] at HKt
  rw [hS] at HTp
  rw [hm] at HCt
  rw [hn] at hlen HP HCt HRp HKt HTp
  unfold GivesGL at HRp HTp
  unfold TellsG at HKt
  unfold Rc4.val at HCt HRp HKt HTp
  rw [hRl] at HRp
  clear hR hK hS hm hC hA hw hL hps h1 h2 h3 h4 hlim hF0
  have HRl := Lib.hid hRl
  have HKl := Lib.hid hKl
  have HSl := Lib.hid hSl
  have HPl := Lib.hid (ptC_length ps)
  have HP1 := Lib.hid (ptC_one ps)
  rw [hn] at HPl
  clear hRl hKl hSl hn
  go_enter Try.func10, Try.ntmps10
  go_wp2_with fail
  refine HP.out.mono ?_
  rintro e w1 ⟨v1, rfl, hown, hb1⟩
  obtain ⟨A1, c1, rfl, hl1, hn1, _⟩ := own_slice_all hown
  have HL1 := Lib.hid hl1
  have HN1 := Lib.hid hn1
  have HB1 := Lib.hid hb1
  clear hown hl1 hn1 hb1 HP
  go_wp2_with fail
  refine (HR.out _).mono ?_
  rintro e w2 ⟨rfl, hb2⟩
  have HB2 := Lib.hid (chain HB1.out hb2)
  have HL2 := Lib.hid (HL1.out.on hb2)
  clear hb2 HR
  go_upto_region 3 with fail
  have HX := Lib.hid (Blk.new w2 27 [.int .i64 r.x0, .int .i64 r.y0, .int .i64 r.x1, .int .i64 r.y1])
  have HL3 := Lib.hid (HL2.out.alloc (.cells #[.int .i64 r.x0, .int .i64 r.y0, .int .i64 r.x1, .int .i64 r.y1] 27))
  have HB3 := Lib.hid (chain HB2.out (bnew w2 (.cells #[.int .i64 r.x0, .int .i64 r.y0, .int .i64 r.x1, .int .i64 r.y1] 27)))
  generalize w2.alloc (.cells #[.int .i64 r.x0, .int .i64 r.y0, .int .i64 r.x1, .int .i64 r.y1] 27) = w3 at *
  generalize w2.heap.size = g0 at *
  have hg0 := HX.out.lt
  have s0 := HX.out.cell 0
  have s1 := HX.out.cell 1
  have s2 := HX.out.cell 2
  have s3 := HX.out.cell 3
  go_cut [15, 16] (fun s15 s16 wx => RepRel w3 m R s15 s16 wx)
  case first =>
    go_region_law (first
      | ((refine step_append_recs _ (by rfl) (.const (.slice none 0 0)) (.tmp 39) 22 (by rfl) w3.heap.size 43 (.agg #[.int .i64 0, .int .i64 0, .int .i64 0]) 3 24 Try.underlying22 kpt_info rfl (by decide) (.slice none 0 0) 0 [] (by rfl) (World.ownsRow_nil _ _ _ _) A1 n c1 (ptC ps) (by rfl) HPl.out HN1.out (by exact HL3.out) HP1.out (by simp only [maxLen]; omega) (by omega) (by exact Nat.le_refl _) ?_; intro v1 w4 hown hg; obtain ⟨A4, c4, rfl, hl4, _, _⟩ := own_slice_all hown; have HL4 := Lib.hid (show Lies w4 w4.heap.size A4 (ptC ps) by simpa using hl4); have hb4 : Below w3.heap.size w3 w4 := ⟨hg.os, hg.tape, hg.output, hg.size, fun k hk => hg.block k hk (by simp [Value.ownBlock])⟩; have t0 := (bcell hb4 _ _ hg0).trans s0; have t1 := (bcell hb4 _ _ hg0).trans s1; have t2 := (bcell hb4 _ _ hg0).trans s2; have t3 := (bcell hb4 _ _ hg0).trans s3; have HB4 := Lib.hid hb4; clear hown hg hl4 hb4))
      | (go_simp; go_at_call 15; go_loud (refine (HRp.out _ _ _ ?_).mono ?_); (simpa using HL4.out); rintro e w5 ⟨A5, c5, rfl, _, hl5, _, _, hb5⟩))
    all_goals
      go_simp
      go_wp2_with fail
      go_meet
      case rel => exact ⟨A5, c5, rfl, rfl, hl5, chain HB4.out hb5⟩
  case rest =>
    obtain ⟨A5, c5, rfl, rfl, hl5, hb35⟩ := hcut
    rename World => w5
    have HB5 := Lib.hid (chain HB3.out hb35)
    have HA5 := Lib.hid (show AlAt w5.heap.size g0 ps r A1 A5 R w5 from ⟨HX.out.below hb35 hg0, (HX.out.below hb35 hg0).lt, HL3.out.on hb35, hl5, Nat.le_refl _⟩)
    clear hl5 hb35 s0 s1 s2 s3 HX HL3 HRp
    have hmm0 : ((m : Int) != (m : Int)) = false := by simp
    go_wp2_with fail
    refine (HSu.out _).mono ?_
    rintro e w6 ⟨rfl, hb6⟩
    have HB6 := Lib.hid (chain HB5.out hb6)
    have HA6 := Lib.hid (HA5.out.keep hb6).wide
    have s0 := HA6.out.rc.cell 0
    have s1 := HA6.out.rc.cell 1
    have s2 := HA6.out.rc.cell 2
    have s3 := HA6.out.rc.cell 3
    clear hb6
    go_wp2_with fail
    refine (HCt.out A1 c1 _ HN1.out (by exact HA6.out.pl)).mono ?_
    rintro e w7 ⟨rfl, hb7⟩
    have HB7 := Lib.hid (chain HB6.out hb7)
    have HA7 := Lib.hid (HA6.out.keep hb7).wide
    have hmk := make_row (P := Try.prog) 47 4 (.bool false) 1 Try.underlying47 kbool_info rfl n (by omega) (by omega)
    clear hb7 s0 s1 s2 s3 HCt
    have hbk0 := zeros_blk w7 (.bool false) n 4
    rw [← mkG_nil] at hbk0
    have HB8 := Lib.hid (HB7.out.alloc HB7.out.size (.cells (zeros (.bool false) n) 4))
    have HA8 := Lib.hid (HA7.out.keep (bnew w7 (.cells (zeros (.bool false) n) 4)))
    have hwle := HB7.out.size
    go_wp2_with fail
    generalize w7.alloc (.cells (zeros (.bool false) n) 4) = w8 at *
    have HK0 := Lib.hid hbk0
    have hg1 := hbk0.lt
    clear hbk0 HA7 HB7 hmk
    generalize w7.heap.size = g1 at *
    go_loopw [18] (fun u w' => ∃ i : Nat, i ≤ m ∧ u = .int .i64 i ∧ Blk w' g1 4 (mkG n (R.take i)) ∧ Below g1 w8 w') (fun u _ => m - (intOf u).toNat)
    case atStart => exact ⟨0, Nat.zero_le _, rfl, by rw [List.take_zero]; exact HK0.out, Below.refl _ _⟩
    case round =>
      obtain ⟨i, hi, rfl, hbk, hbl⟩ := hrel
      have HBk := Lib.hid hbk
      have HBl := Lib.hid hbl
      have HAr := Lib.hid (HA8.out.keep hbl)
      by_cases hlt : i < m
      · as_aux_lemma =>
          obtain ⟨b, o, x, rfl, hb, hx, hcx⟩ := Lies.at_ (f := fun x : Nat => Value.int .i64 (x : Int)) (l := R) HAr.out.rl (k := i) (by rw [HRl.out]; exact hlt)
          obtain ⟨hxn, hxin⟩ := (HRm.out x).1 (List.mem_of_getElem? hx)
          obtain ⟨b2, o2, rfl, hb2, px, py, pw⟩ := pts_at HAr.out.pl (ptAt_get (ps := ps) (i := x) (by rw [HN.out]; exact hxn))
          obtain ⟨r0, r1, r2, r3⟩ := inR_parts hxin
          have hc := hbk.cell x
          rw [mkG_get _ hxn, decide_eq_false (take_fresh HRn.out hx)] at hc
          have HPu := Lib.hid (fun k => (hbk.drewN k).put x (.bool true))
          rw [mkG_step, ← take_snoc hx] at HPu
          have hfz := fun k => (hbk.drewN k).frozen x
          have s0 := HAr.out.rc.cell 0
          have s1 := HAr.out.rc.cell 1
          have s2 := HAr.out.rc.cell 2
          have s3 := HAr.out.rc.cell 3
          have hil : (i : Int) < (m : Int) := by omega
          have hxI : (x : Int) < (n : Int) := by omega
          have HBd := Lib.hid (fun k => (bdN hbl k).setCell (p := ⟨g1, x, none⟩) (Nat.le_refl _) (.bool true))
          generalize (ptAt ps x).x = X at *
          generalize (ptAt ps x).y = Y at *
          clear hbk hbl hx hxin hb hb2 pw
          go_wp2_with fail
          go_quiet (fail)
          go_wp2_with fail
          go_roundw
          case rel => exact ⟨i + 1, by omega, by go_num, HPu.out _, HBd.out _⟩
          case measure => simp [intOf]; omega
      · obtain rfl : m = i := by omega
        have hRt : R.take m = R := by rw [← HRl.out]; exact List.take_length
        rw [hRt] at hbk
        have HBR := Lib.hid hbk
        have HAa := Lib.hid HAr.out.wide
        have HBa := Lib.hid (HB8.out.trans (hbl.mono hwle))
        have hgr := hbk.lt
        clear hbk hbl HBk HBl HAr HA8 HB8 HK0 hRt
        generalize wr = w9 at *
        have hz1 : ∀ x, K[0]? = some x → (-1 : Int) ≤ (ptAt ps x).y := fun x hx => by
          have h1 := ((HKm.out x).1 (List.mem_of_getElem? hx)).1
          have := (HLim.out x h1).2.1.1
          omega
        have HZ1 := Lib.hid hz1
        clear hz1
        go_wp2_with fail
        go_loopw [20, 21] (fun v u w' => ∃ (i : Nat) (y : Int), i ≤ m ∧ u = .int .i64 i ∧ v = .int .i64 y ∧ (∀ x, K[i]? = some x → y ≤ (ptAt ps x).y) ∧ Below w9.heap.size w9 w') (fun _ u _ => m - (intOf u).toNat)
        case atStart => exact ⟨0, -1, Nat.zero_le _, rfl, rfl, HZ1.out, Below.refl _ _⟩
        case round =>
          obtain ⟨i, y, hi, rfl, rfl, hy, hbl⟩ := hrel
          have HBl := Lib.hid hbl
          have HAr := Lib.hid (HAa.out.keep hbl).wide
          have HBk := Lib.hid (HBR.out.below hbl hgr)
          have HYy := Lib.hid hy
          clear hbl hy
          by_cases hlt : i < m
          · as_aux_lemma =>
              obtain ⟨x, hx⟩ : ∃ x, K[i]? = some x := ⟨_, List.getElem?_eq_getElem (by rw [HKl.out]; exact hlt)⟩
              obtain ⟨hxn, hxin⟩ := (HKm.out x).1 (List.mem_of_getElem? hx)
              have hkv : kthV K (i : Int) = ((x : Nat) : Int) := (if_pos ⟨by omega, by rw [HKl.out]; omega⟩).trans (by rw [Int.toNat_natCast, List.getD_eq_getElem?_getD, hx]; rfl)
              have hke : kthE m (i : Int) = 0 := (if_neg (by omega)).trans (if_neg (by omega))
              have HKi := Lib.hid (HKt.out A1 c1 i wr HAr.out.pl)
              rw [hkv, hke] at HKi
              have hyx := HYy.out x hx
              have HNx := Lib.hid (fun z (hz : K[i + 1]? = some z) => HKr.out i (i + 1) x z (by omega) hx hz)
              have HxR := Lib.hid (show decide (x ∈ R) = true from decide_eq_true ((HRm.out x).2 ⟨hxn, hxin⟩))
              have s0 := HAr.out.rc.cell 0
              have s1 := HAr.out.rc.cell 1
              have s2 := HAr.out.rc.cell 2
              have s3 := HAr.out.rc.cell 3
              have hil : (i : Int) < (m : Int) := by omega
              have hxI : (x : Int) < (n : Int) := by omega
              clear hkv hke hx hxin
              go_wp2_with fail
              refine HKi.out.mono ?_
              rintro e w10 ⟨rfl, hb10⟩
              have HBn := Lib.hid (chain HBl.out hb10)
              have HA10 := Lib.hid (HAr.out.keep hb10)
              have hc10 := (HBk.out.below hb10 HBk.out.lt).cell x
              rw [mkG_get _ hxn, HxR.out] at hc10
              obtain ⟨b2, o2, rfl, hb2, px, py, pw⟩ := pts_at HA10.out.pl (ptAt_get (ps := ps) (i := x) (by rw [HN.out]; exact hxn))
              clear s0 s1 s2 s3 hb10 px pw hb2
              generalize (ptAt ps x).y = Y at *
              go_wp2_with fail
              go_roundw
              case rel => exact ⟨i + 1, Y, by omega, by go_num, rfl, HNx.out, HBn.out⟩
              case measure => simp [intOf]; omega
          · obtain rfl : m = i := by omega
            have HBb := Lib.hid (chain HBa.out HBl.out)
            have hgq := HBk.out.lt
            clear HYy HBl HKr HKm HKt HZ1 HAa HBR HBa
            generalize wr = w10 at *
            obtain ⟨m2, hm2⟩ : ∃ m2, m + 2 = m2 := ⟨_, rfl⟩
            have e2 : (m : Int) + 2 = (m2 : Int) := by omega
            have hpk := pick_lt (n := m2) (by omega) a5
            have HPk := Lib.hid (fun W => pick_any a5 m2 W (by omega) (by omega) h5)
            obtain ⟨q, hq⟩ : ∃ q, pick m2 a5 = q := ⟨_, rfl⟩
            rw [hq] at hpk HPk
            have HTq := Lib.hid (HTp.out A1 c1 q w10 HAr.out.pl)
            unfold topN at HTq
            rw [Int.toNat_natCast] at HTq
            have htl : (S.take q).length = min q m := by rw [List.length_take, HSl.out]
            have HTs := Lib.hid (show ∀ i x, (S.take q)[i]? = some x → S[i]? = some x from fun i x h => by
              rw [List.getElem?_take] at h
              split at h
              · exact h
              · cases h)
            have HTe := Lib.hid (show ∀ i x, S[i]? = some x → i < q → (S.take q)[i]? = some x from fun i x h h2 => by rw [List.getElem?_take, if_pos h2]; exact h)
            have HTn := Lib.hid (HSn.out.sublist (List.take_sublist q S))
            generalize hT : S.take q = T at *
            obtain ⟨tl, htl2⟩ : ∃ tl, T.length = tl := ⟨_, rfl⟩
            have HTl := Lib.hid htl2
            rw [htl2] at HTq htl
            have hmin : (if m < q then (m : Int) else (q : Int)) = (tl : Int) := by split <;> omega
            have htt : ((tl : Int) != (tl : Int)) = false := by simp
            have htm : tl ≤ m := by omega
            have HTle := Lib.hid htl
            have s0 := HAr.out.rc.cell 0
            have s1 := HAr.out.rc.cell 1
            have s2 := HAr.out.rc.cell 2
            have s3 := HAr.out.rc.cell 3
            have hm2b : m2 ≤ 62 := by omega
            clear hm2 hq hT htl2 htl HTp
            go_wp2_with fail
            refine (HPk.out _).mono ?_
            rintro e w' ⟨rfl, rfl⟩
            go_wp2_with fail
            refine HTq.out.mono ?_
            rintro e w11 ⟨A6, c6, rfl, _, hl6, _, _, hb11⟩
            have HBc := Lib.hid (chain HBb.out hb11)
            have HA11 := Lib.hid (HAr.out.keep hb11).wide
            have HK11 := Lib.hid (HBk.out.below hb11 hgq)
            have HL6 := Lib.hid hl6
            have hmk := make_row (P := Try.prog) 47 4 (.bool false) 1 Try.underlying47 kbool_info rfl n (by omega) (by omega)
            clear s0 s1 s2 s3 hb11 hl6 HBb HAr HBk hgq
            have hbk2 := zeros_blk w11 (.bool false) n 4
            rw [← mkG_nil] at hbk2
            have HB12 := Lib.hid (HBc.out.alloc HBc.out.size (.cells (zeros (.bool false) n) 4))
            have HA12 := Lib.hid (HA11.out.keep (bnew w11 (.cells (zeros (.bool false) n) 4)))
            have HK12 := Lib.hid (HK11.out.below (bnew w11 (.cells (zeros (.bool false) n) 4)) HK11.out.lt)
            have HL12 := Lib.hid (HL6.out.below (bnew w11 (.cells (zeros (.bool false) n) 4)))
            have hle11 := HBc.out.size
            have hg11 := HK11.out.lt
            have HS0 := Lib.hid (show ∀ j x, 0 ≤ j → S[j]? = some x → (ptAt ps x).w ≤ 100 from fun j x _ hx => by
              have h1 := ((HSm.out x).1 (List.mem_of_getElem? hx)).1
              have := (HLim.out x h1).2.2.2
              omega)
            clear HBc HA11 HK11 HL6
            go_wp2_with fail
            generalize w11.alloc (.cells (zeros (.bool false) n) 4) = w12 at *
            have HK0 := Lib.hid hbk2
            have hg2 := hbk2.lt
            clear hbk2 hmk
            generalize w11.heap.size = g2 at *
            go_loopw [27, 29] (fun v u w' => ∃ (i : Nat) (y : Int), i ≤ tl ∧ u = .int .i64 i ∧ v = .int .i64 y ∧ (∀ j x, i ≤ j → S[j]? = some x → (ptAt ps x).w ≤ y) ∧ Blk w' g2 4 (mkG n (T.take i)) ∧ Below g2 w12 w') (fun _ u _ => tl - (intOf u).toNat)
            case atStart => exact ⟨0, 100, Nat.zero_le _, rfl, rfl, HS0.out, by rw [List.take_zero]; exact HK0.out, Below.refl _ _⟩
            case round =>
              obtain ⟨i, y, hi, rfl, rfl, hy, hbk, hbl⟩ := hrel
              have HBk := Lib.hid hbk
              have HBl := Lib.hid hbl
              have HYy := Lib.hid hy
              clear hy
              by_cases hlt : i < tl
              · as_aux_lemma =>
                  obtain ⟨b, o, x, rfl, hb, hx, hcx⟩ := Lies.at_ (f := fun x : Nat => Value.int .i64 (x : Int)) (l := T) (HL12.out.keep fun q hq => hbl.cell (p := q) hq) (k := i) (by rw [HTl.out]; exact hlt)
                  have hxS := HTs.out i x hx
                  obtain ⟨hxn, hxin⟩ := (HSm.out x).1 (List.mem_of_getElem? hxS)
                  have HAr := Lib.hid (HA12.out.keep hbl)
                  obtain ⟨b2, o2, rfl, hb2, px, py, pw⟩ := pts_at HAr.out.pl (ptAt_get (ps := ps) (i := x) (by rw [HN.out]; exact hxn))
                  have k1 := (HK12.out.below hbl hg11).cell x
                  rw [mkG_get _ hxn, decide_eq_true ((HRm.out x).2 ⟨hxn, hxin⟩)] at k1
                  have k2 := hbk.cell x
                  rw [mkG_get _ hxn, decide_eq_false (take_fresh HTn.out hx)] at k2
                  have hfz := hbk.frozen x
                  have HPu := Lib.hid (hbk.put x (.bool true))
                  rw [mkG_step, ← take_snoc hx] at HPu
                  have HBn := Lib.hid (hbl.setCell (p := ⟨g2, x, none⟩) (Nat.le_refl _) (.bool true))
                  have hwy := HYy.out i x (Nat.le_refl _) hxS
                  have HNx := Lib.hid (fun j z (hj : i + 1 ≤ j) (hz : S[j]? = some z) => HSf.out i j x z (by omega) hxS hz)
                  have hil : (i : Int) < (tl : Int) := by omega
                  have hxI : (x : Int) < (n : Int) := by omega
                  have hn1 : ¬ b = g2 := by omega
                  have hn2 : ¬ b2 = g2 := by omega
                  clear hx hxS hxin hb hb2 px py hbk hbl
                  generalize (ptAt ps x).w = W at *
                  go_wp2_with fail
                  go_roundw
                  case rel => exact ⟨i + 1, W, by omega, by go_num, rfl, HNx.out, HPu.out, HBn.out⟩
                  case measure => simp [intOf]; omega
              · as_aux_lemma =>
                  obtain rfl : tl = i := by omega
                  have hTt : T.take tl = T := by rw [← HTl.out]; exact List.take_length
                  rw [hTt] at hbk
                  have HBT := Lib.hid hbk
                  have HAx := Lib.hid (HA12.out.keep hbl).wide
                  have HKx := Lib.hid (HK12.out.below hbl hg11)
                  have HBx := Lib.hid (HB12.out.trans (hbl.mono hle11))
                  clear hbk hbl HBk HBl HA12 HK12 HL12 HB12 HK0 hTt HS0
                  generalize wr = w13 at *
                  have HEnd := Lib.hid (fun (x : Nat) (_ : x < n) (h1 : x ∈ R) (h2 : x ∉ T) => show (ptAt ps x).w ≤ y by
                    obtain ⟨j, hj⟩ := List.getElem?_of_mem ((HSm.out x).2 ((HRm.out x).1 h1))
                    have hjm : j < m := by
                      have := (List.getElem?_eq_some_iff.1 hj).1
                      rwa [HSl.out] at this
                    have hjq : q ≤ j := by
                      rcases Nat.lt_or_ge j q with h | h
                      · exact absurd (List.mem_of_getElem? (HTe.out j x hj h)) h2
                      · exact h
                    exact HYy.out j x (by have := HTle.out; omega) hj)
                  go_wp2_with fail
                  go_loopw [30] (fun u w' => ∃ i : Nat, i ≤ n ∧ u = .int .i64 i ∧ w' = w13) (fun u _ => n - (intOf u).toNat)
                  case atStart => exact ⟨0, Nat.zero_le _, rfl, rfl⟩
                  case round =>
                    obtain ⟨i, hi, rfl, rfl⟩ := hrel
                    by_cases hlt : i < n
                    · have k1 := HKx.out.cell i
                      rw [mkG_get _ hlt] at k1
                      have k2 := HBT.out.cell i
                      rw [mkG_get _ hlt] at k2
                      obtain ⟨b2, o2, rfl, hb2, px, py, pw⟩ := pts_at HAx.out.pl (ptAt_get (ps := ps) (i := i) (by rw [HN.out]; exact hlt))
                      have hil : (i : Int) < (n : Int) := by omega
                      have HEi := Lib.hid (HEnd.out i hlt)
                      clear px py hb2
                      by_cases hr : i ∈ R
                      · rw [decide_eq_true hr] at k1
                        by_cases ht : i ∈ T
                        · rw [decide_eq_true ht] at k2
                          clear HEi pw
                          go_wp2_with fail
                          go_roundw
                          case rel => exact ⟨i + 1, by omega, by go_num, trivial⟩
                          case measure => simp [intOf]; omega
                        · rw [decide_eq_false ht] at k2
                          have hwy := HEi.out hr ht
                          clear HEi
                          generalize (ptAt ps i).w = W at *
                          go_wp2_with fail
                          go_roundw
                          case rel => exact ⟨i + 1, by omega, by go_num, trivial⟩
                          case measure => simp [intOf]; omega
                      · rw [decide_eq_false hr] at k1
                        clear HEi pw
                        go_wp2_with fail
                        go_roundw
                        case rel => exact ⟨i + 1, by omega, by go_num, trivial⟩
                        case measure => simp [intOf]; omega
                    · obtain rfl : n = i := by omega
                      go_wp2_with fail
                      go_ret
                      exact ⟨rfl, HBx.out⟩
end Go.Proofs.Ythmfcdefdbeefaa
