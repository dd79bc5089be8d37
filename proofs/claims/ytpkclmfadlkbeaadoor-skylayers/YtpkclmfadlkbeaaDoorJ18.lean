/-
  What the document's SkyOf and SkyLayers return: contracts, walked over the translated text. The package variable everywhere lies as its initialiser lays it ('Ev'). Plain mathematics of the document's way to the layers: the order by X and Y, the greater first. What the document's SkyLayers returns: its contract, walked over the translated text. The package variable everywhere lies as its initialiser lays it ('Ev'). No condition but what each theorem names.
-/
import Derived.Test.YtpkclmfadlkbeaaDoorJ17
import Derived.Test.YtpkclmfadlkbeaaDoorJ16
namespace Go.Proofs.YtpkclmfadlkbeaaDoor
open Go.RowKit Go.Sort

/-- The rectangle everywhere in its variable. -/
def Ev (w : World) : Prop := w.cell? ⟨0, 0, none⟩ = some (.int .i64 (-1048576)) ∧ w.cell? ⟨0, 1, none⟩ = some (.int .i64 (-1048576)) ∧ w.cell? ⟨0, 2, none⟩ = some (.int .i64 1048576) ∧ w.cell? ⟨0, 3, none⟩ = some (.int .i64 1048576)
theorem Ev.on {w w' : World} (h : Ev w) (hb : Below w.heap.size w w') : Ev w' := ⟨(hb.cell (p := ⟨0, 0, none⟩) (cell_lt h.1)).trans h.1, (hb.cell (p := ⟨0, 1, none⟩) (cell_lt h.2.1)).trans h.2.1, (hb.cell (p := ⟨0, 2, none⟩) (cell_lt h.2.2.1)).trans h.2.2.1, (hb.cell (p := ⟨0, 3, none⟩) (cell_lt h.2.2.2)).trans h.2.2.2⟩

/-- The order by X and then by Y, the greater first. -/
def gtX (p q : Pt3) : Bool := decide (q.x < p.x) || (decide (p.x = q.x) && decide (q.y < p.y))
theorem gtX_iff {p q : Pt3} : gtX p q = true ↔ q.x < p.x ∨ (p.x = q.x ∧ q.y < p.y) := by simp [gtX]
theorem gtX_swo : SWO gtX := ⟨fun x => by rw [Bool.eq_false_iff, ne_eq, gtX_iff]; omega, fun x y z h1 h2 => by rw [gtX_iff] at *; omega, fun x y z h1 h2 => by rw [Bool.eq_false_iff, ne_eq, gtX_iff] at *; omega⟩

set_option maxHeartbeats 1000000 in
theorem ord_sky : Orders 14 ltX := fun ⟨x, y, z⟩ ⟨x2, y2, z2⟩ w => by
  unfold ltX Pt3.val
  have HB := Lib.hid (((Grown.refl w).alloc (.cells #[.int .i64 x, .int .i64 y, .int .i64 z] 35)).alloc (.cells #[.int .i64 x2, .int .i64 y2, .int .i64 z2] 35))
  by_cases h1 : x < x2
  · rw [decide_eq_true h1]
    go_enter Tryd.func14, Tryd.ntmps14
    go_wp2
    go_ret
    exact ⟨rfl, HB.out⟩
  · by_cases h2 : x = x2
    · by_cases h3 : y < y2
      · rw [decide_eq_false h1, decide_eq_true h2, decide_eq_true h3]
        have he : (x == x2) = true := by simpa using h2
        clear h2
        go_enter Tryd.func14, Tryd.ntmps14
        go_wp2
        go_ret
        exact ⟨rfl, HB.out⟩
      · rw [decide_eq_false h1, decide_eq_true h2, decide_eq_false h3]
        have he : (x == x2) = true := by simpa using h2
        clear h2
        go_enter Tryd.func14, Tryd.ntmps14
        go_wp2
        go_ret
        exact ⟨rfl, HB.out⟩
    · rw [decide_eq_false h1, decide_eq_false h2]
      have he : (x == x2) = false := by simpa using h2
      go_enter Tryd.func14, Tryd.ntmps14
      go_wp2
      go_ret
      exact ⟨rfl, HB.out⟩
set_option maxHeartbeats 1000000 in
theorem ord_lay : Orders 16 gtX := fun ⟨x, y, z⟩ ⟨x2, y2, z2⟩ w => by
  unfold gtX Pt3.val
  have HB := Lib.hid (((Grown.refl w).alloc (.cells #[.int .i64 x, .int .i64 y, .int .i64 z] 35)).alloc (.cells #[.int .i64 x2, .int .i64 y2, .int .i64 z2] 35))
  by_cases h1 : x2 < x
  · rw [decide_eq_true h1]
    go_enter Tryd.func16, Tryd.ntmps16
    go_wp2
    go_ret
    exact ⟨rfl, HB.out⟩
  · by_cases h2 : x = x2
    · by_cases h3 : y2 < y
      · rw [decide_eq_false h1, decide_eq_true h2, decide_eq_true h3]
        have he : (x == x2) = true := by simpa using h2
        clear h2
        go_enter Tryd.func16, Tryd.ntmps16
        go_wp2
        go_ret
        exact ⟨rfl, HB.out⟩
      · rw [decide_eq_false h1, decide_eq_true h2, decide_eq_false h3]
        have he : (x == x2) = true := by simpa using h2
        clear h2
        go_enter Tryd.func16, Tryd.ntmps16
        go_wp2
        go_ret
        exact ⟨rfl, HB.out⟩
    · rw [decide_eq_false h1, decide_eq_false h2]
      have he : (x == x2) = false := by simpa using h2
      go_enter Tryd.func16, Tryd.ntmps16
      go_wp2
      go_ret
      exact ⟨rfl, HB.out⟩
set_option maxHeartbeats 1000000 in
theorem rsky_err (A : Option Addr) (ps : List Pt3) (c : Nat) (w : World) (hb : ps.length ≤ 17592186044416) (hL : Lies w w.heap.size A (ptC ps)) (he : ptsF ps ≠ 0) :
    Calls Tryd.prog 6 #[.slice A ps.length c] w (NoGL w (ptsF ps)) := by
  have HP := Lib.hid (rpf_any A ps c w hb hL)
  generalize ptsF ps = z at *
  generalize ps.length = n at *
  have hz : (z != 0) = true := by simpa using he
  clear hL he
  go_enter Tryd.func6, Tryd.ntmps6
  go_wp2_with fail
  refine HP.out.mono ?_
  rintro e w1 ⟨rfl, hb1⟩
  go_wp2_with fail
  go_ret2
  exact ⟨rfl, hb1⟩
set_option maxHeartbeats 2000000 in
/-- The document's SkyOf. -/
theorem rsky_ok (A : Option Addr) (ps : List Pt3) (c : Nat) (w : World) (hE : Ev w) (hL : Lies w w.heap.size A (ptC ps)) (he : ptsF ps = 0) :
    Calls Tryd.prog 6 #[.slice A ps.length c] w (GivesGL w (skyL ps)) := by
  have hn := (ptsF_zero he).1
  have HP := Lib.hid (rpf_any A ps c w (by omega) hL)
  rw [he] at HP
  have HL := Lib.hid hL
  have HE := Lib.hid hE
  have hwi := fun W (h : Below w.heap.size w W) => rwithin_any 14 (enters_of Tryd.func14 (by kernel_rfl) rfl) ltX ltX_swo ord_sky A ps c allR W hn (hL.on h)
  rw [ins_all he] at hwi
  have HOm := Lib.hid (fun x (hx : x ∈ ssort (ltP ps ltX) (List.range ps.length)) => List.mem_range.1 ((ssort_perm (ltP ps ltX) (List.range ps.length)).mem_iff.1 hx))
  have HOl := Lib.hid (show (ssort (ltP ps ltX) (List.range ps.length)).length = ps.length by rw [ssort_length, List.length_range])
  unfold skyL
  generalize ssort (ltP ps ltX) (List.range ps.length) = O at *
  have HWi := Lib.hid hwi
  unfold GivesN Rc4.val allR at HWi
  obtain ⟨n, hk⟩ : ∃ n, ps.length = n := ⟨_, rfl⟩
  have HN := Lib.hid hk
  rw [HOl.out] at HWi
  rw [hk] at hn HOm HOl HWi HP ⊢
  clear hk hL hE he hwi
  go_enter Tryd.func6, Tryd.ntmps6
  go_wp2_with fail
  refine HP.out.mono ?_
  rintro e w1 ⟨rfl, hb1⟩
  have HB1 := Lib.hid hb1
  have HL1 := Lib.hid (HL.out.on hb1)
  have hE1 := HE.out.on hb1
  obtain ⟨g0, g1, g2, g3⟩ := hE1
  clear hb1
  go_wp2_with fail
  refine (HWi.out _ HB1.out).mono ?_
  rintro e w2 ⟨v, rfl, hown, hb2⟩
  obtain ⟨A2, c2, rfl, hle2, _, hl2, hn2, hnew⟩ := own_slice hown
  have HB2 := Lib.hid (chain HB1.out hb2)
  have HL2 := Lib.hid (HL1.out.on hb2)
  have HO2 := Lib.hid hl2
  clear hown hb2 hl2 hn2 hnew g0 g1 g2 g3
  go_wp2_with fail
  go_loopw [5, 20] (fun v u w' => ∃ j : Nat, j ≤ n ∧ u = .int .i64 j ∧ w'.ownsRow w2.heap.size 3 1 v ((O.take j).filter (freeP ps)).length (natC ((O.take j).filter (freeP ps))) ∧ Below w2.heap.size w2 w') (fun _ u _ => n - (intOf u).toNat)
  case atStart => exact ⟨0, Nat.zero_le _, rfl, World.ownsRow_nil _ _ _ _, Below.refl _ _⟩
  case round =>
    obtain ⟨j, hj, rfl, hown, hbl⟩ := hrel
    have HOw := Lib.hid hown
    have HBl := Lib.hid hbl
    by_cases hlt : j < n
    · obtain ⟨b, o, x, rfl, hb, hx, hcx⟩ := Lies.at_ (f := fun x : Nat => Value.int .i64 (x : Int)) (l := O) (HO2.out.on hbl) (k := j) (by rw [HOl.out]; exact hlt)
      have hxn := HOm.out x (List.mem_of_getElem? hx)
      have HKs := Lib.hid (show (O.take (j + 1)).filter (freeP ps) = (O.take j).filter (freeP ps) ++ (if freeP ps x = true then [x] else []) by
        rw [List.take_add_one, hx, Option.toList_some, List.filter_append]
        congr 1
        cases h : freeP ps x with
        | false => simp [h]
        | true => simp [h])
      have hkl : ((O.take j).filter (freeP ps)).length ≤ n := Nat.le_trans (List.length_filter_le _ _) (by rw [List.length_take]; omega)
      have HFr := Lib.hid (show freeP ps x = !under ps x n by rw [← HN.out]; rfl)
      have HSt := Lib.hid (fun m q (hq : ps[m]? = some q) => under_step hq x)
      have HP1 := Lib.hid (ptAt_get (ps := ps) (i := x) (by rw [HN.out]; exact hxn))
      obtain ⟨a, ha⟩ : ∃ a, ptAt ps x = a := ⟨_, rfl⟩
      rw [ha] at HP1 HSt
      have HAb := Lib.hid (fun q W => rabove_any q a W)
      unfold Pt3.val at HAb
      generalize (O.take j).filter (freeP ps) = k at *
      generalize freeP ps x = fx at *
      have hjI : (j : Int) < (n : Int) := by omega
      have hxI : (x : Int) < (n : Int) := by omega
      clear hown hbl hx ha
      go_wp2_with fail
      go_loopw [8, 26] (fun f u w' => ∃ (m : Nat) (t : Bool), m ≤ n ∧ u = .int .i64 m ∧ f = .bool t ∧ under ps x m = !t ∧ Below wr.heap.size wr w') (fun _ u _ => n - (intOf u).toNat)
      case atStart => exact ⟨0, true, Nat.zero_le _, rfl, rfl, rfl, Below.refl _ _⟩
      case round =>
        obtain ⟨m, t, hm, rfl, rfl, htt, hbl⟩ := hrel
        have HBm := Lib.hid hbl
        have hLr := HL2.out.on (chain HBl.out hbl)
        by_cases hlt2 : m < n
        · obtain ⟨q, hq⟩ : ∃ q, ps[m]? = some q := ⟨_, List.getElem?_eq_getElem (by rw [HN.out]; exact hlt2)⟩
          obtain ⟨b1, o1, rfl, hb1, qx, qy, qw⟩ := pts_at hLr hq
          obtain ⟨b2, o2, hAA, hb2, ax, ay, aw⟩ := pts_at hLr HP1.out
          cases hAA
          have HSm := Lib.hid (HSt.out m q hq)
          have HA := Lib.hid (fun W => HAb.out q W)
          unfold Pt3.val at HA
          have hmI : (m : Int) < (n : Int) := by omega
          clear hLr hbl hq HFr
          rw [htt] at HSm
          clear htt
          generalize dom q a = d at *
          have hbA := bnew wr (.cells #[.int .i64 q.x, .int .i64 q.y, .int .i64 q.w] 35)
          have HBx := Lib.hid (chain HBm.out hbA)
          have HK := Blk.new wr 35 [.int .i64 q.x, .int .i64 q.y, .int .i64 q.w]
          go_wp2_with fail
          have hsz := HK.lt
          have k0 := HK.cell 0
          have k1 := HK.cell 1
          have k2 := HK.cell 2
          have a0 := (bcell hbA _ _ hb2).trans ax
          have a1 := (bcell hbA _ _ hb2).trans ay
          have a2 := (bcell hbA _ _ hb2).trans aw
          clear qx qy qw ax ay aw hbA HK
          generalize wr.alloc (.cells #[.int .i64 q.x, .int .i64 q.y, .int .i64 q.w] 35) = wa at *
          cases t with
          | false =>
            refine wp_region_held_drew (S := fun w' => True) (by kernel_rfl) trivial (fun hHeld1 => ?_)
            refine wpAnyH_take (i := 0) (oi := ⟨some 30, _, _, _, _, _⟩) (v := ?_) rfl (by kernel_rfl) (by kernel_rfl) (by kernel_rfl) (fun _ _ _ h => h) (Or.inl ⟨by kernel_rfl, ?_⟩) (by assumption) ?_
            rotate_left
            · (intro w hSw; (try dsimp only at hSw); go_simp; (try with_reducible rfl))
            try simp only [Act.put, List.setIfInBounds_toArray, List.set_cons_zero, List.set_cons_succ]
            refine wpAnyH_take (i := 1) (oi := ⟨some 31, _, _, _, _, _⟩) (v := ?_) rfl (by kernel_rfl) (by kernel_rfl) (by kernel_rfl) (fun _ _ _ h => h) (Or.inl ⟨by kernel_rfl, ?_⟩) (by assumption) ?_
            rotate_left
            · (intro w hSw; (try dsimp only at hSw); go_simp; (try with_reducible rfl))
            try simp only [Act.put, List.setIfInBounds_toArray, List.set_cons_zero, List.set_cons_succ]
            refine wpAnyH_take (i := 2) (oi := ⟨some 32, _, _, _, _, _⟩) (v := undef) rfl (by kernel_rfl) (by kernel_rfl) (by kernel_rfl) (fun _ _ _ h => h) (Or.inr ⟨by kernel_rfl, rfl⟩) (by assumption) ?_
            try simp only [Act.put, List.setIfInBounds_toArray, List.set_cons_zero, List.set_cons_succ]
            refine wpAnyH_take (i := 3) (oi := ⟨some 33, _, _, _, _, _⟩) (v := undef) rfl (by kernel_rfl) (by kernel_rfl) (by kernel_rfl) (fun _ _ _ h => h) (Or.inr ⟨by kernel_rfl, rfl⟩) (by assumption) ?_
            try simp only [Act.put, List.setIfInBounds_toArray, List.set_cons_zero, List.set_cons_succ]
            refine wpAnyH_take (i := 4) (oi := ⟨some 34, _, _, _, _, _⟩) (v := undef) rfl (by kernel_rfl) (by kernel_rfl) (by kernel_rfl) (fun _ _ _ h => h) (Or.inr ⟨by kernel_rfl, rfl⟩) (by assumption) ?_
            try simp only [Act.put, List.setIfInBounds_toArray, List.set_cons_zero, List.set_cons_succ]
            refine wpAnyH_take (i := 5) (oi := ⟨some 35, _, _, _, _, _⟩) (v := undef) rfl (by kernel_rfl) (by kernel_rfl) (by kernel_rfl) (fun _ _ _ h => h) (Or.inr ⟨by kernel_rfl, rfl⟩) (by assumption) ?_
            try simp only [Act.put, List.setIfInBounds_toArray, List.set_cons_zero, List.set_cons_succ]
            refine wpAnyH_take (i := 6) (oi := ⟨some 36, _, _, _, _, _⟩) (v := undef) rfl (by kernel_rfl) (by kernel_rfl) (by kernel_rfl) (fun _ _ _ h => h) (Or.inr ⟨by kernel_rfl, rfl⟩) (by assumption) ?_
            try simp only [Act.put, List.setIfInBounds_toArray, List.set_cons_zero, List.set_cons_succ]
            refine wpAnyH_take (i := 7) (oi := ⟨some 37, _, _, _, _, _⟩) (v := undef) rfl (by kernel_rfl) (by kernel_rfl) (by kernel_rfl) (fun _ _ _ h => h) (Or.inr ⟨by kernel_rfl, rfl⟩) (by assumption) ?_
            try simp only [Act.put, List.setIfInBounds_toArray, List.set_cons_zero, List.set_cons_succ]
            refine wpAnyH_take (i := 8) (oi := ⟨some 38, _, _, _, _, _⟩) (v := undef) rfl (by kernel_rfl) (by kernel_rfl) (by kernel_rfl) (fun _ _ _ h => h) (Or.inr ⟨by kernel_rfl, rfl⟩) (by assumption) ?_
            try simp only [Act.put, List.setIfInBounds_toArray, List.set_cons_zero, List.set_cons_succ]
            refine wpAnyH_take (i := 9) (oi := ⟨some 39, _, _, _, _, _⟩) (v := ?_) rfl (by kernel_rfl) (by kernel_rfl) (by kernel_rfl) (fun _ _ _ h => h) (Or.inl ⟨by kernel_rfl, ?_⟩) (by assumption) ?_
            rotate_left
            · (intro w hSw; (try dsimp only at hSw); go_simp; (try with_reducible rfl))
            try simp only [Act.put, List.setIfInBounds_toArray, List.set_cons_zero, List.set_cons_succ]
            refine wpAnyH_take (i := 10) (oi := ⟨some 8, _, _, _, _, _⟩) (v := ?_) rfl (by kernel_rfl) (by kernel_rfl) (by kernel_rfl) (fun _ _ _ h => h) (Or.inl ⟨by kernel_rfl, ?_⟩) (by assumption) ?_
            rotate_left
            · (intro w hSw; (try dsimp only at hSw); go_simp; (try with_reducible rfl))
            try simp only [Act.put, List.setIfInBounds_toArray, List.set_cons_zero, List.set_cons_succ]
            refine wpAnyH_done (by kernel_rfl) ?_ _
            all_goals
              go_wp2_with fail
              go_roundw
              case rel => exact ⟨m + 1, false, by omega, by go_num, rfl, by rw [HSm.out]; rfl, HBx.out.drew⟩
              case measure => simp [intOf]; omega
          | true =>
            go_region_with (go_at_call 15; refine (HA.out _).mono ?_; rintro e w3 ⟨rfl, hb3⟩)
            all_goals
              go_wp2_with fail
              go_roundw
              case rel => exact ⟨m + 1, !d, by omega, by go_num, rfl, by rw [HSm.out]; cases d <;> rfl, chain HBx.out.drew hb3⟩
              case measure => simp [intOf]; omega
        · obtain rfl : n = m := by omega
          have hsz := HBl.out.size
          have hszm := HBm.out.size
          have HOm2 := Lib.hid (own_below HOw.out hbl (Nat.le_refl _))
          rw [HFr.out, htt] at HKs
          clear htt
          clear hbl hLr hb hcx
          obtain ⟨kn, hkn⟩ : ∃ kn, k.length = kn := ⟨_, rfl⟩
          have HKn := Lib.hid hkn
          rw [hkn] at hkl HOm2
          clear hkn HSt HAb HP1 HFr HOw
          cases t with
          | false =>
            have HK2 := Lib.hid (HKs.out.trans (show k ++ (if (!!false) = true then [x] else []) = k by simp))
            go_wp2_with fail
            go_roundw
            case rel => exact ⟨j + 1, by omega, by go_num, by rw [HK2.out, HKn.out]; exact HOm2.out, chain HBl.out HBm.out⟩
            case measure => simp [intOf]; omega
          | true =>
            have HK2 := Lib.hid (HKs.out.trans (show k ++ (if (!!true) = true then [x] else []) = k ++ [x] by simp))
            go_wp2_with (at_builtin; go_loud (refine append_one _ rfl (.tmp 42) (.tmp 44) 23 rfl w2.heap.size 3 (.int .i64 0) 8 Tryd.underlying23 gint_info rfl u5 kn _ rfl (HOm2.out.alloc _) wr.heap.size 1 (.int .i64 x) rfl (by simp) rfl (by simp only [maxLen]; omega) (by omega) (by simp; omega) ?_))
            intro v1 w4 hown1 hg1
            have hlen : (k ++ [x]).length = kn + 1 := by rw [List.length_append, HKn.out]; rfl
            go_wp2_with fail
            go_roundw
            case rel =>
              refine ⟨j + 1, by omega, by go_num, ?_, ?_⟩
              · rw [HK2.out, hlen]
                have := hown1
                unfold natC at this ⊢
                rw [List.map_append]
                exact this
              · exact ((chain HBl.out HBm.out).alloc (by omega) _).grown hg1 (by simp; omega) (fun q hq => (HOm2.out.lt q hq).1)
            case measure => simp [intOf]; omega
    · obtain rfl : n = j := by omega
      rw [List.take_of_length_le (by rw [HOl.out]; exact Nat.le_refl _)] at hown
      obtain ⟨A3, c3, rfl, hle, _, hl3, hn3, hnew⟩ := own_slice hown
      have HX := Lib.hid (show (O.filter (freeP ps)).length ≤ c3 ∧ Lies wr wr.heap.size A3 (natC (O.filter (freeP ps))) ∧ (A3 = none → c3 = 0) ∧ New w2.heap.size A3 from ⟨hle, hl3, hn3, hnew⟩)
      clear hown hbl hle hl3 hn3 hnew HOw
      go_wp2_with fail
      go_ret2
      exact ⟨A3, c3, rfl, HX.out.1, HX.out.2.1, HX.out.2.2.1, HX.out.2.2.2.mono HB2.out.size, chain HB2.out HBl.out⟩
end Go.Proofs.YtpkclmfadlkbeaaDoor

namespace Go.Proofs.YtpkclmfadlkbeaaDoor
open Go.Sort

/-- The order in which the document goes, and the layers that it tells. -/
def ordG (ps : List Pt3) : List Nat := ssort (ltP ps gtX) (List.range ps.length)
def layL (ps : List Pt3) : Nat → Nat := layF ps (ordG ps) (ordG ps)
theorem ordG_perm (ps : List Pt3) : (ordG ps).Perm (List.range ps.length) := ssort_perm _ _
theorem ordG_falls (ps : List Pt3) : Falls ps (ordG ps) := by
  have h := ssort_sorted (ltP_swo (ps := ps) gtX_swo) (List.range ps.length)
  unfold Falls
  refine List.Pairwise.imp (fun {i j} hij => ?_) h
  unfold ltP at hij
  unfold domP
  rw [Bool.eq_false_iff, ne_eq, gtX_iff] at hij
  rw [Bool.eq_false_iff, ne_eq, dom_iff]
  omega
theorem layL_lay (ps : List Pt3) : IsLay ps (layL ps) := layF_lay (ordG_falls ps) (ordG_perm ps)
/-- One step of the outer round: nothing has been written at this place. -/
theorem lay_fresh (ps : List Pt3) {j x : Nat} (h : (ordG ps)[j]? = some x) : layF ps (ordG ps) ((ordG ps).take j) x = 0 := by
  have hn : (ordG ps).Nodup := (ordG_perm ps).nodup_iff.2 List.nodup_range
  refine (layF_fix (ordG_falls ps) hn ((ordG ps).take j) ((ordG ps).drop j) (List.take_append_drop ..).symm).1 x fun hx => ?_
  obtain ⟨k, hk⟩ := List.getElem?_of_mem hx
  have hkj : k < j := by
    have := (List.getElem?_eq_some_iff.1 hk).1
    rw [List.length_take] at this
    omega
  rw [List.getElem?_take, if_pos hkj] at hk
  have := (List.getElem?_inj (List.getElem?_eq_some_iff.1 hk).1 hn).1 (hk.trans h.symm)
  omega
theorem lay_next1 (ps : List Pt3) {j x : Nat} (h : (ordG ps)[j]? = some x) : layF ps (ordG ps) ((ordG ps).take (j + 1)) = updN (layF ps (ordG ps) ((ordG ps).take j)) x (mxL ps (layF ps (ordG ps) ((ordG ps).take j)) x (ordG ps)) := by
  rw [List.take_add_one, h, Option.toList_some, layF_snoc]
/-- One step of the inner round. -/
theorem mxL_next (ps : List Pt3) (f : Nat → Nat) {i m k : Nat} {O : List Nat} (h : O[m]? = some k) : mxL ps f i (O.take (m + 1)) = if domP ps k i = true ∧ mxL ps f i (O.take m) ≤ f k then f k + 1 else mxL ps f i (O.take m) := by
  rw [List.take_add_one, h, Option.toList_some, mxL_snoc]
/-- The numbers stay small. -/
theorem mxL_le {ps : List Pt3} {f : Nat → Nat} {B : Nat} (i : Nat) (h : ∀ k, f k ≤ B) : ∀ ks : List Nat, mxL ps f i ks ≤ B + 1 := by
  refine snoc_ind (Nat.zero_le _) fun ks x ih => ?_
  rw [mxL_snoc]
  split
  · have := h x; omega
  · exact ih
theorem layF_le (ps : List Pt3) (O : List Nat) : ∀ (l : List Nat) (k : Nat), layF ps O l k ≤ l.length := by
  refine snoc_ind (fun k => Nat.zero_le _) fun l x ih k => ?_
  rw [layF_snoc, List.length_append]
  by_cases h : k = x
  · subst h
    rw [updN_at]
    exact mxL_le _ ih O
  · rw [updN_far _ _ h]
    have := ih k
    simp only [List.length_singleton]
    omega
/-- One cell of the row is changed. -/
theorem map_upd (f : Nat → Nat) (n x v : Nat) (h : x < n) : ((List.range n).map (updN f x v)) = ((List.range n).map f).set x v := by
  apply List.ext_getElem?
  intro t
  rw [List.getElem?_set]
  by_cases ht : t < n
  · rw [List.getElem?_map, List.getElem?_range ht]
    by_cases e : x = t
    · subst e
      simp [updN_at, ht]
    · rw [if_neg e, List.getElem?_map, List.getElem?_range ht]
      simp [updN_far f v (Ne.symm e)]
  · rw [List.getElem?_eq_none (by simp; omega)]
    by_cases e : x = t
    · omega
    · rw [if_neg e, List.getElem?_eq_none (by simp; omega)]
end Go.Proofs.YtpkclmfadlkbeaaDoor

namespace Go.Proofs.YtpkclmfadlkbeaaDoor
open Go.RowKit Go.Sort

set_option maxHeartbeats 1000000 in
theorem rlay_err (A : Option Addr) (ps : List Pt3) (c : Nat) (w : World) (hb : ps.length ≤ 17592186044416) (hL : Lies w w.heap.size A (ptC ps)) (he : ptsF ps ≠ 0) :
    Calls Tryd.prog 9 #[.slice A ps.length c] w (NoGL w (ptsF ps)) := by
  have HP := Lib.hid (rpf_any A ps c w hb hL)
  generalize ptsF ps = z at *
  generalize ps.length = n at *
  have hz : (z != 0) = true := by simpa using he
  clear hL he
  go_enter Tryd.func9, Tryd.ntmps9
  go_wp2_with fail
  refine HP.out.mono ?_
  rintro e w1 ⟨rfl, hb1⟩
  go_wp2_with fail
  go_ret2
  exact ⟨rfl, hb1⟩
set_option maxHeartbeats 8000000 in
/-- The document's SkyLayers. -/
theorem rlay_ok (A : Option Addr) (ps : List Pt3) (c : Nat) (w : World) (hE : Ev w) (hL : Lies w w.heap.size A (ptC ps)) (he : ptsF ps = 0) :
    Calls Tryd.prog 9 #[.slice A ps.length c] w (GivesGL w ((List.range ps.length).map (layL ps))) := by
  have hn := (ptsF_zero he).1
  have HP := Lib.hid (rpf_any A ps c w (by omega) hL)
  rw [he] at HP
  have HL := Lib.hid hL
  have HE := Lib.hid hE
  have hwi := fun W (h : Below w.heap.size w W) => rwithin_any 16 (enters_of Tryd.func16 (by kernel_rfl) rfl) gtX gtX_swo ord_lay A ps c allR W hn (hL.on h)
  rw [ins_all he] at hwi
  have HOm := Lib.hid (fun x (hx : x ∈ ordG ps) => List.mem_range.1 ((ordG_perm ps).mem_iff.1 hx))
  have HOl := Lib.hid (show (ordG ps).length = ps.length by rw [(ordG_perm ps).length_eq, List.length_range])
  have HFr := Lib.hid (fun (j x : Nat) h => lay_fresh ps (j := j) (x := x) h)
  have HNx := Lib.hid (fun (j x : Nat) h => lay_next1 ps (j := j) (x := x) h)
  have HAll := Lib.hid (show layF ps (ordG ps) ((ordG ps).take ps.length) = layL ps by rw [List.take_of_length_le (by rw [HOl.out]; exact Nat.le_refl _)]; rfl)
  have HLe := Lib.hid (fun (j k : Nat) => show layF ps (ordG ps) ((ordG ps).take j) k ≤ ps.length from Nat.le_trans (layF_le ps _ _ k) (by rw [List.length_take, HOl.out]; exact Nat.min_le_right _ _))
  have HWi := Lib.hid (show ∀ W, Below w.heap.size w W → Calls Tryd.prog 13 #[.slice A ps.length c, allR.val, .func (.func 16) #[] #[]] W (GivesN W (ordG ps)) from hwi)
  generalize ordG ps = O at *
  unfold GivesN Rc4.val allR at HWi
  obtain ⟨n, hk⟩ : ∃ n, ps.length = n := ⟨_, rfl⟩
  have HN := Lib.hid hk
  rw [HOl.out] at HWi
  rw [hk] at hn HOm HOl HWi HP HAll HLe ⊢
  clear hk hL hE he hwi
  have hmk := make_row (P := Tryd.prog) 23 3 (.int .i64 0) 8 Tryd.underlying23 gint_info rfl n (by omega) (by omega)
  go_enter Tryd.func9, Tryd.ntmps9
  go_wp2_with fail
  refine HP.out.mono ?_
  rintro e w1 ⟨rfl, hb1⟩
  have HB1 := Lib.hid hb1
  have HL1 := Lib.hid (HL.out.on hb1)
  obtain ⟨g0, g1, g2, g3⟩ := (HE.out.on hb1).on (bnew w1 (.cells (zeros (.int .i64 0) n) 3))
  have hbk0 := zeros_blk w1 (.int .i64 0) n 3
  have HBz := Lib.hid (chain HB1.out (bnew w1 (.cells (zeros (.int .i64 0) n) 3)))
  have HLz := Lib.hid (HL1.out.on (bnew w1 (.cells (zeros (.int .i64 0) n) 3)))
  have hwle := HB1.out.size
  clear hb1
  go_wp2_with fail
  generalize w1.alloc (.cells (zeros (.int .i64 0) n) 3) = w2 at *
  have HK0 := Lib.hid hbk0
  have hg := hbk0.lt
  clear hbk0 hmk
  generalize w1.heap.size = g at *
  refine (HWi.out _ HBz.out).mono ?_
  rintro e w3 ⟨v, rfl, hown, hb3⟩
  obtain ⟨A3, c3, rfl, hle3, _, hl3, hn3, hnew⟩ := own_slice hown
  have HB3 := Lib.hid (chain HBz.out hb3)
  have HL3 := Lib.hid (HLz.out.on hb3)
  have HO3 := Lib.hid hl3
  have HK3 := Lib.hid (HK0.out.below hb3 hg)
  have hgw : w.heap.size ≤ g := hwle
  have HOwn := Lib.hid hown
  clear hl3 hn3 hnew g0 g1 g2 g3
  have HZ := Lib.hid (show natC ((List.range n).map (layF ps O (O.take 0))) = List.replicate n (.int .i64 0) from by
    rw [List.take_zero, layF_nil]
    unfold natC
    rw [List.map_map]
    apply List.ext_getElem?
    intro t
    by_cases ht : t < n
    · rw [List.getElem?_map, List.getElem?_range ht, List.getElem?_replicate, if_pos ht]; rfl
    · rw [List.getElem?_eq_none (by simpa using ht), List.getElem?_eq_none (by simpa using ht)])
  go_wp2_with fail
  go_loopw [24] (fun u w' => ∃ j : Nat, j ≤ n ∧ u = .int .i64 j ∧ Blk w' g 3 (natC ((List.range n).map (layF ps O (O.take j)))) ∧ w'.ownsRow w2.heap.size 3 1 (.slice A3 n c3) n (natC O) ∧ Below w.heap.size w w') (fun u _ => n - (intOf u).toNat)
  case atStart => exact ⟨0, Nat.zero_le _, rfl, by rw [HZ.out]; exact HK3.out, HOwn.out, HB3.out⟩
  case round =>
    obtain ⟨j, hj, rfl, hbk, how, hbl⟩ := hrel
    have HBk := Lib.hid hbk
    have HOw := Lib.hid how
    have HBl := Lib.hid hbl
    have hgr := hbk.lt
    by_cases hlt : j < n
    · obtain ⟨A4, c4, hA4, _, _, hl4, _, _⟩ := own_slice how
      cases hA4
      obtain ⟨b3, o3, x, rfl, hb3, hx, hcx⟩ := Lies.at_ (f := fun x : Nat => Value.int .i64 (x : Int)) (l := O) hl4 (k := j) (by rw [HOl.out]; exact hlt)
      have hxn := HOm.out x (List.mem_of_getElem? hx)
      have h0 := HFr.out j x hx
      have HNj := Lib.hid (HNx.out j x hx)
      have HLj := HLe.out j
      have HP1 := Lib.hid (ptAt_get (ps := ps) (i := x) (by rw [HN.out]; exact hxn))
      generalize layF ps O (O.take j) = f at *
      have HU0 := Lib.hid (show updN f x (mxL ps f x (O.take 0)) = f by
        rw [List.take_zero, mxL_nil]
        funext t
        unfold updN
        split
        · rename_i e; rw [e, h0]
        · rfl)
      have HUn := Lib.hid (show mxL ps f x (O.take n) = mxL ps f x O by rw [List.take_of_length_le (by rw [HOl.out]; exact Nat.le_refl _)])
      have HFl := Lib.hid HLj
      have hjI : (j : Int) < (n : Int) := by omega
      have hxI : (x : Int) < (n : Int) := by omega
      clear hbk how hbl hx hl4
      go_wp2_with fail
      go_loopw [30] (fun u w' => ∃ m : Nat, m ≤ n ∧ u = .int .i64 m ∧ Blk w' g 3 (natC ((List.range n).map (updN f x (mxL ps f x (O.take m))))) ∧ w'.ownsRow w2.heap.size 3 1 (.slice (some ⟨b3, o3, none⟩) n c3) n (natC O) ∧ Below w.heap.size w w') (fun u _ => n - (intOf u).toNat)
      case atStart => exact ⟨0, Nat.zero_le _, rfl, by rw [HU0.out]; exact HBk.out, HOw.out, HBl.out⟩
      case round =>
        obtain ⟨m, hm, rfl, hbk, how, hbl⟩ := hrel
        have HBm := Lib.hid hbk
        have HOw2 := Lib.hid how
        have HBl2 := Lib.hid hbl
        have hgr2 := hbk.lt
        have hLr : Lies wr w.heap.size A (ptC ps) := HL.out.keep fun p hp => hbl.cell hp
        by_cases hlt2 : m < n
        · obtain ⟨A4, c4, hA4, _, _, hl4, _, _⟩ := own_slice how
          cases hA4
          obtain ⟨b4, o4, k, hA5, hb4, hk, hck⟩ := Lies.at_ (f := fun x : Nat => Value.int .i64 (x : Int)) (l := O) hl4 (k := m) (by rw [HOl.out]; exact hlt2)
          cases hA5
          have hkn := HOm.out k (List.mem_of_getElem? hk)
          have HMx := Lib.hid (mxL_next ps f (i := x) hk)
          obtain ⟨b, o, rfl, hb1, qx, qy, qw⟩ := pts_at hLr (ptAt_get (ps := ps) (i := k) (by rw [HN.out]; exact hkn))
          obtain ⟨b2, o2, hAA, hb2, ax, ay, aw⟩ := pts_at hLr HP1.out
          cases hAA
          have hsz := HBl2.out.size
          have hb1 : b < wr.heap.size := by omega
          have hb2 : b < wr.heap.size := hb1
          have hkI : (k : Int) < (n : Int) := by omega
          have hmI : (m : Int) < (n : Int) := by omega
          have HA := Lib.hid (fun W => rabove_any (ptAt ps k) (ptAt ps x) W)
          unfold Pt3.val at HA
          have hdk : domP ps k x = dom (ptAt ps k) (ptAt ps x) := rfl
          have hne : domP ps k x = true → k ≠ x := domP_ne
          rw [hdk] at HMx hne
          generalize ptAt ps k = q at *
          generalize ptAt ps x = a at *
          have hfk := HFl.out k
          have hvv : mxL ps f x (O.take m) ≤ n + 1 := mxL_le x HFl.out _
          generalize hmv : mxL ps f x (O.take m) = v at *
          clear hbk how hbl hl4 hk hdk hLr
          generalize hd : dom q a = d at *
          cases d with
          | false =>
            have hv2 : mxL ps f x (O.take (m + 1)) = v := by rw [HMx.out]; simp
            have HV2 := Lib.hid hv2
            clear hv2 HMx
            go_wp2_with fail
            refine wp_region_held_drew (S := fun w' => w'.cell? ⟨b, o + k * 3, none⟩ = some (.int .i64 q.x) ∧ w'.cell? ⟨b, o + k * 3 + 1, none⟩ = some (.int .i64 q.y) ∧ w'.cell? ⟨b, o + k * 3 + 2, none⟩ = some (.int .i64 q.w) ∧ w'.cell? ⟨b, o + x * 3, none⟩ = some (.int .i64 a.x) ∧ w'.cell? ⟨b, o + x * 3 + 1, none⟩ = some (.int .i64 a.y) ∧ w'.cell? ⟨b, o + x * 3 + 2, none⟩ = some (.int .i64 a.w)) (by kernel_rfl) ⟨qx, qy, qw, ax, ay, aw⟩ (fun hHeld1 => ?_)
            refine wpAnyH_take (i := 0) (oi := ⟨some 34, _, _, _, _, _⟩) (v := ?_) rfl (by kernel_rfl) (by kernel_rfl) (by kernel_rfl) (fun _ _ _ h => h) (Or.inl ⟨by kernel_rfl, ?_⟩) (by assumption) ?_
            rotate_left
            · (intro w hSw; (try dsimp only at hSw); go_simp; (try with_reducible rfl))
            try simp only [Act.put, List.setIfInBounds_toArray, List.set_cons_zero, List.set_cons_succ]
            refine wpAnyH_take (i := 1) (oi := ⟨some 35, _, _, _, _, _⟩) (v := ?_) rfl (by kernel_rfl) (by kernel_rfl) (by kernel_rfl) (fun _ _ _ h => h) (Or.inl ⟨by kernel_rfl, ?_⟩) (by assumption) ?_
            rotate_left
            · (intro w hSw; (try dsimp only at hSw); go_simp; (try with_reducible rfl))
            try simp only [Act.put, List.setIfInBounds_toArray, List.set_cons_zero, List.set_cons_succ]
            refine wpAnyH_take (i := 2) (oi := ⟨some 36, _, _, _, _, _⟩) (v := ?_) rfl (by kernel_rfl) (by kernel_rfl) (by kernel_rfl) (fun _ _ _ h => h) (Or.inl ⟨by kernel_rfl, ?_⟩) (by assumption) ?_
            rotate_left
            · (intro w hSw; (try dsimp only at hSw); go_simp; (try with_reducible rfl))
            try simp only [Act.put, List.setIfInBounds_toArray, List.set_cons_zero, List.set_cons_succ]
            refine wpAnyH_take (i := 3) (oi := ⟨some 37, _, _, _, _, _⟩) (v := ?_) rfl (by kernel_rfl) (by kernel_rfl) (by kernel_rfl) (fun _ _ _ h => h) (Or.inl ⟨by kernel_rfl, ?_⟩) (by assumption) ?_
            rotate_left
            · (intro w hSw; (try dsimp only at hSw); go_simp; (try with_reducible rfl))
            try simp only [Act.put, List.setIfInBounds_toArray, List.set_cons_zero, List.set_cons_succ]
            refine wpAnyH_take (i := 4) (oi := ⟨some 38, _, _, _, _, _⟩) (v := ?_) rfl (by kernel_rfl) (by kernel_rfl) (by kernel_rfl) (fun _ _ _ h => h) (Or.inl ⟨by kernel_rfl, ?_⟩) (by assumption) ?_
            rotate_left
            · (intro w hSw; (try dsimp only at hSw); go_simp; (try with_reducible rfl))
            try simp only [Act.put, List.setIfInBounds_toArray, List.set_cons_zero, List.set_cons_succ]
            refine wpAnyH_take (i := 5) (oi := ⟨some 39, _, _, _, _, _⟩) (v := ?_) rfl (by kernel_rfl) (by kernel_rfl) (by kernel_rfl) (fun _ _ _ h => h) (Or.inl ⟨by kernel_rfl, ?_⟩) (by assumption) ?_
            rotate_left
            · (intro w hSw; (try dsimp only at hSw); go_simp; (try with_reducible rfl))
            try simp only [Act.put, List.setIfInBounds_toArray, List.set_cons_zero, List.set_cons_succ]
            refine wpAnyH_take (i := 6) (oi := ⟨some 40, _, _, _, _, _⟩) (v := ?_) rfl (by kernel_rfl) (by kernel_rfl) (by kernel_rfl) (fun _ _ _ h => h) (Or.inl ⟨by kernel_rfl, ?_⟩) (by assumption) ?_
            rotate_left
            · (intro w hSw; (try dsimp only at hSw); go_simp; (try with_reducible rfl))
            try simp only [Act.put, List.setIfInBounds_toArray, List.set_cons_zero, List.set_cons_succ]
            refine wpAnyH_take (i := 7) (oi := ⟨some 41, _, _, _, _, _⟩) (v := ?_) rfl (by kernel_rfl) (by kernel_rfl) (by kernel_rfl) (fun _ _ _ h => h) (Or.inl ⟨by kernel_rfl, ?_⟩) (by assumption) ?_
            rotate_left
            · (intro w hSw; (try dsimp only at hSw); go_simp; (try with_reducible rfl))
            try simp only [Act.put, List.setIfInBounds_toArray, List.set_cons_zero, List.set_cons_succ]
            refine wpAnyH_ready (rs := [8]) (by kernel_rfl) (by simp) ?_
            refine AllReadyH.cons (o := ⟨some 42, _, _, _, _, _⟩) rfl (fun K hK => ?_) AllReadyH.nil
            go_simp
            go_at_call 15; refine (HA.out _).mono ?_; rintro e w5 ⟨rfl, hb5⟩
            go_wp2_with fail
            refine hK.out _ _ ⟨(bcell hb5 _ _ (by simpa using hb1)).trans qx, (bcell hb5 _ _ (by simpa using hb1)).trans qy, (bcell hb5 _ _ (by simpa using hb1)).trans qw, (bcell hb5 _ _ (by simpa using hb1)).trans ax, (bcell hb5 _ _ (by simpa using hb1)).trans ay, (bcell hb5 _ _ (by simpa using hb1)).trans aw⟩ (fun hHeld2 => ?_)
            clear hK K
            try simp only [Act.put, List.setIfInBounds_toArray, List.set_cons_zero, List.set_cons_succ]
            refine wpAnyH_take (i := 9) (oi := ⟨some 43, _, _, _, _, _⟩) (v := ?_) rfl (by kernel_rfl) (by kernel_rfl) (by kernel_rfl) (fun _ _ _ h => h) (Or.inl ⟨by kernel_rfl, ?_⟩) (by assumption) ?_
            rotate_left
            · (intro w hSw; (try dsimp only at hSw); go_simp; (try with_reducible rfl))
            try simp only [Act.put, List.setIfInBounds_toArray, List.set_cons_zero, List.set_cons_succ]
            refine wpAnyH_take (i := 10) (oi := ⟨some 44, _, _, _, _, _⟩) (v := undef) rfl (by kernel_rfl) (by kernel_rfl) (by kernel_rfl) (fun _ _ _ h => h) (Or.inr ⟨by kernel_rfl, rfl⟩) (by assumption) ?_
            try simp only [Act.put, List.setIfInBounds_toArray, List.set_cons_zero, List.set_cons_succ]
            refine wpAnyH_take (i := 11) (oi := ⟨some 45, _, _, _, _, _⟩) (v := undef) rfl (by kernel_rfl) (by kernel_rfl) (by kernel_rfl) (fun _ _ _ h => h) (Or.inr ⟨by kernel_rfl, rfl⟩) (by assumption) ?_
            try simp only [Act.put, List.setIfInBounds_toArray, List.set_cons_zero, List.set_cons_succ]
            refine wpAnyH_take (i := 12) (oi := ⟨some 46, _, _, _, _, _⟩) (v := undef) rfl (by kernel_rfl) (by kernel_rfl) (by kernel_rfl) (fun _ _ _ h => h) (Or.inr ⟨by kernel_rfl, rfl⟩) (by assumption) ?_
            try simp only [Act.put, List.setIfInBounds_toArray, List.set_cons_zero, List.set_cons_succ]
            refine wpAnyH_take (i := 13) (oi := ⟨some 47, _, _, _, _, _⟩) (v := undef) rfl (by kernel_rfl) (by kernel_rfl) (by kernel_rfl) (fun _ _ _ h => h) (Or.inr ⟨by kernel_rfl, rfl⟩) (by assumption) ?_
            try simp only [Act.put, List.setIfInBounds_toArray, List.set_cons_zero, List.set_cons_succ]
            refine wpAnyH_take (i := 14) (oi := ⟨some 48, _, _, _, _, _⟩) (v := undef) rfl (by kernel_rfl) (by kernel_rfl) (by kernel_rfl) (fun _ _ _ h => h) (Or.inr ⟨by kernel_rfl, rfl⟩) (by assumption) ?_
            try simp only [Act.put, List.setIfInBounds_toArray, List.set_cons_zero, List.set_cons_succ]
            refine wpAnyH_take (i := 15) (oi := ⟨some 49, _, _, _, _, _⟩) (v := undef) rfl (by kernel_rfl) (by kernel_rfl) (by kernel_rfl) (fun _ _ _ h => h) (Or.inr ⟨by kernel_rfl, rfl⟩) (by assumption) ?_
            try simp only [Act.put, List.setIfInBounds_toArray, List.set_cons_zero, List.set_cons_succ]
            refine wpAnyH_take (i := 16) (oi := ⟨some 50, _, _, _, _, _⟩) (v := undef) rfl (by kernel_rfl) (by kernel_rfl) (by kernel_rfl) (fun _ _ _ h => h) (Or.inr ⟨by kernel_rfl, rfl⟩) (by assumption) ?_
            try simp only [Act.put, List.setIfInBounds_toArray, List.set_cons_zero, List.set_cons_succ]
            refine wpAnyH_take (i := 17) (oi := ⟨some 51, _, _, _, _, _⟩) (v := undef) rfl (by kernel_rfl) (by kernel_rfl) (by kernel_rfl) (fun _ _ _ h => h) (Or.inr ⟨by kernel_rfl, rfl⟩) (by assumption) ?_
            try simp only [Act.put, List.setIfInBounds_toArray, List.set_cons_zero, List.set_cons_succ]
            refine wpAnyH_take (i := 18) (oi := ⟨some 52, _, _, _, _, _⟩) (v := undef) rfl (by kernel_rfl) (by kernel_rfl) (by kernel_rfl) (fun _ _ _ h => h) (Or.inr ⟨by kernel_rfl, rfl⟩) (by assumption) ?_
            try simp only [Act.put, List.setIfInBounds_toArray, List.set_cons_zero, List.set_cons_succ]
            refine wpAnyH_take (i := 19) (oi := ⟨some 53, _, _, _, _, _⟩) (v := undef) rfl (by kernel_rfl) (by kernel_rfl) (by kernel_rfl) (fun _ _ _ h => h) (Or.inr ⟨by kernel_rfl, rfl⟩) (by assumption) ?_
            try simp only [Act.put, List.setIfInBounds_toArray, List.set_cons_zero, List.set_cons_succ]
            refine wpAnyH_take (i := 20) (oi := ⟨some 54, _, _, _, _, _⟩) (v := ?_) rfl (by kernel_rfl) (by kernel_rfl) (by kernel_rfl) (fun _ _ _ h => h) (Or.inl ⟨by kernel_rfl, ?_⟩) (by assumption) ?_
            rotate_left
            · (intro w hSw; (try dsimp only at hSw); go_simp; (try with_reducible rfl))
            try simp only [Act.put, List.setIfInBounds_toArray, List.set_cons_zero, List.set_cons_succ]
            refine wpAnyH_done (by kernel_rfl) ?_ _
            all_goals
              go_wp2_with fail
              go_roundw
              case rel => exact ⟨m + 1, by omega, by go_num, by rw [HV2.out]; exact HBm.out.drew.below hb5 (by simpa using hgr2), own_below (own_keep HOw2.out (w' := wr.drew) (fun _ _ => rfl)) hb5 (Nat.le_refl _), HBl2.out.drew.trans (hb5.mono (by simpa using hsz))⟩
              case measure => simp [intOf]; omega
          | true =>
            have hkx := hne rfl
            have hgk : (natC ((List.range n).map (updN f x v)))[k]? = some (.int .i64 (f k : Nat)) := by
              unfold natC
              rw [List.getElem?_map, List.getElem?_map, List.getElem?_range hkn]
              simp [updN_far f v hkx]
            have hgx : (natC ((List.range n).map (updN f x v)))[x]? = some (.int .i64 (v : Nat)) := by
              unfold natC
              rw [List.getElem?_map, List.getElem?_map, List.getElem?_range hxn]
              simp [updN_at f x v]
            have HPut := Lib.hid (show (natC ((List.range n).map (updN f x v))).set x (.int .i64 ((f k + 1 : Nat) : Int)) = natC ((List.range n).map (updN f x (f k + 1))) by
              have e : (List.range n).map (updN f x (f k + 1)) = ((List.range n).map (updN f x v)).set x (f k + 1) := by rw [← map_upd _ n x _ hxn, updN_updN]
              rw [e]
              unfold natC
              rw [List.map_set])
            have HMy := Lib.hid (show mxL ps f x (O.take (m + 1)) = if v ≤ f k then f k + 1 else v by rw [HMx.out]; simp)
            clear HMx hne
            generalize f k = y at *
            by_cases hvy : v ≤ y
            · have hv2 : mxL ps f x (O.take (m + 1)) = y + 1 := HMy.out.trans (if_pos hvy)
              have HV2 := Lib.hid hv2
              clear hv2 HMy
              have hyI : IntKind.i64.wrap ((y : Int) + 1) = ((y + 1 : Nat) : Int) := by rw [IntKind.wrap_i64]; omega
              go_wp2_with fail
              go_region_with (go_at_call 15; refine (HA.out _).mono ?_; rintro e w5 ⟨rfl, hb5⟩; have HK5 := Lib.hid (HBm.out.drew.below hb5 (by simpa using hgr2)); have ck := (HK5.out.cell k).trans hgk; have cx := (HK5.out.cell x).trans hgx)
              all_goals
                have hfz := HK5.out.frozen x
                have HK6 := Lib.hid (HK5.out.put x (.int .i64 ((y + 1 : Nat) : Int)))
                have HOw5 := Lib.hid (own_below (own_keep HOw2.out (w' := wr.drew) (fun _ _ => rfl)) hb5 (Nat.le_refl _))
                have HB5 := Lib.hid (HBl2.out.drew.trans (hb5.mono (by simpa using hsz)))
                go_wp2_with fail
                go_roundw
                case rel => exact ⟨m + 1, by omega, by go_num, by rw [HV2.out, ← HPut.out]; exact HK6.out, own_keep HOw5.out (fun q hq => Below.heap_setCell w5 _ _ q (fun e => by have := (HOw5.out.lt q hq).1; simp at e; omega)), HB5.out.setCell hgw _⟩
                case measure => simp [intOf]; omega
            · have hv2 : mxL ps f x (O.take (m + 1)) = v := HMy.out.trans (if_neg hvy)
              have HV2 := Lib.hid hv2
              clear hv2 HMy
              have hyI : IntKind.i64.wrap ((y : Int) + 1) = ((y + 1 : Nat) : Int) := by rw [IntKind.wrap_i64]; omega
              go_wp2_with fail
              go_region_with (go_at_call 15; refine (HA.out _).mono ?_; rintro e w5 ⟨rfl, hb5⟩; have HK5 := Lib.hid (HBm.out.drew.below hb5 (by simpa using hgr2)); have ck := (HK5.out.cell k).trans hgk; have cx := (HK5.out.cell x).trans hgx)
              all_goals
                go_wp2_with fail
                go_roundw
                case rel => exact ⟨m + 1, by omega, by go_num, by rw [HV2.out]; exact HK5.out, own_below (own_keep HOw2.out (w' := wr.drew) (fun _ _ => rfl)) hb5 (Nat.le_refl _), HBl2.out.drew.trans (hb5.mono (by simpa using hsz))⟩
                case measure => simp [intOf]; omega
        · obtain rfl : n = m := by omega
          have HNj2 := Lib.hid (show updN f x (mxL ps f x (O.take n)) = layF ps O (O.take (j + 1)) by rw [HUn.out]; exact HNj.out.symm)
          clear hbk how hbl hLr
          go_wp2_with fail
          go_roundw
          case rel => exact ⟨j + 1, by omega, by go_num, by rw [← HNj2.out]; exact HBm.out, HOw2.out, HBl2.out⟩
          case measure => simp [intOf]; omega
    · obtain rfl : n = j := by omega
      rw [HAll.out] at HBk
      clear hbk how hbl
      go_wp2_with fail
      go_ret2
      refine ⟨some ⟨g, 0, none⟩, n, ?_, by simp, HBk.out.lies, (fun e => by cases e), (fun ad e => by obtain rfl := Option.some.inj e; exact hgw), HBl.out⟩
      simp
end Go.Proofs.YtpkclmfadlkbeaaDoor
