/-
  What rmq.Tree returns: contracts, walked over the translated text. No condition but what each theorem names.
-/
import Derived.Test.YtfijlcaiklhpiaaRmqTr
import Derived.Deep.Cut
namespace Go.Proofs.Ytfijlcaiklhpiaa
open Go.RowKit Words

/-- The cells of a row that is not nil. -/
theorem own_cells {w : World} {base : Nat} {e : TypeId} {ad : Addr} {c : Nat} {S : List Nat} (h : w.ownsRow base e 1 (.slice (some ad) S.length c) S.length ((asInts S).map (.int .i64))) :
    ∃ g, ad = ⟨g, 0, none⟩ ∧ base ≤ g ∧ ∀ k, k < S.length → w.cell? ⟨g, k, none⟩ = some (.int .i64 (S.getD k 0 : Nat)) := by
  rcases h.2 with ⟨e1, _⟩ | ⟨g, cap, cur, e1, hb, _⟩
  · injection e1 with e1; cases e1
  · injection e1 with e1 e2 e3
    obtain rfl := Option.some.inj e1
    refine ⟨g, rfl, hb, fun k hk => ?_⟩
    have := h.cells (g := g) rfl k (.int .i64 (S.getD k 0 : Nat)) (by
      rw [List.getElem?_map, asInts_at S k (S.getD k 0) (by rw [List.getD, List.getElem?_eq_getElem hk]; rfl)]
      rfl)
    rwa [Addr.add_lit, Nat.zero_add] at this

/-- rmq.Tree of a list that is too long. -/
theorem tree_size (A : Option Addr) (n c : Nat) (w : World) (hn : 300 < n) (hb : n ≤ 17592186044416) :
    Calls Try.prog 14 #[.slice A n c] w (NoTree w) := by
  go_enter Try.func14, Try.ntmps14
  go_wp2_with fail
  go_ret2
  exact ⟨rfl, bnew _ _⟩

set_option maxHeartbeats 4000000 in
/-- rmq.Tree. -/
theorem tree_any (A : Option Addr) (l : List Int) (c : Nat) (w : World) (hn : l.length ≤ 300) (hL : Lies w w.heap.size A (l.map (.int .i64))) :
    Calls Try.prog 14 #[.slice A l.length c] w (GivesTree w (pars (nth l) l.length)) := by
  have HL := Lib.hid hL
  have hmk := make_row (P := Try.prog) 22 3 (.int .i64 0) 8 Try.underlying22 rint_info rfl l.length (by omega) (by omega)
  have HLen := Lib.hid (pars_length (nth l) l.length)
  have HAll := Lib.hid (parsTo_all (nth l) l.length)
  have HZ := Lib.hid (parsTo_zero (nth l) l.length)
  unfold GivesTree
  rw [HLen.out]
  clear hL
  go_enter Try.func14, Try.ntmps14
  go_wp2_with fail
  go_loopw [17] (fun s w' => ∃ (i : Nat) (v : Value) (S : List Nat), i ≤ l.length ∧ s = .int .i64 i ∧ TreeAt w w' A l c (parsTo (nth l) l.length i) v S ∧ StackOf (nth l) i S) (fun s _ => l.length - (intOf s).toNat)
  case atStart =>
    refine ⟨0, .slice none 0 0, [], Nat.zero_le _, rfl, ⟨((Blk.new w 22 [.slice A l.length c]).alloc _).alloc _, ?_, ?_, World.ownsRow_nil _ _ _ _, ((bnew w _).alloc (by simp) _).alloc (by simp; omega) _⟩, StackOf.nil _⟩
    · have h := (zeros_blk (w.alloc (.cells #[.slice A l.length c] 22)) (.int .i64 0) l.length 3).alloc (.cells #[.slice none 0 0] 22)
      rw [HZ.out, List.map_replicate]
      simpa using h
    · have h := Blk.new ((w.alloc (.cells #[.slice A l.length c] 22)).alloc (.cells (zeros (.int .i64 0) l.length) 3)) 22 [.slice none 0 0]
      simpa using h
  case round =>
    obtain ⟨i, v, S, hi, rfl, hat, hst⟩ := hrel
    have HAT := Lib.hid hat
    have HST := Lib.hid hst
    by_cases hlt : i < l.length
    · obtain ⟨b, o, rfl, hb, hc⟩ := (HL.out.on hat.bel).nums (by omega)
      have hci := hc i hlt
      have HLx := Lib.hid (HL.out.on hat.bel)
      clear hc
      obtain ⟨d, hd⟩ := cut_ex hst
      have HD := Lib.hid hd
      obtain ⟨A2, c2, rfl, hle2, _, hl2, hn2, _⟩ := own_slice hat.row
      have HL2 := Lib.hid hl2
      clear hl2
      have hpb : wr.cell? ⟨w.heap.size + 2, 0, none⟩ = some (.slice A2 S.length c2) := hat.bp.cell 0
      have hlb : wr.cell? ⟨w.heap.size, 0, none⟩ = some (.slice (some ⟨b, o, none⟩) l.length c) := hat.bl.cell 0
      have hSi : S.length ≤ i := hst.short
      have hSn : S.length ≤ l.length := by omega
      have hsz := hat.bp.lt
      have HS := Lib.hid (fun W (hf : ∀ k d, k < S.length → Calls Try.prog 27 #[.int .i64 k, .pointer (some ⟨w.heap.size, 0, none⟩), .pointer (some ⟨w.heap.size + 2, 0, none⟩), .pointer (some ⟨wr.heap.size, 0, none⟩)] (W.drewN d) fun e w' => e = .returned (.bool (decide (nth l (S.getD k 0) < nth l i))) ∧ ∃ m, w' = (W.drewN d).drewN m) => search3_any S.length d w.heap.size (w.heap.size + 2) wr.heap.size (fun k => decide (nth l (S.getD k 0) < nth l i)) W (by omega) hd.le (fun k hk => by
        have := hd.le
        have hx := List.getElem?_eq_getElem (show k < S.length by omega)
        have h2 := hd.ge k _ hk hx
        rw [List.getD, hx]
        simpa using h2) (fun k hk1 hk2 => by
        have hx := List.getElem?_eq_getElem hk2
        have h2 := hd.lt k _ hk1 hx
        rw [List.getD, hx]
        simpa using h2) hf)
      clear hat hst hd
      have HSd := Lib.hid (show ∀ k, k < S.length → S.getD k 0 < i from fun k hk => (HST.out.get (show S[k]? = some (S.getD k 0) by rw [List.getD, List.getElem?_eq_getElem hk]; rfl)).1)
      go_wp2_with fail
      refine (HS.out _ (fun k d' hk => ?_)).mono ?_
      · have h := (HAT.out.alloc (.cells #[.int .i64 (nth l i)] 3)).drewN d'
        exact cl3_any (some ⟨b, o, none⟩) l c A2 S c2 k w.heap.size (w.heap.size + 2) wr.heap.size (nth l i) _ hn (by omega) hk (by have := HSd.out k hk; omega) (h.bl.cell 0) (h.bp.cell 0) (((Blk.new wr 3 [.int .i64 (nth l i)]).drewN d').cell 0) ((HLx.out.alloc _).drewN d') ((HL2.out.alloc _).drewN d')
      rintro e w2 ⟨rfl, d2, rfl⟩
      have hat2 := (HAT.out.alloc (.cells #[.int .i64 (nth l i)] 3)).drewN d2
      have hdm := HD.out.le
      clear hpb hlb hci HS HLx HL2
      generalize hW2 : (wr.alloc (.cells #[.int .i64 (nth l i)] 3)).drewN d2 = W2 at *
      clear hW2
      have hpb : W2.cell? ⟨w.heap.size + 2, 0, none⟩ = some (.slice A2 S.length c2) := hat2.bp.cell 0
      have hpf := hat2.bp.frozen 0
      have hz2 := hat2.bp.lt
      have HCO := Lib.hid (show ∀ j, j < l.length → W2.cell? ⟨w.heap.size + 1, j, none⟩ = some (.int .i64 (nth (parsTo (nth l) l.length i) j)) from fun j hj => by
        have h0 := List.getElem?_eq_getElem (show j < (parsTo (nth l) l.length i).length by rw [parsTo_length]; exact hj)
        rw [hat2.bo.cell, List.getElem?_map, h0, nth_get _ j _ h0]
        rfl)
      have HFO := Lib.hid (show ∀ j, W2.frozen? ⟨w.heap.size + 1, j, none⟩ = false from fun j => hat2.bo.frozen j)
      have hrow := hat2.row
      have HAT2 := Lib.hid hat2
      have HPN := Lib.hid (par_new HST.out HD.out)
      have HPu := Lib.hid (HST.out.push HD.out)
      clear hat2 HAT
      have hoi := HCO.out i hlt
      have hfi := HFO.out i
      have hin : (i : Int) < (l.length : Int) := by omega
      cases A2 with
      | none =>
        have hc0 := hn2 rfl
        subst hc0
        obtain rfl : d = 0 := by omega
        obtain rfl : S = [] := List.eq_nil_of_length_eq_zero (by omega)
        have HPE := Lib.hid (show parsTo (nth l) l.length (i + 1) = (parsTo (nth l) l.length i).set i (-1) by rw [pars_none HST.out HD.out rfl, HPN.out, if_pos rfl])
        clear HCO HFO HD HST HPN HSd hSi hSn hdm hle2 hn2
        generalize nth (parsTo (nth l) l.length i) i = x0 at *
        go_upto_region 14 with fail
        have hat3 := (HAT2.out.put i (-1))
        rw [← HPE.out] at hat3
        generalize hW3 : (W2.setCell ⟨w.heap.size + 1, i, none⟩ (.int .i64 (-1))) = W3 at *
        clear hW3
        have hpb3 : W3.cell? ⟨w.heap.size + 1 + 1, 0, none⟩ = some (.slice none 0 0) := hat3.bp.cell 0
        have hrow3 := own_take hat3.row (d := 0) (by first | exact hdm | simp)
        have hz3 := hat3.bp.lt
        have HAT3 := Lib.hid hat3
        have HOF := Lib.hid (fun q hq => own_from hrow3 (q := q) hq)
        clear hat3 hpb hpf hz2 hoi hfi hrow
        have hDn : 0 ≤ 300 := by omega
        go_wp2_with (at_builtin; go_loud (refine append_one _ rfl (.tmp 52) (.tmp 54) 22 rfl (w.heap.size + 3) 3 (.int .i64 0) 8 Try.underlying22 rint_info rfl (.slice none 0 0) 0 _ rfl (hrow3.alloc _) W3.heap.size 1 (.int .i64 i) rfl (by simp) rfl (by simp only [maxLen]; omega) (by omega) (by simp; omega) ?_))
        intro v2 w5 hown5 hg5
        have HFin := Lib.hid (HAT3.out.push (d := 0) (i := i) HOF.out (by first | exact hown5 | simpa using hown5) hg5 (by first | exact hdm | simp))
        have hbp5 := (HAT3.out.bp.alloc (.cells #[.int .i64 i] 3)).grown hg5 (fun e => by have := HOF.out _ e.symm; omega)
        have hc5 : w5.cell? ⟨w.heap.size + 1 + 1, 0, none⟩ = some (.slice none 0 0) := hbp5.cell 0
        have hf5 : w5.frozen? ⟨w.heap.size + 1 + 1, 0, none⟩ = false := hbp5.frozen 0
        obtain ⟨A5, c5, rfl, _, _, _, _, _⟩ := own_slice hown5
        clear hown5 hg5 hbp5 hpb3 hrow3
        go_wp2_with fail
        go_roundw
        case rel => exact ⟨i + 1, _, _, by omega, by go_num, HFin.out, HPu.out⟩
        case measure => simp [intOf]; omega
      | some ad =>
        obtain ⟨g, rfl, hg, hcs⟩ := own_cells hrow
        have HCS := Lib.hid hcs
        clear hcs
        have hdc : d ≤ c2 := by omega
        have hg1 : ¬ g = w.heap.size + 1 := by omega
        have hg2 : ¬ g = w.heap.size + 2 := by omega
        by_cases hdl : d < S.length
        · have hsg : S[d]? = some (S.getD d 0) := by rw [List.getD, List.getElem?_eq_getElem hdl]; rfl
          have hcd := HCS.out d hdl
          have hsi := HSd.out d hdl
          have hos := HCO.out (S.getD d 0) (by omega)
          have hfs := HFO.out (S.getD d 0)
          have hdi : (d : Int) < (S.length : Int) := by omega
          have hsn : ((S.getD d 0 : Nat) : Int) < (l.length : Int) := by omega
          by_cases hd0 : d = 0
          · have HPE := Lib.hid (show parsTo (nth l) l.length (i + 1) = ((parsTo (nth l) l.length i).set (S.getD d 0) i).set i (-1) by rw [pars_some HST.out HD.out hsg, HPN.out, if_pos hd0])
            clear HCO HFO HD HST HPN HSd HCS hsg hle2 hn2
            generalize nth (parsTo (nth l) l.length i) i = x0 at *
            generalize S.getD d 0 = s at *
            generalize nth (parsTo (nth l) l.length i) s = x1 at *
            have hne : ¬ i = s := by omega
            subst hd0
            go_upto_region 14 with fail
            have hat3 := ((HAT2.out.put s (i : Nat)).put i (-1))
            rw [← HPE.out] at hat3
            generalize hW3 : ((W2.setCell ⟨w.heap.size + 1, s, none⟩ (.int .i64 (i : Nat))).setCell ⟨w.heap.size + 1, i, none⟩ (.int .i64 (-1))) = W3 at *
            clear hW3
            have hpb3 : W3.cell? ⟨w.heap.size + 1 + 1, 0, none⟩ = some (.slice (some ⟨g, 0, none⟩) S.length c2) := hat3.bp.cell 0
            have hrow3 := own_take hat3.row (d := 0) (by first | exact hdm | simp)
            have hz3 := hat3.bp.lt
            have HAT3 := Lib.hid hat3
            have HOF := Lib.hid (fun q hq => own_from hrow3 (q := q) hq)
            clear hat3 hpb hpf hz2 hoi hfi hrow
            have hDn : 0 ≤ 300 := by omega
            go_wp2_with (at_builtin; go_loud (refine append_one _ rfl (.tmp 52) (.tmp 54) 22 rfl (w.heap.size + 3) 3 (.int .i64 0) 8 Try.underlying22 rint_info rfl (.slice (some ⟨g, 0, none⟩) 0 c2) 0 _ rfl (hrow3.alloc _) W3.heap.size 1 (.int .i64 i) rfl (by simp) rfl (by simp only [maxLen]; omega) (by omega) (by simp; omega) ?_))
            intro v2 w5 hown5 hg5
            have HFin := Lib.hid (HAT3.out.push (d := 0) (i := i) HOF.out (by first | exact hown5 | simpa using hown5) hg5 (by first | exact hdm | simp))
            have hbp5 := (HAT3.out.bp.alloc (.cells #[.int .i64 i] 3)).grown hg5 (fun e => by have := HOF.out _ e.symm; omega)
            have hc5 : w5.cell? ⟨w.heap.size + 1 + 1, 0, none⟩ = some (.slice (some ⟨g, 0, none⟩) S.length c2) := hbp5.cell 0
            have hf5 : w5.frozen? ⟨w.heap.size + 1 + 1, 0, none⟩ = false := hbp5.frozen 0
            obtain ⟨A5, c5, rfl, _, _, _, _, _⟩ := own_slice hown5
            clear hown5 hg5 hbp5 hpb3 hrow3
            go_wp2_with fail
            go_roundw
            case rel => exact ⟨i + 1, _, _, by omega, by go_num, HFin.out, HPu.out⟩
            case measure => simp [intOf]; omega
          · have hc1 := HCS.out (d - 1) (by omega)
            have HPE := Lib.hid (show parsTo (nth l) l.length (i + 1) = (((parsTo (nth l) l.length i).set (S.getD d 0) i).set i (-1)).set i (S.getD (d - 1) 0 : Nat) by rw [pars_some HST.out HD.out hsg, HPN.out, if_neg hd0, List.set_set])
            have hd1 : (d : Int) - 1 = ((d - 1 : Nat) : Int) := by omega
            have hd2 : d - 1 < S.length := by omega
            have hd3 : ((d - 1 : Nat) : Int) < (S.length : Int) := by omega
            have hdp : 0 < d := by omega
            clear HCO HFO HD HST HPN HSd HCS hsg hle2 hn2
            generalize nth (parsTo (nth l) l.length i) i = x0 at *
            generalize S.getD (d - 1) 0 = s1 at *
            generalize S.getD d 0 = s at *
            generalize nth (parsTo (nth l) l.length i) s = x1 at *
            generalize d - 1 = d1 at *
            have hne : ¬ i = s := by omega
            clear hd0
            go_upto_region 14 with fail
            have hat3 := (((HAT2.out.put s (i : Nat)).put i (-1)).put i (s1 : Nat))
            rw [← HPE.out] at hat3
            generalize hW3 : (((W2.setCell ⟨w.heap.size + 1, s, none⟩ (.int .i64 (i : Nat))).setCell ⟨w.heap.size + 1, i, none⟩ (.int .i64 (-1))).setCell ⟨w.heap.size + 1, i, none⟩ (.int .i64 (s1 : Nat))) = W3 at *
            clear hW3
            have hpb3 : W3.cell? ⟨w.heap.size + 1 + 1, 0, none⟩ = some (.slice (some ⟨g, 0, none⟩) S.length c2) := hat3.bp.cell 0
            have hrow3 := own_take hat3.row (d := d) (by first | exact hdm | simp)
            have hz3 := hat3.bp.lt
            have HAT3 := Lib.hid hat3
            have HOF := Lib.hid (fun q hq => own_from hrow3 (q := q) hq)
            clear hat3 hpb hpf hz2 hoi hfi hrow
            have hDn : d ≤ 300 := by omega
            go_wp2_with (at_builtin; go_loud (refine append_one _ rfl (.tmp 52) (.tmp 54) 22 rfl (w.heap.size + 3) 3 (.int .i64 0) 8 Try.underlying22 rint_info rfl (.slice (some ⟨g, 0, none⟩) d c2) d _ rfl (hrow3.alloc _) W3.heap.size 1 (.int .i64 i) rfl (by simp) rfl (by simp only [maxLen]; omega) (by omega) (by simp; omega) ?_))
            intro v2 w5 hown5 hg5
            have HFin := Lib.hid (HAT3.out.push (d := d) (i := i) HOF.out (by first | exact hown5 | simpa using hown5) hg5 (by first | exact hdm | simp))
            have hbp5 := (HAT3.out.bp.alloc (.cells #[.int .i64 i] 3)).grown hg5 (fun e => by have := HOF.out _ e.symm; omega)
            have hc5 : w5.cell? ⟨w.heap.size + 1 + 1, 0, none⟩ = some (.slice (some ⟨g, 0, none⟩) S.length c2) := hbp5.cell 0
            have hf5 : w5.frozen? ⟨w.heap.size + 1 + 1, 0, none⟩ = false := hbp5.frozen 0
            obtain ⟨A5, c5, rfl, _, _, _, _, _⟩ := own_slice hown5
            clear hown5 hg5 hbp5 hpb3 hrow3
            go_wp2_with fail
            go_roundw
            case rel => exact ⟨i + 1, _, _, by omega, by go_num, HFin.out, HPu.out⟩
            case measure => simp [intOf]; omega
        · obtain rfl : d = S.length := by omega
          have hsg : S[S.length]? = none := List.getElem?_eq_none (Nat.le_refl _)
          by_cases hd0 : S.length = 0
          · have HPE := Lib.hid (show parsTo (nth l) l.length (i + 1) = (parsTo (nth l) l.length i).set i (-1) by rw [pars_none HST.out HD.out hsg, HPN.out, if_pos hd0])
            clear HCO HFO HD HST HPN HSd HCS hsg hle2 hn2
            generalize nth (parsTo (nth l) l.length i) i = x0 at *
            obtain rfl := List.eq_nil_of_length_eq_zero hd0
            clear hd0 hdl
            go_upto_region 14 with fail
            have hat3 := (HAT2.out.put i (-1))
            rw [← HPE.out] at hat3
            generalize hW3 : (W2.setCell ⟨w.heap.size + 1, i, none⟩ (.int .i64 (-1))) = W3 at *
            clear hW3
            have hpb3 : W3.cell? ⟨w.heap.size + 1 + 1, 0, none⟩ = some (.slice (some ⟨g, 0, none⟩) 0 c2) := hat3.bp.cell 0
            have hrow3 := own_take hat3.row (d := 0) (by first | exact hdm | simp)
            have hz3 := hat3.bp.lt
            have HAT3 := Lib.hid hat3
            have HOF := Lib.hid (fun q hq => own_from hrow3 (q := q) hq)
            clear hat3 hpb hpf hz2 hoi hfi hrow
            have hDn : 0 ≤ 300 := by omega
            go_wp2_with (at_builtin; go_loud (refine append_one _ rfl (.tmp 52) (.tmp 54) 22 rfl (w.heap.size + 3) 3 (.int .i64 0) 8 Try.underlying22 rint_info rfl (.slice (some ⟨g, 0, none⟩) 0 c2) 0 _ rfl (hrow3.alloc _) W3.heap.size 1 (.int .i64 i) rfl (by simp) rfl (by simp only [maxLen]; omega) (by omega) (by simp; omega) ?_))
            intro v2 w5 hown5 hg5
            have HFin := Lib.hid (HAT3.out.push (d := 0) (i := i) HOF.out (by first | exact hown5 | simpa using hown5) hg5 (by first | exact hdm | simp))
            have hbp5 := (HAT3.out.bp.alloc (.cells #[.int .i64 i] 3)).grown hg5 (fun e => by have := HOF.out _ e.symm; omega)
            have hc5 : w5.cell? ⟨w.heap.size + 1 + 1, 0, none⟩ = some (.slice (some ⟨g, 0, none⟩) 0 c2) := hbp5.cell 0
            have hf5 : w5.frozen? ⟨w.heap.size + 1 + 1, 0, none⟩ = false := hbp5.frozen 0
            obtain ⟨A5, c5, rfl, _, _, _, _, _⟩ := own_slice hown5
            clear hown5 hg5 hbp5 hpb3 hrow3
            go_wp2_with fail
            go_roundw
            case rel => exact ⟨i + 1, _, _, by omega, by go_num, HFin.out, HPu.out⟩
            case measure => simp [intOf]; omega
          · have hc1 := HCS.out (S.length - 1) (by omega)
            have HPE := Lib.hid (show parsTo (nth l) l.length (i + 1) = ((parsTo (nth l) l.length i).set i (-1)).set i (S.getD (S.length - 1) 0 : Nat) by rw [pars_none HST.out HD.out hsg, HPN.out, if_neg hd0, List.set_set])
            have hd1 : (S.length : Int) - 1 = ((S.length - 1 : Nat) : Int) := by omega
            have hd2 : S.length - 1 < S.length := by omega
            have hd3 : ((S.length - 1 : Nat) : Int) < (S.length : Int) := by omega
            have hdp : 0 < S.length := by omega
            clear HCO HFO HD HST HPN HSd HCS hsg hle2 hn2
            generalize nth (parsTo (nth l) l.length i) i = x0 at *
            generalize S.getD (S.length - 1) 0 = s1 at *
            generalize S.length - 1 = d1 at *
            clear hd0
            go_upto_region 14 with fail
            have hat3 := ((HAT2.out.put i (-1)).put i (s1 : Nat))
            rw [← HPE.out] at hat3
            generalize hW3 : ((W2.setCell ⟨w.heap.size + 1, i, none⟩ (.int .i64 (-1))).setCell ⟨w.heap.size + 1, i, none⟩ (.int .i64 (s1 : Nat))) = W3 at *
            clear hW3
            have hpb3 : W3.cell? ⟨w.heap.size + 1 + 1, 0, none⟩ = some (.slice (some ⟨g, 0, none⟩) S.length c2) := hat3.bp.cell 0
            have hrow3 := own_take hat3.row (d := S.length) (by first | exact hdm | simp)
            have hz3 := hat3.bp.lt
            have HAT3 := Lib.hid hat3
            have HOF := Lib.hid (fun q hq => own_from hrow3 (q := q) hq)
            clear hat3 hpb hpf hz2 hoi hfi hrow
            have hDn : S.length ≤ 300 := by omega
            go_wp2_with (at_builtin; go_loud (refine append_one _ rfl (.tmp 52) (.tmp 54) 22 rfl (w.heap.size + 3) 3 (.int .i64 0) 8 Try.underlying22 rint_info rfl (.slice (some ⟨g, 0, none⟩) S.length c2) S.length _ rfl (hrow3.alloc _) W3.heap.size 1 (.int .i64 i) rfl (by simp) rfl (by simp only [maxLen]; omega) (by omega) (by simp; omega) ?_))
            intro v2 w5 hown5 hg5
            have HFin := Lib.hid (HAT3.out.push (d := S.length) (i := i) HOF.out (by first | exact hown5 | simpa using hown5) hg5 (by first | exact hdm | simp))
            have hbp5 := (HAT3.out.bp.alloc (.cells #[.int .i64 i] 3)).grown hg5 (fun e => by have := HOF.out _ e.symm; omega)
            have hc5 : w5.cell? ⟨w.heap.size + 1 + 1, 0, none⟩ = some (.slice (some ⟨g, 0, none⟩) S.length c2) := hbp5.cell 0
            have hf5 : w5.frozen? ⟨w.heap.size + 1 + 1, 0, none⟩ = false := hbp5.frozen 0
            obtain ⟨A5, c5, rfl, _, _, _, _, _⟩ := own_slice hown5
            clear hown5 hg5 hbp5 hpb3 hrow3
            go_wp2_with fail
            go_roundw
            case rel => exact ⟨i + 1, _, _, by omega, by go_num, HFin.out, HPu.out⟩
            case measure => simp [intOf]; omega
    · obtain rfl : l.length = i := by omega
      have hps := hat.bo
      rw [HAll.out] at hps
      have HPS := Lib.hid hps.lies
      have hbl := hat.bel
      clear hat hst hps
      go_wp2_with fail
      go_ret2
      exact ⟨some ⟨w.heap.size + 1, 0, none⟩, l.length, rfl, HPS.out, (fun e => by cases e), hbl⟩
end Go.Proofs.Ytfijlcaiklhpiaa
