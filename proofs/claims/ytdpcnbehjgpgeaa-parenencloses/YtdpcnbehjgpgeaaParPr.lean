/-
  What paren.Match, paren.Enclose and paren.Tree return: contracts, walked over the translated text. No condition but what each theorem names.
-/
import Derived.Test.YtdpcnbehjgpgeaaParFor
namespace Go.Proofs.Ytdpcnbehjgpgeaa
open Go.RowKit Words

/-- What a call that returns a number and an error, and makes memory at most, leaves. -/
def Tells (w : World) (x k : Int) (e : Ending) (w' : World) : Prop := e = .returned (.tuple #[.int .i64 x, .int .i64 k]) ∧ Below w.heap.size w w'

/-- The cells of a place's node. -/
theorem ForAt.node {l : List Bool} {w0 w : World} {v : Value} {xs ys : List Value} (h : ForAt l w0 w l.length v xs ys) {a b : Nat} (hc : IsClose l a b) :
    ∃ g c, v = .slice (some ⟨g, 0, none⟩) (cntO l l.length) c ∧ cntO l a < cntO l l.length ∧ w0.heap.size + 1 ≤ g ∧ w.cell? ⟨g, cntO l a * 3, none⟩ = some (.int .i64 (a : Nat)) ∧ w.cell? ⟨g, cntO l a * 3 + 1, none⟩ = some (.int .i64 (b : Nat)) ∧ w.cell? ⟨g, cntO l a * 3 + 2, none⟩ = some (.int .i64 (parP l a)) := by
  have hb := get_lt hc.shuts
  have ha := get_lt hc.opens
  have hlt := cntO_lt hc.opens ha
  obtain ⟨g, c, rfl, hg, _⟩ := own_some h.row (by omega)
  exact ⟨g, c, rfl, hlt, hg, (h.row.cellAt _ (by omega)).trans (h.fst a ha hc.opens), (h.row.cellAt _ (by omega)).trans (h.lst a b hb hc), (h.row.cellAt _ (by omega)).trans (h.par a ha hc.opens)⟩
theorem ForAt.at_ {l : List Bool} {w0 w : World} {v : Value} {xs ys : List Value} (h : ForAt l w0 w l.length v xs ys) {a b i : Nat} (hc : IsClose l a b) (hi : i = a ∨ i = b) : w.cell? ⟨w0.heap.size, i, none⟩ = some (.int .i64 (cntO l a : Nat)) := by
  refine (h.blk.cell i).trans ?_
  rcases hi with rfl | rfl
  · exact h.ats i i (get_lt hc.opens) (.inl ⟨rfl, hc.opens⟩)
  · exact h.ats i a (get_lt hc.shuts) (.inr hc)

/-- paren.Match of what has a fault. -/
theorem pmatch_fault (bs : ByteArray) (i r : Int) (w : World) (hr : r ≠ 0) (h : ∀ W, Calls Try.prog 25 #[.string bs, .int .i64 i] W fun e w' => e = .returned (.int .i64 r) ∧ W = w') :
    Calls Try.prog 13 #[.string bs, .int .i64 i] w (Tells w 0 r) := by
  have H := Lib.hid h
  have hne : (r != 0) = true := by simpa using hr
  clear h hr
  go_enter Try.func13, Try.ntmps13
  go_wp2_with (go_at_call 25; refine (H.out _).mono ?_; rintro e w1 ⟨rfl, rfl⟩)
  go_ret2
  exact ⟨rfl, Below.refl _ _⟩

set_option maxHeartbeats 1000000 in
/-- paren.Match. -/
theorem pmatch_any (l : List Bool) (i j : Nat) (w : World) (hn : l.length ≤ 400) (hb : Bal l) (hi : i < l.length) (hm : Mate l i j) :
    Calls Try.prog 13 #[.string (txtP l), .int .i64 i] w (Tells w j 0) := by
  have HI := Lib.hid (fun W => pidx_ok (txtP l) i W (by rw [txtP_size]; exact hi) (fun W' => pcheck_ok hn hb W'))
  have HF := Lib.hid (fun W => forest_any l W hn hb)
  unfold GivesForest at HF
  have hiL : (i : Int) < (l.length : Int) := by omega
  have hci := cntO_le l l.length
  clear hb
  generalize txtP l = bs at *
  rcases hm with hc | hc
  · have HC := Lib.hid hc
    clear hc
    have hee : ((i : Int) == (i : Int)) = true := by simp
    go_enter Try.func13, Try.ntmps13
    go_wp2_with (go_at_call 25; refine (HI.out _).mono ?_; rintro e w1 ⟨rfl, rfl⟩)
    refine (HF.out _).mono ?_
    rintro e w1 ⟨v, xs, ys, rfl, hat⟩
    obtain ⟨g, c, rfl, hlt, hg, h0, h1, h2⟩ := hat.node HC.out
    have h3 := hat.at_ HC.out (i := i) (.inl rfl)
    have hB := hat.bel
    clear hat
    generalize cntO l i = m at *
    generalize cntO l l.length = N at *
    generalize parP l i = p at *
    have hmN : (m : Int) < (N : Int) := by omega
    go_wp2_with fail
    go_ret2
    exact ⟨rfl, hB.alloc hB.size _⟩
  · have hne : ((i : Int) == (j : Int)) = false := by rw [beq_eq_false_iff_ne]; have := hc.lt; omega
    have HC := Lib.hid hc
    clear hc
    go_enter Try.func13, Try.ntmps13
    go_wp2_with (go_at_call 25; refine (HI.out _).mono ?_; rintro e w1 ⟨rfl, rfl⟩)
    refine (HF.out _).mono ?_
    rintro e w1 ⟨v, xs, ys, rfl, hat⟩
    obtain ⟨g, c, rfl, hlt, hg, h0, h1, h2⟩ := hat.node HC.out
    have h3 := hat.at_ HC.out (i := i) (.inr rfl)
    have hB := hat.bel
    clear hat
    generalize cntO l j = m at *
    generalize cntO l l.length = N at *
    generalize parP l j = p at *
    have hmN : (m : Int) < (N : Int) := by omega
    go_wp2_with fail
    go_ret2
    exact ⟨rfl, hB.alloc hB.size _⟩

/-- paren.Enclose of what has a fault. -/
theorem penc_fault (bs : ByteArray) (i r : Int) (w : World) (hr : r ≠ 0) (h : ∀ W, Calls Try.prog 25 #[.string bs, .int .i64 i] W fun e w' => e = .returned (.int .i64 r) ∧ W = w') :
    Calls Try.prog 15 #[.string bs, .int .i64 i] w (Tells w 0 r) := by
  have H := Lib.hid h
  have hne : (r != 0) = true := by simpa using hr
  clear h hr
  go_enter Try.func15, Try.ntmps15
  go_wp2_with (go_at_call 25; refine (H.out _).mono ?_; rintro e w1 ⟨rfl, rfl⟩)
  go_ret2
  exact ⟨rfl, Below.refl _ _⟩

set_option maxHeartbeats 1000000 in
/-- paren.Enclose. -/
theorem penc_any (l : List Bool) (i a b : Nat) (w : World) (hn : l.length ≤ 400) (hb : Bal l) (hc : IsClose l a b) (hia : i = a ∨ i = b) :
    Calls Try.prog 15 #[.string (txtP l), .int .i64 i] w (Tells w (encV l a) (encE l a)) := by
  have hi : i < l.length := by
    have h1 := get_lt hc.opens
    have h2 := get_lt hc.shuts
    omega
  have HI := Lib.hid (fun W => pidx_ok (txtP l) i W (by rw [txtP_size]; exact hi) (fun W' => pcheck_ok hn hb W'))
  have HF := Lib.hid (fun W => forest_any l W hn hb)
  unfold GivesForest at HF
  have hiL : (i : Int) < (l.length : Int) := by omega
  have hci := cntO_le l l.length
  have HIA := Lib.hid hia
  have HC := Lib.hid hc
  have HB := Lib.hid hb
  have hal := get_lt hc.opens
  clear hc hb hia
  generalize txtP l = bs at *
  cases hen : enc l a with
  | none =>
    have e1 : encV l a = 0 := by unfold encV; rw [hen]
    have e2 : encE l a = 7 := by unfold encE; rw [hen]
    have e3 : parP l a = -1 := parP_none hen
    rw [e1, e2]
    have E3 := Lib.hid e3
    clear e1 e2 hen e3
    go_enter Try.func15, Try.ntmps15
    go_wp2_with (go_at_call 25; refine (HI.out _).mono ?_; rintro e w1 ⟨rfl, rfl⟩)
    refine (HF.out _).mono ?_
    rintro e w1 ⟨v, xs, ys, rfl, hat⟩
    obtain ⟨g, c, rfl, hlt, hg, h0, h1, h2⟩ := hat.node HC.out
    have h3 := hat.at_ HC.out HIA.out
    have hB := hat.bel
    rw [E3.out] at h2
    clear hat
    generalize cntO l a = m at *
    generalize cntO l l.length = N at *
    have hmN : (m : Int) < (N : Int) := by omega
    go_wp2_with fail
    go_ret2
    exact ⟨rfl, hB⟩
  | some k =>
    have e1 : encV l a = (k : Nat) := by unfold encV; rw [hen]
    have e2 : encE l a = 0 := by unfold encE; rw [hen]
    have e3 : parP l a = (cntO l k : Nat) := parP_some hen
    rw [e1, e2]
    have E3 := Lib.hid e3
    obtain ⟨q, hq⟩ := HB.out.close ((enc_iff (Nat.le_of_lt hal)).1 hen).opens
    have HQ := Lib.hid hq
    clear e1 e2 hen e3 hq
    go_enter Try.func15, Try.ntmps15
    go_wp2_with (go_at_call 25; refine (HI.out _).mono ?_; rintro e w1 ⟨rfl, rfl⟩)
    refine (HF.out _).mono ?_
    rintro e w1 ⟨v, xs, ys, rfl, hat⟩
    obtain ⟨g, c, rfl, hlt, hg, h0, h1, h2⟩ := hat.node HC.out
    obtain ⟨g', c', he', hlt', _, h0', _, _⟩ := hat.node HQ.out
    obtain ⟨rfl, rfl⟩ : g' = g ∧ c' = c := by injection he' with e1 e2 e3; injection e1 with e1; injection e1 with e1; exact ⟨e1.symm, e3.symm⟩
    have h3 := hat.at_ HC.out HIA.out
    have hB := hat.bel
    rw [E3.out] at h2
    clear hat he'
    generalize cntO l a = m at *
    generalize cntO l k = m2 at *
    generalize cntO l l.length = N at *
    have hmN : (m : Int) < (N : Int) := by omega
    have hmN2 : (m2 : Int) < (N : Int) := by omega
    have hne : ((m2 : Int) == -1) = false := by rw [beq_eq_false_iff_ne]; omega
    go_wp2_with fail
    go_ret2
    exact ⟨rfl, hB⟩

/-- paren.Tree of what has a fault. -/
theorem ptree_fault (bs : ByteArray) (r : Int) (w : World) (hr : r ≠ 0) (h : ∀ W, Calls Try.prog 11 #[.string bs] W fun e w' => e = .returned (.int .i64 r) ∧ W = w') :
    Calls Try.prog 17 #[.string bs] w (NoList w r) := by
  have H := Lib.hid h
  have hne : (r != 0) = true := by simpa using hr
  clear h hr
  go_enter Try.func17, Try.ntmps17
  go_wp2_with (go_at_call 11; refine (H.out _).mono ?_; rintro e w1 ⟨rfl, rfl⟩)
  go_ret2
  exact ⟨rfl, Below.refl _ _⟩

/-- A row of zeros, filled from the front. -/
def filled (ps : List Int) (i : Nat) : List Value := (ps.take i).map (.int .i64) ++ List.replicate (ps.length - i) (.int .i64 0)
theorem filled_zero (ps : List Int) : filled ps 0 = List.replicate ps.length (.int .i64 0) := by simp [filled]
theorem filled_all (ps : List Int) : filled ps ps.length = ps.map (.int .i64) := by simp [filled]
theorem filled_at {ps : List Int} {i : Nat} (h : i < ps.length) : (filled ps i)[i]? = some (.int .i64 0) := by
  unfold filled
  rw [List.getElem?_append_right (by simp; omega), List.getElem?_replicate]
  simp [Nat.min_eq_left (Nat.le_of_lt h)]
  omega
theorem filled_step {ps : List Int} {i : Nat} {x : Int} (h : ps[i]? = some x) : (filled ps i).set i (.int .i64 x) = filled ps (i + 1) := by
  have hi := get_lt h
  unfold filled
  rw [show ps.length - i = ps.length - (i + 1) + 1 by omega, List.replicate_succ, List.take_add_one, h, List.set_append]
  simp [List.length_take, Nat.min_eq_left (Nat.le_of_lt hi)]

set_option maxHeartbeats 1000000 in
/-- paren.Tree. -/
theorem ptree_any (l : List Bool) (w : World) (hn : l.length ≤ 400) (hb : Bal l) :
    Calls Try.prog 17 #[.string (txtP l)] w (GivesList w (treeP l)) := by
  have H := Lib.hid (fun W => pcheck_ok hn hb W)
  have HF := Lib.hid (fun W => forest_any l W hn hb)
  unfold GivesForest at HF
  have hci := cntO_le l l.length
  have HB := Lib.hid hb
  have HTL := Lib.hid (treeP_length l)
  have HOL := Lib.hid (opens_length l)
  have hmk := make_row (P := Try.prog) 28 3 (.int .i64 0) 8 Try.underlying28 pint_info rfl (cntO l l.length) (by omega) (by omega)
  clear hb
  generalize txtP l = bs at *
  go_enter Try.func17, Try.ntmps17
  go_wp2_with (go_at_call 11; refine (H.out _).mono ?_; rintro e w1 ⟨rfl, rfl⟩)
  refine (HF.out _).mono ?_
  rintro e w1 ⟨v, xs, ys, rfl, hat⟩
  obtain ⟨A, c, rfl⟩ : ∃ A c, v = .slice A (cntO l l.length) c := by
    rcases hat.row.2 with ⟨rfl, h0⟩ | ⟨g, cap, cur, rfl, _⟩
    · exact ⟨none, 0, by rw [h0]⟩
    · exact ⟨_, _, rfl⟩
  have HA := Lib.hid hat
  have hB := hat.bel
  have hBs := hB.size
  clear hat
  generalize cntO l l.length = N at *
  go_wp2_with fail
  go_loopw [25] (fun s w' => ∃ i : Nat, i ≤ N ∧ s = .int .i64 i ∧ Blk w' w1.heap.size 3 (filled (treeP l) i) ∧ Below w1.heap.size w1 w') (fun s _ => N - (intOf s).toNat)
  case atStart => exact ⟨0, Nat.zero_le _, rfl, by rw [filled_zero, HTL.out]; exact zeros_blk w1 _ _ _, bnew w1 _⟩
  case round =>
    obtain ⟨i, hi, rfl, hblk, hbel⟩ := hrel
    by_cases hlt : i < N
    · have hget : (opens l)[i]? = some ((opens l).getD i 0) := by rw [List.getD, List.getElem?_eq_getElem (show i < (opens l).length by rw [HOL.out]; exact hlt)]; rfl
      have hTi := treeP_get hget
      obtain ⟨hop, hcn⟩ := (opens_get l _ _).1 hget
      generalize (opens l).getD i 0 = a at *
      obtain ⟨b, hc⟩ := HB.out.close hop
      obtain ⟨g, c', he, hl', hg, h0, h1, h2⟩ := HA.out.node hc
      injection he with e1 e2 e3
      subst e1 e3
      have hgw := cell_lt h0
      rw [hcn] at h0 h1 h2
      have hc0 := (bcell hbel g _ hgw).trans h0
      have hc1 := (bcell hbel g _ hgw).trans h1
      have hc2 := (bcell hbel g _ hgw).trans h2
      have hiT : i < (treeP l).length := get_lt hTi
      have hcell : wr.cell? ⟨w1.heap.size, i, none⟩ = some (.int .i64 0) := (hblk.cell i).trans (filled_at hiT)
      have hfro := hblk.frozen i
      have hsz := hblk.lt
      have HFi := Lib.hid (filled_step hTi)
      have HBK := Lib.hid hblk
      have HBL := Lib.hid hbel
      have hiN : (i : Int) < (N : Int) := by omega
      clear e2 hget hTi hop hcn hc hl' h0 h1 h2 hblk hbel
      generalize parP l a = p at *
      go_wp2_with fail
      go_roundw
      case rel => exact ⟨i + 1, by omega, by go_num, by rw [← HFi.out]; exact (HBK.out.put i _).alloc _, (HBL.out.setCell (Nat.le_refl _) _).alloc (by simp; omega) _⟩
      case measure => simp [intOf]; omega
    · obtain rfl : i = N := by omega
      have hfin : Blk wr w1.heap.size 3 ((treeP l).map (.int .i64)) := by
        rw [← HTL.out, filled_all] at hblk
        exact hblk
      have HFin := Lib.hid hfin.lies
      have HBL := Lib.hid (chain hB hbel)
      clear hblk hbel hfin
      go_wp2_with fail
      go_ret2
      exact ⟨_, _, by rw [HTL.out]; rfl, HFin.out, (fun e => by cases e), HBL.out⟩
end Go.Proofs.Ytdpcnbehjgpgeaa
