/-
  What seg.Play returns: its contract, walked over the translated text. No condition but what each theorem names.
-/
import Derived.Test.YtefgfkicacbmeaaSegSem
namespace Go.Proofs.Ytefgfkicacbmeaa
open Go.RowKit Words

/-- Operations, cell by cell. -/
def opsC : List Op9 → List Value
  | [] => []
  | o :: r => o.cells ++ opsC r
theorem opsC_length : ∀ os : List Op9, (opsC os).length = os.length * 4
  | [] => rfl
  | o :: r => by
    unfold opsC
    rw [List.length_append, opsC_length r, List.length_cons]
    show 4 + r.length * 4 = _
    omega
theorem opsC_get : ∀ (os : List Op9) (i : Nat) (o : Op9) (j : Nat), os[i]? = some o → j < 4 → (opsC os)[i * 4 + j]? = o.cells[j]?
  | [], i, o, j, h, _ => by simp at h
  | a :: r, 0, o, j, h, hj => by
    obtain rfl : a = o := by simpa using h
    unfold opsC
    rw [List.getElem?_append_left (by show 0 * 4 + j < 4; omega)]
    congr 1
    omega
  | a :: r, i + 1, o, j, h, hj => by
    unfold opsC
    rw [List.getElem?_append_right (by show 4 ≤ (i + 1) * 4 + j; omega)]
    have e : (i + 1) * 4 + j - a.cells.length = i * 4 + j := by show (i + 1) * 4 + j - 4 = _; omega
    rw [e]
    exact opsC_get r i o j (by simpa using h) hj
theorem opsC_append (a b : List Op9) : opsC (a ++ b) = opsC a ++ opsC b := by
  induction a with
  | nil => rfl
  | cons o r ih => show o.cells ++ opsC (r ++ b) = (o.cells ++ opsC r) ++ opsC b; rw [ih, List.append_assoc]
theorem opsC_one (os : List Op9) : ∀ u ∈ opsC os, u.oneCell' = true := by
  induction os with
  | nil => intro u hu; cases hu
  | cons o r ih =>
    intro u hu
    unfold opsC at hu
    rcases List.mem_append.1 hu with e | e
    · unfold Op9.cells at e
      simp only [List.mem_cons, List.not_mem_nil, or_false] at e
      rcases e with rfl | rfl | rfl | rfl <;> rfl
    · exact ih u e
/-- An operation's cells. -/
theorem ops_at {w : World} {B : Nat} {A : Option Addr} {os : List Op9} (h : Lies w B A (opsC os)) {i : Nat} {o : Op9} (hi : os[i]? = some o) :
    ∃ b p, A = some ⟨b, p, none⟩ ∧ b < B ∧ w.cell? ⟨b, p + i * 4, none⟩ = some (.int .i64 o.k) ∧ w.cell? ⟨b, p + i * 4 + 1, none⟩ = some (.int .i64 o.lo) ∧ w.cell? ⟨b, p + i * 4 + 2, none⟩ = some (.int .i64 o.hi) ∧ w.cell? ⟨b, p + i * 4 + 3, none⟩ = some (.int .i64 o.by_) := by
  have hlt : i < os.length := (List.getElem?_eq_some_iff.1 hi).1
  obtain ⟨b, p, e, hb, hc⟩ := h (by
    intro e
    have := opsC_length os
    rw [e] at this
    simp at this
    omega)
  refine ⟨b, p, e, hb, ?_, ?_, ?_, ?_⟩
  · exact hc (i * 4) _ (opsC_get os i o 0 hi (by decide))
  · rw [Nat.add_assoc]; exact hc (i * 4 + 1) _ (opsC_get os i o 1 hi (by decide))
  · rw [Nat.add_assoc]; exact hc (i * 4 + 2) _ (opsC_get os i o 2 hi (by decide))
  · rw [Nat.add_assoc]; exact hc (i * 4 + 3) _ (opsC_get os i o 3 hi (by decide))

theorem madeCells_two (u : Value) (n : Nat) : madeCells #[u, u] n = (List.replicate n u).toArray := by
  unfold madeCells
  apply Array.ext
  · simp
  · intro i h1 h2
    have hi : i % 2 = 0 ∨ i % 2 = 1 := by omega
    rcases hi with e | e <;> simp [e]
/-- 'make([]api.Reply, n)'. -/
theorem make_reps (n : Nat) (hb : n ≤ 1000) (w : World) :
    (Instr.makeSlice 54 (.int .i64 (n : Int)) (.int .i64 (n : Int))).run Try.prog w = .ok (.slice (some ⟨w.heap.size, 0, none⟩) n n) (w.alloc (.cells (zeros (.int .i64 0) (n * 2)) 61)) := by
  have hinfo : (Try.prog.info? 61).map (fun i => (i.zero, i.size, i.bytes)) = some (some (.agg #[.int .i64 0, .int .i64 0]), 2, 16) := by kernel_rfl
  obtain ⟨i, hi, hz0, hz1, hz2⟩ := info_parts hinfo
  have hr := run_make (P := Try.prog) w 54 61 i (.agg #[.int .i64 0, .int .i64 0]) Try.underlying54 hi hz0 .i64 .i64 n n (by omega) (Int.le_refl _) (by rw [hz2]; omega) (by omega)
  rw [hr, hz1, Int.toNat_natCast]
  show Result.ok _ (w.alloc (.cells (madeCells #[.int .i64 0, .int .i64 0] (n * 2)) _)) = _
  rw [madeCells_two]
  rfl
/-- 'make([]int, 0, n)'. -/
theorem make_none (n : Nat) (hb : n ≤ 1000) (w : World) :
    (Instr.makeSlice 22 (.int .i64 0) (.int .i64 (n : Int))).run Try.prog w = .ok (.slice (some ⟨w.heap.size, 0, none⟩) 0 n) (w.alloc (.cells (zeros (.int .i64 0) n) 3)) := by
  obtain ⟨i, hi, hz0, hz1, hz2⟩ := info_parts sint_info
  have hr := run_make (P := Try.prog) w 22 3 i (.int .i64 0) Try.underlying22 hi hz0 .i64 .i64 0 n (by omega) (by omega) (by rw [hz2]; omega) (by omega)
  rw [hr, hz1, Int.toNat_natCast, Nat.mul_one, madeCells_one (.int .i64 0) rfl]
  rfl

/-- The memory ahead of operation i. -/
structure PlayAt (w0 : World) (l : List Int) (ops : List Op9) (h : Nat) (i : Nat) (w : World) : Prop where
  tree : Tree w w0.heap.size (runL l ops i)
  rows : Blk w h 61 (cellsOf (fun q => if q < i * 2 then reps l ops q else 0) (ops.length * 2))
  bel : Below w0.heap.size w0 w
  hh : h + 1 = w0.heap.size + 2 * l.length

/-- No list, no replies, an error. -/
def NoPlay (w : World) (r : Int) (e : Ending) (w' : World) : Prop := e = .returned (.tuple #[.slice none 0 0, .slice none 0 0, .int .i64 r]) ∧ Below w.heap.size w w'
/-- Replies, a list and OK. -/
def Played (w : World) (l : List Int) (ops : List Op9) (e : Ending) (w' : World) : Prop := ∃ A c A2 c2, e = .returned (.tuple #[.slice A ops.length c, .slice A2 l.length c2, .int .i64 0]) ∧ Lies w' w'.heap.size A (cellsOf (reps l ops) (ops.length * 2)) ∧ Lies w' w'.heap.size A2 ((runL l ops ops.length).map (.int .i64)) ∧ (A2 = none → c2 = 0) ∧ Below w.heap.size w w'

/-- .. the list in new memory. -/
def PlayedN (w : World) (l : List Int) (ops : List Op9) (e : Ending) (w' : World) : Prop := ∃ A c A2 c2, e = .returned (.tuple #[.slice A ops.length c, .slice A2 l.length c2, .int .i64 0]) ∧ Lies w' w'.heap.size A (cellsOf (reps l ops) (ops.length * 2)) ∧ Lies w' w'.heap.size A2 ((runL l ops ops.length).map (.int .i64)) ∧ (A2 = none → c2 = 0) ∧ Below w.heap.size w w' ∧ New w.heap.size A2

theorem play_size (A B : Option Addr) (n c m d : Nat) (w : World) (hn : n ≤ 17592186044416) (hm : m ≤ 17592186044416) (h : n < 1 ∨ 300 < n ∨ 300 < m) :
    Calls Try.prog 35 #[.slice A n c, .slice B m d] w (NoPlay w 1) := by
  by_cases h1 : n < 1
  · obtain rfl : n = 0 := by omega
    go_enter Try.func35, Try.ntmps35
    go_wp2_with fail
    go_ret3
    exact ⟨rfl, Below.refl _ _⟩
  · by_cases h2 : 300 < n
    · go_enter Try.func35, Try.ntmps35
      go_wp2_with fail
      go_ret3
      exact ⟨rfl, Below.refl _ _⟩
    · have h3 : 300 < m := by omega
      go_enter Try.func35, Try.ntmps35
      go_wp2_with fail
      go_ret3
      exact ⟨rfl, Below.refl _ _⟩

theorem play_range (A B : Option Addr) (l : List Int) (c m d : Nat) (w : World) (h0 : 1 ≤ l.length) (hn : l.length ≤ 300) (hm : m ≤ 300) (hc : ¬ Cos l) (hL : Lies w w.heap.size A (l.map (.int .i64))) :
    Calls Try.prog 35 #[.slice A l.length c, .slice B m d] w (NoPlay w 2) := by
  have H := Lib.hid (contains_any A l c w (by omega) hL)
  rw [decide_eq_false hc] at H
  clear hc hL
  generalize l.length = n at *
  go_enter Try.func35, Try.ntmps35
  go_wp2_with fail
  refine H.out.mono ?_
  rintro e w1 ⟨rfl, d', rfl⟩
  go_wp2_with fail
  go_ret3
  exact ⟨rfl, bdN (Below.refl _ _) _⟩

theorem cos_bds {l : List Int} (h : Cos l) : Bds l := fun z hz => by
  have := h z hz
  unfold Co at this
  unfold Bd
  omega
theorem cos_lim {l : List Int} (h : Cos l) : LimL 1048576 l := fun z hz => h z hz

theorem rows_step (f : Nat → Int) (n i : Nat) : ((cellsOf (fun q => if q < i * 2 then f q else 0) n).set (i * 2) (.int .i64 (f (i * 2)))).set (i * 2 + 1) (.int .i64 (f (i * 2 + 1))) = cellsOf (fun q => if q < (i + 1) * 2 then f q else 0) n := by
  rw [cellsOf_set, cellsOf_set]
  apply cellsOf_congr
  intro q _
  unfold upd
  by_cases h1 : q = i * 2 + 1
  · rw [if_pos h1, if_pos (by omega), h1]
  · rw [if_neg h1]
    by_cases h2 : q = i * 2
    · rw [if_pos h2, if_pos (by omega), h2]
    · rw [if_neg h2]
      show (if q < i * 2 then f q else 0) = _
      by_cases h3 : q < i * 2
      · rw [if_pos h3, if_pos (by omega)]
      · rw [if_neg h3, if_neg (by omega)]

set_option maxHeartbeats 1000000 in
/-- seg.Play. -/
theorem play_new (A B : Option Addr) (l : List Int) (ops : List Op9) (c d : Nat) (w : World) (h0 : 1 ≤ l.length) (hn : l.length ≤ 300) (hcc : l.length ≤ c) (hm : ops.length ≤ 300) (hc : Cos l) (hL : Lies w w.heap.size A (l.map (.int .i64))) (hO : Lies w w.heap.size B (opsC ops)) :
    Calls Try.prog 35 #[.slice A l.length c, .slice B ops.length d] w (PlayedN w l ops) := by
  have H := Lib.hid (contains_any A l c w (by omega) hL)
  rw [decide_eq_true hc] at H
  obtain ⟨b, o, x, rfl, hb, hx, hce⟩ := hL.at_ (k := 0) (by omega)
  clear hx hce hb x
  have HB := Lib.hid (fun d' => build_any l.length b o l c (w.drewN d') (Nat.le_refl _) (by omega) hn hcc (cos_bds hc) hL)
  have HE := Lib.hid (fun (i : Nat) (op : Op9) (W : World) (hi : i ≤ 300) (hT : Tree W w.heap.size (runL l ops i)) => exec_any w.heap.size (runL l ops i) op W hT (by rw [runL_length]; exact hn) (fun z hz => by
    have := runL_lim ops (B := 1048576) (by omega) (cos_lim hc) i z hz
    omega))
  have HA := Lib.hid (fun (W : World) (v : Value) (base : Nat) (hT : Tree W w.heap.size (runL l ops ops.length)) h1 h2 h3 => appendTo_any l.length w.heap.size (runL l ops ops.length) v 0 [] base W (by rw [runL_length]; exact Nat.le_refl _) (by rw [runL_length]; exact hn) hT h1 h2 (by rw [runL_length]; omega) h3)
  have HO := Lib.hid hO
  have mk1 := make_reps ops.length (by omega)
  have mk2 := make_none l.length (by omega)
  have hlen := runL_length l ops
  have HLen := Lib.hid hlen
  clear hL hO hc hlen
  go_enter Try.func35, Try.ntmps35
  go_wp2_with fail
  refine H.out.mono ?_
  rintro e w1 ⟨rfl, d', rfl⟩
  go_wp2_with fail
  refine (HB.out _).mono ?_
  rintro e w1 ⟨rfl, hT, hs, hb1⟩
  have hs' : w1.heap.size + 1 = w.heap.size + 2 * l.length := hs
  have hT' : Tree w1 w.heap.size l := hT
  have hb1' : Below w.heap.size w w1 := ⟨hb1.os, hb1.tape, hb1.output, hb1.size, hb1.block⟩
  have HP0 : Hid (PlayAt w l ops w1.heap.size 0 (w1.alloc (.cells (zeros (.int .i64 0) (ops.length * 2)) 61))) := Lib.hid (by
    refine ⟨hT'.box _, ?_, chain hb1' (bnew w1 _), hs'⟩
    have h := zeros_blk w1 (.int .i64 0) (ops.length * 2) 61
    have e : cellsOf (fun q => if q < 0 * 2 then reps l ops q else 0) (ops.length * 2) = List.replicate (ops.length * 2) (.int .i64 0) := by
      apply List.ext_getElem?
      intro q
      by_cases hq : q < ops.length * 2
      · rw [cellsOf_get _ _ _ hq, List.getElem?_replicate, if_pos hq, if_neg (by omega)]
      · rw [List.getElem?_eq_none (by rw [cellsOf_length]; omega), List.getElem?_eq_none (by simp; omega)]
    rw [e]
    exact h)
  clear hT hs hb1 hT' hb1' hs' H HB
  go_wp2_with fail
  go_loopw [33] (fun a w' => ∃ i : Nat, i ≤ ops.length ∧ a = .int .i64 i ∧ PlayAt w l ops w1.heap.size i w') (fun a _ => ops.length - (intOf a).toNat)
  case atStart => exact ⟨0, Nat.zero_le _, rfl, HP0.out⟩
  case round =>
    obtain ⟨i, hi, rfl, hP⟩ := hrel
    clear HP0
    have hh := hP.hh
    by_cases hlt : i < ops.length
    · have hget : ops[i]? = some ops[i] := List.getElem?_eq_getElem hlt
      generalize ops[i] = op at *
      obtain ⟨b2, p2, rfl, hb2, q0, q1, q2, q3⟩ := ops_at (HO.out.on hP.bel) hget
      have HX : Hid (∀ cs, Calls Try.prog 62 #[.pointer (some ⟨w.heap.size, 0, none⟩), .agg #[.int .i64 op.k, .int .i64 op.lo, .int .i64 op.hi, .int .i64 op.by_]] (wr.alloc cs) fun e w2 => e = .returned (.agg #[.int .i64 (reps l ops (i * 2)), .int .i64 (reps l ops (i * 2 + 1))]) ∧ Tree w2 w.heap.size (runL l ops (i + 1)) ∧ Blk w2 w1.heap.size 61 (cellsOf (fun q => if q < i * 2 then reps l ops q else 0) (ops.length * 2)) ∧ Below w.heap.size w w2) := Lib.hid (fun cs => by
        refine (HE.out i op (wr.alloc cs) (by omega) (hP.tree.box _)).mono ?_
        rintro e w2 ⟨rfl, hT2, hk2⟩
        rw [HLen.out] at hk2
        refine ⟨?_, by rw [runL_some hget]; exact hT2, (hP.rows.alloc _).keeps hk2 (by unfold InT; omega), ?_⟩
        · rw [HLen.out, reps_even hget, reps_odd hget]
        · exact (chain hP.bel (bnew wr cs)).trans (hk2.below (Nat.le_trans hP.bel.size (by simp)) fun k k1 k2 => by unfold InT at k2; omega))
      have HG := Lib.hid hget
      have HS := Lib.hid (rows_step (reps l ops) (ops.length * 2) i)
      have hz : ∀ q, q < ops.length * 2 → (cellsOf (fun q => if q < i * 2 then reps l ops q else 0) (ops.length * 2))[q]? = some (.int .i64 (if q < i * 2 then reps l ops q else 0)) := fun q hq => cellsOf_get _ _ _ hq
      have hz0 := hz (i * 2) (by omega)
      have hz1 := hz (i * 2 + 1) (by omega)
      rw [if_neg (by omega)] at hz0 hz1
      have HZ0 := Lib.hid hz0
      have HZ1 := Lib.hid hz1
      have hltI : (i : Int) < (ops.length : Int) := by omega
      clear hget hz hz0 hz1 hP
      generalize hr0 : reps l ops (i * 2) = v0 at *
      generalize hr1 : reps l ops (i * 2 + 1) = v1 at *
      clear hr0 hr1
      go_wp2_with fail
      refine (HX.out _).mono ?_
      rintro e w2 ⟨rfl, hT2, hB2, hbl2⟩
      have y0 : w2.cell? ⟨w1.heap.size, i * 2, none⟩ = some (.int .i64 0) := (hB2.cell _).trans HZ0.out
      have y1 : w2.cell? ⟨w1.heap.size, i * 2 + 1, none⟩ = some (.int .i64 0) := (hB2.cell _).trans HZ1.out
      have hfz := hB2.frozen
      have HT2 := Lib.hid hT2
      have HB2 := Lib.hid hB2
      clear hT2 hB2 HZ0 HZ1 q0 q1 q2 q3
      go_wp2_with fail
      go_roundw
      case rel =>
        refine ⟨i + 1, by omega, by go_num, ?_⟩
        have hk : Keeps (Is w1.heap.size) w2 ((w2.setCell ⟨w1.heap.size, i * 2, none⟩ (.int .i64 v0)).setCell ⟨w1.heap.size, i * 2 + 1, none⟩ (.int .i64 v1)) := ((Keeps.refl (Is w1.heap.size) w2).put1 _ _).put1 _ _
        refine ⟨HT2.out.keeps hk (fun k k1 k2 e => by rw [HLen.out] at k2; unfold Is at e; omega), ?_, (hbl2.setCell (by show w.heap.size ≤ w1.heap.size; omega) _).setCell (by show w.heap.size ≤ w1.heap.size; omega) _, hh⟩
        rw [← HS.out]
        exact (HB2.out.put _ _).put _ _
      case measure => simp [intOf]; omega
    · obtain rfl : ops.length = i := by omega
      have hown : (wr.alloc (.cells (zeros (.int .i64 0) l.length) 3)).ownsRow wr.heap.size 3 1 (.slice (some ⟨wr.heap.size, 0, none⟩) 0 l.length) 0 [] := by
        refine ⟨rfl, .inr ⟨wr.heap.size, l.length, zeros (.int .i64 0) l.length, rfl, Nat.le_refl _, ?_, Nat.zero_le _, by simp only [maxLen]; omega, by unfold zeros; simp, by simp⟩⟩
        have := zeros_blk wr (.int .i64 0) l.length 3
        exact this
      have hlt2 := hP.tree.lt
      rw [HLen.out] at hlt2
      have hlt3 := hP.rows.lt
      have HAA := Lib.hid (HA.out _ _ wr.heap.size (hP.tree.box (.cells (zeros (.int .i64 0) l.length) 3)) (by rw [HLen.out]; omega) (by simp) hown)
      rw [HLen.out] at HAA
      have HPP := Lib.hid hP
      clear hP hown HA HE
      have hz1 : (0 : Nat) + l.length = l.length := by omega
      rw [hz1, List.nil_append] at HAA
      have HR := Lib.hid (cellsOf_congr (f := fun q => if q < ops.length * 2 then reps l ops q else 0) (g := reps l ops) (ops.length * 2) fun q hq => if_pos hq)
      clear hz1
      go_wp2_with fail
      refine HAA.out.mono ?_
      rintro e w2 ⟨v, rfl, hown2, hk2⟩
      obtain ⟨A2, c2, rfl, hle2, _, hl2, hn2, hw2⟩ := own_slice hown2
      have HL2 := Lib.hid hl2
      have HN2 := Lib.hid hn2
      clear hown2 hl2 hn2
      go_wp2_with fail
      go_ret3
      have hP := HPP.out
      have hrows := (hP.rows.alloc (.cells (zeros (.int .i64 0) l.length) 3)).keeps hk2 (by unfold Ap InT; omega)
      rw [HR.out] at hrows
      exact ⟨_, _, A2, c2, rfl, hrows.lies, HL2.out, HN2.out, (chain hP.bel (bnew wr _)).trans (hk2.below (Nat.le_trans hP.bel.size (by simp)) fun k k1 k2 => by unfold Ap InT at k2; have := hP.bel.size; omega), hw2.mono hP.bel.size⟩
theorem play_any (A B : Option Addr) (l : List Int) (ops : List Op9) (c d : Nat) (w : World) (h0 : 1 ≤ l.length) (hn : l.length ≤ 300) (hcc : l.length ≤ c) (hm : ops.length ≤ 300) (hc : Cos l) (hL : Lies w w.heap.size A (l.map (.int .i64))) (hO : Lies w w.heap.size B (opsC ops)) :
    Calls Try.prog 35 #[.slice A l.length c, .slice B ops.length d] w (Played w l ops) :=
  (play_new A B l ops c d w h0 hn hcc hm hc hL hO).mono fun _ _ ⟨A1, c1, A2, c2, h1, h2, h3, h4, h5, _⟩ => ⟨A1, c1, A2, c2, h1, h2, h3, h4, h5⟩
end Go.Proofs.Ytefgfkicacbmeaa
