/-
  The memory that the document's SegPlayed works on, and the mathematics of its loop over a range. No condition but what each theorem names.
-/
import Derived.Test.YtnjpehgmlfenbaaSegPl
namespace Go.Proofs.Ytnjpehgmlfenbaa
open Go.RowKit Words

/-- The document's coordMay. -/
theorem may_any (z : Int) (w : World) : Calls Try.prog 21 #[.int .i64 z] w fun e w' => e = .returned (.bool (decide (Co z))) ∧ w = w' := by
  have hd : decide (Co z) = (decide (-1048576 ≤ z) && decide (z ≤ 1048576)) := Bool.eq_iff_iff.2 (by simp only [decide_eq_true_eq, Bool.and_eq_true]; exact Iff.rfl)
  rw [hd]
  by_cases a : -1048576 ≤ z
  · by_cases b : z ≤ 1048576
    · rw [decide_eq_true a, decide_eq_true b]
      go_enter Try.func21, Try.ntmps21
      go_wp2_with fail
      go_ret
      exact ⟨rfl, rfl⟩
    · rw [decide_eq_true a, decide_eq_false b]
      go_enter Try.func21, Try.ntmps21
      go_wp2_with fail
      go_ret
      exact ⟨rfl, rfl⟩
  · rw [decide_eq_false a]
    go_enter Try.func21, Try.ntmps21
    go_wp2_with fail
    go_ret
    exact ⟨rfl, rfl⟩

/-- Where a range begins ahead of the list, it begins with the list. -/
theorem prt_ahead : ∀ (L : List Int) (a b hi : Int), a ≤ 0 → b ≤ 0 → prt L a hi = prt L b hi
  | [], _, _, _, _, _ => rfl
  | y :: L, a, b, hi, ha, hb => by
    unfold prt
    rw [prt_ahead L (a - 1) (b - 1) (hi - 1) (by omega) (by omega)]
    by_cases h : 0 ≤ hi
    · rw [if_pos (by omega), if_pos (by omega)]
    · rw [if_neg (by omega), if_neg (by omega)]
/-- One number more of a range. -/
theorem prt_step : ∀ (L : List Int) (lo : Int) (j : Nat) (z : Int), 0 ≤ lo → lo ≤ (j : Int) → L[j]? = some z → prt L lo (j : Int) = prt L lo ((j : Int) - 1) ++ [z]
  | [], _, _, _, _, _, h => by simp at h
  | y :: L, lo, 0, z, h0, h1, h => by
    obtain rfl : y = z := by simpa using h
    obtain rfl : lo = 0 := by omega
    unfold prt
    rw [if_pos (by omega), if_neg (by omega), prt_none L _ _ (.inl (by omega)), prt_none L _ _ (.inl (by omega))]
    rfl
  | y :: L, lo, j + 1, z, h0, h1, h => by
    by_cases hl : lo = 0
    · subst hl
      unfold prt
      rw [if_pos (by omega), if_pos (by omega)]
      have e : ((j + 1 : Nat) : Int) - 1 = (j : Int) := by omega
      rw [e]
      have h' : L[j]? = some z := by simpa using h
      have p : ∀ hi : Int, prt L (0 - 1) hi = prt L 0 hi := fun hi => prt_ahead L (0 - 1) 0 hi (by omega) (by omega)
      rw [p, p, prt_step L 0 j z (by omega) (by omega) h', List.append_assoc]
    · unfold prt
      rw [if_neg (by omega), if_neg (by omega)]
      have e : ((j + 1 : Nat) : Int) - 1 = (j : Int) := by omega
      rw [e, List.nil_append, List.nil_append]
      exact prt_step L (lo - 1) j z (by omega) (by omega) (by simpa using h)
theorem prt_before (L : List Int) (lo : Int) (h : 0 ≤ lo) : ∀ hi, hi < lo → prt L lo hi = [] := by
  induction L generalizing lo with
  | nil => intro hi _; rfl
  | cons y L ih =>
    intro hi hh
    unfold prt
    rw [if_neg (by omega)]
    by_cases h0 : lo = 0
    · subst h0
      rw [prt_none L _ _ (.inl (by omega))]
      rfl
    · rw [ih (lo - 1) (by omega) (hi - 1) (by omega)]
      rfl
theorem mapR_before (f : Int → Int) (L : List Int) (lo hi : Int) (h : hi < lo) : mapR f L lo hi = L := by
  apply List.ext_getElem?
  intro i
  rw [mapR_get]
  cases L[i]? with
  | none => rfl
  | some z => simp only [Option.map_some]; rw [if_neg (by omega)]
theorem mapR_step (f : Int → Int) (L : List Int) (lo : Int) (j : Nat) (z : Int) (h1 : lo ≤ (j : Int)) (h : L[j]? = some z) : (mapR f L lo ((j : Int) - 1)).set j (f z) = mapR f L lo (j : Int) := by
  have hj : j < L.length := (List.getElem?_eq_some_iff.1 h).1
  apply List.ext_getElem?
  intro i
  by_cases e : i = j
  · subst e
    rw [List.getElem?_set_self (by rw [mapR_length]; exact hj), mapR_get, h]
    simp only [Option.map_some]
    rw [if_pos (by omega)]
  · rw [List.getElem?_set_ne (by omega), mapR_get, mapR_get]
    cases L[i]? with
    | none => rfl
    | some y =>
      simp only [Option.map_some]
      by_cases c : lo ≤ (i : Int) ∧ (i : Int) ≤ (j : Int) - 1
      · rw [if_pos c, if_pos (by omega)]
      · rw [if_neg c, if_neg (by omega)]
theorem mapR_at (f : Int → Int) (L : List Int) (lo : Int) (j : Nat) (z : Int) (h : L[j]? = some z) : (mapR f L lo ((j : Int) - 1))[j]? = some z := by
  rw [mapR_get, h]
  simp only [Option.map_some]
  rw [if_neg (by omega)]
theorem accL_one (a z : Int) (p : List Int) : accL a (p ++ [z]) = min (accL a p) z := by
  rw [accL_join]
  rfl
theorem accL_mem {z : Int} {p : List Int} (h : z ∈ p) : accL z p = mn p := by
  unfold accL
  rw [if_neg (by intro e; subst e; cases h)]
  have := mn_le h
  omega

theorem prt_get : ∀ (L : List Int) (lo hi : Int) (j : Nat) (z : Int), L[j]? = some z → lo ≤ (j : Int) → (j : Int) ≤ hi → z ∈ prt L lo hi
  | [], _, _, _, _, h, _, _ => by simp at h
  | y :: L, lo, hi, 0, z, h, h1, h2 => by
    obtain rfl : y = z := by simpa using h
    unfold prt
    rw [if_pos (by omega)]
    simp
  | y :: L, lo, hi, j + 1, z, h, h1, h2 => by
    unfold prt
    exact List.mem_append_right _ (prt_get L (lo - 1) (hi - 1) j z (by simpa using h) (by omega) (by omega))
theorem prt_has (L : List Int) (a b : Nat) (z : Int) (hab : a ≤ b) (h : L[a]? = some z) : z ∈ prt L (a : Int) (b : Int) := prt_get L a b a z h (by omega) (by omega)

/-- A row of a call's own, as a slice that lies in memory. -/
theorem own_slice_n {w : World} {base sz : Nat} {e : TypeId} {v : Value} {n : Nat} {xs : List Value} (h : w.ownsRow base e sz v n xs) : ∃ A c, v = .slice A n c ∧ Lies w w.heap.size A xs := by
  have h0 := h.1
  rcases h.2 with ⟨rfl, rfl⟩ | ⟨g, cap, cur, rfl, hg, hh, hn, _, hs, hx⟩
  · refine ⟨none, 0, rfl, ?_⟩
    have e : xs = [] := List.eq_nil_of_length_eq_zero (by simpa using h0)
    subst e
    exact Lies.nil
  · refine ⟨_, cap, rfl, fun _ => ⟨g, 0, rfl, ?_, fun j v hv => ?_⟩⟩
    · rcases Nat.lt_or_ge g w.heap.size with h1 | h1
      · exact h1
      · rw [Array.getElem?_eq_none h1] at hh; cases hh
    · have := h.cells (g := g) rfl j v hv
      rwa [Addr.add_lit, Nat.zero_add, ← Nat.zero_add j] at this

/-- The memory ahead of operation i: the numbers as they are, the replies. -/
structure RfAt (w0 : World) (l : List Int) (ops : List Op9) (g c base i : Nat) (v : Value) (L : List Int) (w : World) : Prop where
  now : w.ownsRow w0.heap.size 3 1 (.slice (some ⟨g, 0, none⟩) l.length c) l.length (L.map (.int .i64))
  out : w.ownsRow base 30 2 v i (cellsOf (reps l ops) (i * 2))
  gb : g < base
  bw : base ≤ w.heap.size
  bel : Below w0.heap.size w0 w

/-- .. while it is executed: its box, the reply's. -/
structure RdAt (w0 wr : World) (l : List Int) (ops : List Op9) (g c base i : Nat) (v : Value) (L : List Int) (o : Op9) (cd vl : Int) (w : World) : Prop where
  now : w.ownsRow w0.heap.size 3 1 (.slice (some ⟨g, 0, none⟩) l.length c) l.length (L.map (.int .i64))
  out : w.ownsRow base 30 2 v i (cellsOf (reps l ops) (i * 2))
  ob : ∀ q, v.ownBlock = some q → q < wr.heap.size
  gb : g < base
  bw : base ≤ wr.heap.size
  zw : wr.heap.size ≤ w.heap.size
  bel : Below w0.heap.size w0 w
  w0r : w0.heap.size ≤ wr.heap.size
  g0 : w0.heap.size ≤ g
  op : Blk w wr.heap.size 39 o.cells
  res : Blk w (wr.heap.size + 1) 30 [.int .i64 cd, .int .i64 vl]

/-- A row of a call's own stays where its block stays. -/
theorem own_block {w w' : World} {base sz : Nat} {e : TypeId} {v : Value} {n : Nat} {xs : List Value} (h : w.ownsRow base e sz v n xs) (hk : ∀ q, v.ownBlock = some q → q < w.heap.size → w'.heap[q]? = w.heap[q]?) : w'.ownsRow base e sz v n xs := by
  refine ⟨h.1, ?_⟩
  rcases h.2 with ⟨rfl, hn⟩ | ⟨g, cap, cur, rfl, hg, hh, hr⟩
  · exact .inl ⟨rfl, hn⟩
  · refine .inr ⟨g, cap, cur, rfl, hg, (hk g rfl ?_).trans hh, hr⟩
    rcases Nat.lt_or_ge g w.heap.size with h1 | h1
    · exact h1
    · rw [Array.getElem?_eq_none h1] at hh; cases hh

theorem RfAt.start {w0 wr : World} {l : List Int} {ops : List Op9} {g c base i : Nat} {v : Value} {L : List Int} (h : RfAt w0 l ops g c base i v L wr) (o : Op9) :
    RdAt w0 wr l ops g c base i v L o 0 0 ((wr.alloc (.cells #[.int .i64 o.k, .int .i64 o.lo, .int .i64 o.hi, .int .i64 o.by_] 39)).alloc (.cells #[.int .i64 0, .int .i64 0] 30)) := by
  have hb : Below wr.heap.size wr ((wr.alloc (.cells #[.int .i64 o.k, .int .i64 o.lo, .int .i64 o.hi, .int .i64 o.by_] 39)).alloc (.cells #[.int .i64 0, .int .i64 0] 30)) := (bnew wr _).alloc (by simp) _
  refine ⟨own_block h.now fun q _ hq => hb.block q hq, own_block h.out fun q _ hq => hb.block q hq, fun q hq => (h.out.lt q hq).2, h.gb, h.bw, hb.size, chain h.bel hb, h.bel.size, (h.now.lt g rfl).1, (Blk.new wr 39 o.cells).alloc _, ?_⟩
  have h2 := Blk.new (wr.alloc (.cells #[.int .i64 o.k, .int .i64 o.lo, .int .i64 o.hi, .int .i64 o.by_] 39)) 30 [.int .i64 0, .int .i64 0]
  rw [show (wr.alloc (.cells #[.int .i64 o.k, .int .i64 o.lo, .int .i64 o.hi, .int .i64 o.by_] 39)).heap.size = wr.heap.size + 1 by simp] at h2
  exact h2

section
variable {w0 wr w : World} {l : List Int} {ops : List Op9} {g c base i : Nat} {v : Value} {L : List Int} {o : Op9} {cd vl : Int}

theorem RdAt.drew (h : RdAt w0 wr l ops g c base i v L o cd vl w) : RdAt w0 wr l ops g c base i v L o cd vl w.drew :=
  ⟨own_block h.now fun _ _ _ => rfl, own_block h.out fun _ _ _ => rfl, h.ob, h.gb, h.bw, h.zw, ⟨h.bel.os, h.bel.tape, h.bel.output, h.bel.size, h.bel.block⟩, h.w0r, h.g0, h.op.drew, h.res.drew⟩
theorem RdAt.get (h : RdAt w0 wr l ops g c base i v L o cd vl w) {j : Nat} {z : Int} (hz : L[j]? = some z) : w.cell? ⟨g, j, none⟩ = some (.int .i64 z) := own_cell h.now (by rw [List.getElem?_map, hz]; rfl)
/-- A number is changed. -/
theorem RdAt.put (h : RdAt w0 wr l ops g c base i v L o cd vl w) (j : Nat) (z : Int) : RdAt w0 wr l ops g c base i v (L.set j z) o cd vl (w.setCell ⟨g, j, none⟩ (.int .i64 z)) := by
  have h1 := h.gb
  have h2 := h.bw
  have far : ∀ q, q ≠ g → (w.setCell ⟨g, j, none⟩ (.int .i64 z)).heap[q]? = w.heap[q]? := fun q hq => Below.heap_setCell w ⟨g, j, none⟩ (.int .i64 z) q hq
  refine ⟨by rw [List.map_set]; exact own_put h.now j _, own_block h.out fun q hq _ => far q (by have := (h.out.lt q hq).1; omega), h.ob, h.gb, h.bw, by rw [World.size_setCell]; exact h.zw, h.bel.setCell (by show w0.heap.size ≤ g; exact h.g0) _, h.w0r, h.g0, (far _ (by omega)).trans h.op, (far _ (by omega)).trans h.res⟩
/-- The reply's code; its value. -/
theorem RdAt.code (h : RdAt w0 wr l ops g c base i v L o cd vl w) (x : Int) : RdAt w0 wr l ops g c base i v L o x vl (w.setCell ⟨wr.heap.size + 1, 0, none⟩ (.int .i64 x)) := by
  have h1 := h.gb
  have h2 := h.bw
  have h3 := h.w0r
  have far : ∀ q, q ≠ wr.heap.size + 1 → (w.setCell ⟨wr.heap.size + 1, 0, none⟩ (.int .i64 x)).heap[q]? = w.heap[q]? := fun q hq => Below.heap_setCell w ⟨wr.heap.size + 1, 0, none⟩ (.int .i64 x) q hq
  refine ⟨own_block h.now fun q hq _ => far q (by obtain rfl : g = q := Option.some.inj hq; omega), own_block h.out fun q hq _ => far q (by have := h.ob q hq; omega), h.ob, h.gb, h.bw, by rw [World.size_setCell]; exact h.zw, h.bel.setCell (by show w0.heap.size ≤ wr.heap.size + 1; omega) _, h.w0r, h.g0, (far _ (by omega)).trans h.op, h.res.put 0 _⟩
theorem RdAt.val (h : RdAt w0 wr l ops g c base i v L o cd vl w) (x : Int) : RdAt w0 wr l ops g c base i v L o cd x (w.setCell ⟨wr.heap.size + 1, 1, none⟩ (.int .i64 x)) := by
  have h1 := h.gb
  have h2 := h.bw
  have h3 := h.w0r
  have far : ∀ q, q ≠ wr.heap.size + 1 → (w.setCell ⟨wr.heap.size + 1, 1, none⟩ (.int .i64 x)).heap[q]? = w.heap[q]? := fun q hq => Below.heap_setCell w ⟨wr.heap.size + 1, 1, none⟩ (.int .i64 x) q hq
  refine ⟨own_block h.now fun q hq _ => far q (by obtain rfl : g = q := Option.some.inj hq; omega), own_block h.out fun q hq _ => far q (by have := h.ob q hq; omega), h.ob, h.gb, h.bw, by rw [World.size_setCell]; exact h.zw, h.bel.setCell (by show w0.heap.size ≤ wr.heap.size + 1; omega) _, h.w0r, h.g0, (far _ (by omega)).trans h.op, h.res.put 1 _⟩
/-- The reply is appended. -/
theorem RdAt.done (h : RdAt w0 wr l ops g c base i v L o cd vl w) (h1 : cd = reps l ops (i * 2)) (h2 : vl = reps l ops (i * 2 + 1)) {ob : Obj} {w' : World} {v' : Value} (hr : w'.ownsRow base 30 2 v' (i + 1) (cellsOf (reps l ops) (i * 2) ++ [.int .i64 cd, .int .i64 vl])) (hg : (w.alloc ob).grownBy w' v.ownBlock) : RfAt w0 l ops g c base (i + 1) v' L w' := by
  have hz := h.zw
  have hbw := h.bw
  have hgb := h.gb
  have hw0 := h.w0r
  have hg0 := h.g0
  refine ⟨own_block h.now fun q hq hl => ?_, ?_, h.gb, Nat.le_trans (by omega) (Nat.le_trans (show (w.heap.size : Nat) ≤ (w.alloc ob).heap.size by simp) hg.size), (h.bel.alloc h.bel.size _).grown hg (Nat.le_trans h.bel.size (by simp)) (fun q hq => by have := (h.out.lt q hq).1; omega)⟩
  · obtain rfl : g = q := Option.some.inj hq
    exact (hg.block g (by simp; omega) (fun e => by have := (h.out.lt g e.symm).1; omega)).trans (Below.heap_alloc w ob g hl)
  · have e : cellsOf (reps l ops) (i * 2) ++ [Value.int .i64 cd, .int .i64 vl] = cellsOf (reps l ops) ((i + 1) * 2) := by
      rw [h1, h2, show (i + 1) * 2 = i * 2 + 1 + 1 by omega]
      show _ = (vals (reps l ops) (i * 2 + 1 + 1)).map (Value.int .i64)
      rw [vals_succ, vals_succ, List.map_append, List.map_append, List.append_assoc]
      rfl
    rw [← e]
    exact hr
end
end Go.Proofs.Ytnjpehgmlfenbaa
