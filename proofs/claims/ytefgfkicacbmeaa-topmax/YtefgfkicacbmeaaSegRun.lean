/-
  What (*node).execute returns and leaves: its contract, walked over the translated text. No condition but what each theorem names.
-/
import Derived.Test.YtefgfkicacbmeaaSegEx
namespace Go.Proofs.Ytefgfkicacbmeaa
open Go.RowKit Words

/-- The memory of an operation that is executed: the tree, its box, the reply's. -/
structure ExAt (w W : World) (g : Nat) (l : List Int) (k lo hi by_ c v : Int) : Prop where
  tree : Tree W g l
  op : Blk W w.heap.size 58 [.int .i64 k, .int .i64 lo, .int .i64 hi, .int .i64 by_]
  res : Blk W (w.heap.size + 1) 61 [.int .i64 c, .int .i64 v]
  kp : Keeps (InT g l.length) w W
  lt : g + 2 * l.length ≤ w.heap.size + 1

theorem ExAt.below {w W W' : World} {g : Nat} {l : List Int} {k lo hi by_ c v : Int} (h : ExAt w W g l k lo hi by_ c v) (hb : Below W.heap.size W W') : ExAt w W' g l k lo hi by_ c v :=
  ⟨h.tree.keeps (Keeps.ofBelow (S := fun _ => False) hb) (fun _ _ _ e => e), h.op.below hb h.op.lt, h.res.below hb h.res.lt, h.kp.trans (Keeps.ofBelow hb), h.lt⟩
theorem ExAt.on {w W W' : World} {g : Nat} {l l' : List Int} {k lo hi by_ c v : Int} (h : ExAt w W g l k lo hi by_ c v) (hl : l'.length = l.length) (hT : Tree W' g l') (hk : Keeps (InT g l.length) W W') : ExAt w W' g l' k lo hi by_ c v := by
  have := h.tree.pos
  have h2 := h.lt
  refine ⟨hT, h.op.keeps hk (by unfold InT; omega), h.res.keeps hk (by unfold InT; omega), ?_, by rw [hl]; exact h2⟩
  rw [hl]
  exact h.kp.trans hk
theorem exAt_start (w : World) (g : Nat) (l : List Int) (k lo hi by_ : Int) (hT : Tree w g l) : ExAt w ((w.alloc (.cells #[.int .i64 k, .int .i64 lo, .int .i64 hi, .int .i64 by_] 58)).alloc (.cells #[.int .i64 0, .int .i64 0] 61)).drew g l k lo hi by_ 0 0 := by
  refine ⟨((hT.box _).box _).keep fun _ _ _ => rfl, ((Blk.new w 58 [.int .i64 k, .int .i64 lo, .int .i64 hi, .int .i64 by_]).alloc _).drew, ?_, (((Keeps.refl _ w).alloc _).alloc _).drew, by have := hT.lt; omega⟩
  have h := Blk.new (w.alloc (.cells #[.int .i64 k, .int .i64 lo, .int .i64 hi, .int .i64 by_] 58)) 61 [.int .i64 0, .int .i64 0]
  rw [show (w.alloc (.cells #[.int .i64 k, .int .i64 lo, .int .i64 hi, .int .i64 by_] 58)).heap.size = w.heap.size + 1 by simp] at h
  exact h.drew
/-- The reply is laid. -/
theorem ExAt.reply {w W : World} {g : Nat} {l : List Int} {k lo hi by_ c v : Int} (h : ExAt w W g l k lo hi by_ c v) (u u' : Value) : Tree ((W.setCell ⟨w.heap.size + 1, 0, none⟩ u).setCell ⟨w.heap.size + 1, 1, none⟩ u') g l ∧ Keeps (InT g l.length) w ((W.setCell ⟨w.heap.size + 1, 0, none⟩ u).setCell ⟨w.heap.size + 1, 1, none⟩ u') := by
  have hk : Keeps (Is (w.heap.size + 1)) W ((W.setCell ⟨w.heap.size + 1, 0, none⟩ u).setCell ⟨w.heap.size + 1, 1, none⟩ u') := ((Keeps.refl (Is (w.heap.size + 1)) W).put1 _ _).put1 _ _
  have h2 := h.lt
  refine ⟨h.tree.keeps hk (fun q q1 q2 e => by unfold Is at e; omega), (h.kp.setCell (p := ⟨w.heap.size + 1, 0, none⟩) (.inr (by simp)) _).setCell (p := ⟨w.heap.size + 1, 1, none⟩) (.inr (by simp)) _⟩

/-- What an operation leaves. -/
def Exec (g : Nat) (l l' : List Int) (c v : Int) (w : World) (e : Ending) (w' : World) : Prop := e = .returned (.agg #[.int .i64 c, .int .i64 v]) ∧ Tree w' g l' ∧ Keeps (InT g l.length) w w'

set_option maxHeartbeats 1000000 in
/-- (*node).execute of an operation with an error. -/
theorem exec_err (g : Nat) (l : List Int) (k lo hi by_ : Int) (w : World) (hT : Tree w g l) (hc : chk k lo hi by_ l.length ≠ 0) :
    Calls Try.prog 62 #[.pointer (some ⟨g, 0, none⟩), .agg #[.int .i64 k, .int .i64 lo, .int .i64 hi, .int .i64 by_]] w (Exec g l l (chk k lo hi by_ l.length) 0 w) := by
  have HC := Lib.hid (fun W => check_any k lo hi by_ l.length W)
  generalize chk k lo hi by_ l.length = c at *
  have hc2 : (c != 0) = true := by simpa using hc
  obtain ⟨s, b, p, q, hB⟩ := hT.head
  have c0 := (ofB hB).1
  have hz := hB.lt
  have HX := Lib.hid (exAt_start w g l k lo hi by_ hT)
  clear hT hB hc
  go_enter Try.func62, Try.ntmps62
  go_wp2_with fail
  go_region_with (go_at_call 82; refine (HC.out _).mono ?_; rintro e W1 ⟨rfl, hb1⟩)
  all_goals
    have hX1 := HX.out.below hb1
    have HX1 := Lib.hid hX1
    have r0 : W1.cell? ⟨w.heap.size + 1, 0, none⟩ = some (.int .i64 0) := hX1.res.cell 0
    have r1 : W1.cell? ⟨w.heap.size + 1, 1, none⟩ = some (.int .i64 0) := hX1.res.cell 1
    have hfz := hX1.res.frozen
    clear hX1 hb1 HX
    go_wp2_with fail
    exact bodyPost_ret (v := .agg #[.int .i64 c, .int .i64 0]) (by simp [results, Try.results62, go_sem, r0, r1]) rfl ⟨rfl, HX1.out.reply _ _⟩

theorem prt_of_lims {l : List Int} {s : Bool} {b : Int} (h : ∀ z ∈ l, -1000000000 ≤ z ∧ z ≤ 1000000000) (hb : -1000000000 ≤ b ∧ b ≤ 1000000000) (lo hi : Int) : Bds ((prt l lo hi).map (app s b)) := fun y hy => by
  obtain ⟨z, hz, rfl⟩ := List.mem_map.1 hy
  have := h z (prt_mem l lo hi z hz)
  unfold Bd app
  cases s <;> simp <;> omega

set_option maxHeartbeats 1000000 in
/-- (*node).execute of a question for the least. -/
theorem exec_least (g : Nat) (l : List Int) (lo hi by_ : Int) (w : World) (hT : Tree w g l) (hn : l.length ≤ 300) (hc : chk 3 lo hi by_ l.length = 0) :
    Calls Try.prog 62 #[.pointer (some ⟨g, 0, none⟩), .agg #[.int .i64 3, .int .i64 lo, .int .i64 hi, .int .i64 by_]] w (Exec g l l 0 (mn (prt l lo hi)) w) := by
  have hr : 0 ≤ lo ∧ lo ≤ hi ∧ hi < l.length := by
    unfold chk at hc
    rw [if_neg (by omega)] at hc
    by_cases h : lo < 0 ∨ hi < lo ∨ (l.length : Int) ≤ hi
    · rw [if_pos h] at hc; cases hc
    · omega
  have HC := Lib.hid (fun W => check_any 3 lo hi by_ l.length W)
  rw [hc] at HC
  obtain ⟨s, b, p, q, hB⟩ := hT.head
  have c0 := (ofB hB).1
  have hz := hB.lt
  have HX := Lib.hid (exAt_start w g l 3 lo hi by_ hT)
  have HQ := Lib.hid (fun W hT => leastOf_any g l lo hi W hT hn (by omega) (by omega) (by omega) (by omega) (by omega))
  clear hT hB hc
  generalize mn (prt l lo hi) = y at *
  go_enter Try.func62, Try.ntmps62
  go_wp2_with fail
  go_region_with (go_at_call 82; refine (HC.out _).mono ?_; rintro e W1 ⟨rfl, hb1⟩)
  all_goals
    have hX1 := HX.out.below hb1
    have HX1 := Lib.hid hX1
    have o0 : W1.cell? ⟨w.heap.size, 0, none⟩ = some (.int .i64 3) := hX1.op.cell 0
    have o1 : W1.cell? ⟨w.heap.size, 1, none⟩ = some (.int .i64 lo) := hX1.op.cell 1
    have o2 : W1.cell? ⟨w.heap.size, 2, none⟩ = some (.int .i64 hi) := hX1.op.cell 2
    clear hX1 hb1 HX
    go_wp2_with fail
    refine (HQ.out _ HX1.out.tree).mono ?_
    rintro e W2 ⟨rfl, hT2, hk2⟩
    have hX2 := HX1.out.on rfl hT2 hk2
    have HX2 := Lib.hid hX2
    have r0 : W2.cell? ⟨w.heap.size + 1, 0, none⟩ = some (.int .i64 0) := hX2.res.cell 0
    have r1 : W2.cell? ⟨w.heap.size + 1, 1, none⟩ = some (.int .i64 0) := hX2.res.cell 1
    have hfz := hX2.res.frozen
    clear hX2 HX1 hT2 hk2 o0 o1 o2
    go_wp2_with fail
    exact bodyPost_ret (v := .agg #[.int .i64 0, .int .i64 y]) (by simp [results, Try.results62, go_sem, r0, r1]) rfl ⟨rfl, HX2.out.reply _ _⟩

set_option maxHeartbeats 1000000 in
/-- (*node).execute of a question for the sum. -/
theorem exec_sum (g : Nat) (l : List Int) (lo hi by_ : Int) (w : World) (hT : Tree w g l) (hn : l.length ≤ 300) (hc : chk 4 lo hi by_ l.length = 0) :
    Calls Try.prog 62 #[.pointer (some ⟨g, 0, none⟩), .agg #[.int .i64 4, .int .i64 lo, .int .i64 hi, .int .i64 by_]] w (Exec g l l 0 (sm (prt l lo hi)) w) := by
  have hr : 0 ≤ lo ∧ lo ≤ hi ∧ hi < l.length := by
    unfold chk at hc
    rw [if_neg (by omega)] at hc
    by_cases h : lo < 0 ∨ hi < lo ∨ (l.length : Int) ≤ hi
    · rw [if_pos h] at hc; cases hc
    · omega
  have HC := Lib.hid (fun W => check_any 4 lo hi by_ l.length W)
  rw [hc] at HC
  obtain ⟨s, b, p, q, hB⟩ := hT.head
  have c0 := (ofB hB).1
  have hz := hB.lt
  have HX := Lib.hid (exAt_start w g l 4 lo hi by_ hT)
  have HQ := Lib.hid (fun W hT => sumOf_any g l lo hi W hT hn (by omega) (by omega) (by omega) (by omega))
  clear hT hB hc
  generalize sm (prt l lo hi) = y at *
  go_enter Try.func62, Try.ntmps62
  go_wp2_with fail
  go_region_with (go_at_call 82; refine (HC.out _).mono ?_; rintro e W1 ⟨rfl, hb1⟩)
  all_goals
    have hX1 := HX.out.below hb1
    have HX1 := Lib.hid hX1
    have o0 : W1.cell? ⟨w.heap.size, 0, none⟩ = some (.int .i64 4) := hX1.op.cell 0
    have o1 : W1.cell? ⟨w.heap.size, 1, none⟩ = some (.int .i64 lo) := hX1.op.cell 1
    have o2 : W1.cell? ⟨w.heap.size, 2, none⟩ = some (.int .i64 hi) := hX1.op.cell 2
    clear hX1 hb1 HX
    go_wp2_with fail
    refine (HQ.out _ HX1.out.tree).mono ?_
    rintro e W2 ⟨rfl, hT2, hk2⟩
    have hX2 := HX1.out.on rfl hT2 hk2
    have HX2 := Lib.hid hX2
    have r0 : W2.cell? ⟨w.heap.size + 1, 0, none⟩ = some (.int .i64 0) := hX2.res.cell 0
    have r1 : W2.cell? ⟨w.heap.size + 1, 1, none⟩ = some (.int .i64 0) := hX2.res.cell 1
    have hfz := hX2.res.frozen
    clear hX2 HX1 hT2 hk2 o0 o1 o2
    go_wp2_with fail
    exact bodyPost_ret (v := .agg #[.int .i64 0, .int .i64 y]) (by simp [results, Try.results62, go_sem, r0, r1]) rfl ⟨rfl, HX2.out.reply _ _⟩

set_option maxHeartbeats 1000000 in
/-- (*node).execute of a change. -/
theorem exec_change (g : Nat) (l : List Int) (k lo hi by_ : Int) (s2 : Bool) (w : World) (hk : k = 1 ∧ s2 = false ∨ k = 2 ∧ s2 = true) (hT : Tree w g l) (hn : l.length ≤ 300) (hc : chk k lo hi by_ l.length = 0) (hl : ∀ z ∈ l, -1000000000 ≤ z ∧ z ≤ 1000000000) :
    Calls Try.prog 62 #[.pointer (some ⟨g, 0, none⟩), .agg #[.int .i64 k, .int .i64 lo, .int .i64 hi, .int .i64 by_]] w (Exec g l (mapR (app s2 by_) l lo hi) 0 0 w) := by
  have hr : 0 ≤ lo ∧ lo ≤ hi ∧ hi < l.length ∧ Co by_ := by
    unfold chk at hc
    rw [if_neg (by omega)] at hc
    by_cases h : lo < 0 ∨ hi < lo ∨ (l.length : Int) ≤ hi
    · rw [if_pos h] at hc; cases hc
    · rw [if_neg h] at hc
      by_cases h2 : k ≤ 2 ∧ ¬ Co by_
      · rw [if_pos h2] at hc; cases hc
      · refine ⟨by omega, by omega, by omega, ?_⟩
        by_cases h3 : Co by_
        · exact h3
        · exact absurd ⟨by omega, h3⟩ h2
  have hco := hr.2.2.2
  unfold Co at hco
  have HC := Lib.hid (fun W => check_any k lo hi by_ l.length W)
  rw [hc] at HC
  obtain ⟨s, b, p, q, hB⟩ := hT.head
  have c0 := (ofB hB).1
  have hz := hB.lt
  have HX := Lib.hid (exAt_start w g l k lo hi by_ hT)
  have HQ : Hid (∀ W0 : World, Tree W0 g l → Calls Try.prog 85 #[.pointer (some ⟨g, 0, none⟩), .int .i64 lo, .int .i64 hi, .func (.func 86) #[] #[.pointer (some ⟨W0.heap.size, 0, none⟩)]] (W0.alloc (.cells #[.bool s2, .int .i64 by_] 118)) fun e w' => e = .returned (.tuple #[]) ∧ Tree w' g (mapR (app s2 by_) l lo hi) ∧ Keeps (InT g l.length) W0 w') :=
    Lib.hid (fun W0 hT => (visit_any (cl_change s2 by_ W0.heap.size) l.length g l lo hi () (W0.alloc (.cells #[.bool s2, .int .i64 by_] 118)) (Nat.le_refl _) hn (hT.box _) (Blk.new W0 118 [.bool s2, .int .i64 by_]) (by have := hT.lt; omega) (prt_of_lims hl (by omega) lo hi) (by omega) (by omega) (by omega) (by omega)).mono (by
      rintro e w' ⟨rfl, h1, h2, h3⟩
      exact ⟨rfl, h1, keeps_box h3⟩))
  have hln := mapR_length (app s2 by_) l lo hi
  have HLN := Lib.hid hln
  clear hT hB hc hl hln
  generalize mapR (app s2 by_) l lo hi = l2 at *
  rcases hk with ⟨rfl, rfl⟩ | ⟨rfl, rfl⟩
  · go_enter Try.func62, Try.ntmps62
    go_wp2_with fail
    go_region_with (go_at_call 82; refine (HC.out _).mono ?_; rintro e W1 ⟨rfl, hb1⟩)
    all_goals
      have hX1 := HX.out.below hb1
      have HX1 := Lib.hid hX1
      have o0 : W1.cell? ⟨w.heap.size, 0, none⟩ = some (.int .i64 1) := hX1.op.cell 0
      have o1 : W1.cell? ⟨w.heap.size, 1, none⟩ = some (.int .i64 lo) := hX1.op.cell 1
      have o2 : W1.cell? ⟨w.heap.size, 2, none⟩ = some (.int .i64 hi) := hX1.op.cell 2
      have o3 : W1.cell? ⟨w.heap.size, 3, none⟩ = some (.int .i64 by_) := hX1.op.cell 3
      have hz1 := hX1.op.lt
      clear hX1 hb1 HX
      go_wp2_with fail
      refine (HQ.out _ HX1.out.tree).mono ?_
      rintro e W2 ⟨rfl, hT2, hk2⟩
      have hX2 := HX1.out.on HLN.out hT2 hk2
      have HX2 := Lib.hid hX2
      have r0 : W2.cell? ⟨w.heap.size + 1, 0, none⟩ = some (.int .i64 0) := hX2.res.cell 0
      have r1 : W2.cell? ⟨w.heap.size + 1, 1, none⟩ = some (.int .i64 0) := hX2.res.cell 1
      have hfz := hX2.res.frozen
      clear hX2 HX1 hT2 hk2 o0 o1 o2 o3 hz1
      go_wp2_with fail
      refine bodyPost_ret (v := .agg #[.int .i64 0, .int .i64 0]) (by simp [results, Try.results62, go_sem, r0, r1]) rfl ⟨rfl, ?_⟩
      have hR := HX2.out.reply (.int .i64 0) (.int .i64 0)
      rw [HLN.out] at hR
      exact hR
  · go_enter Try.func62, Try.ntmps62
    go_wp2_with fail
    go_region_with (go_at_call 82; refine (HC.out _).mono ?_; rintro e W1 ⟨rfl, hb1⟩)
    all_goals
      have hX1 := HX.out.below hb1
      have HX1 := Lib.hid hX1
      have o0 : W1.cell? ⟨w.heap.size, 0, none⟩ = some (.int .i64 2) := hX1.op.cell 0
      have o1 : W1.cell? ⟨w.heap.size, 1, none⟩ = some (.int .i64 lo) := hX1.op.cell 1
      have o2 : W1.cell? ⟨w.heap.size, 2, none⟩ = some (.int .i64 hi) := hX1.op.cell 2
      have o3 : W1.cell? ⟨w.heap.size, 3, none⟩ = some (.int .i64 by_) := hX1.op.cell 3
      have hz1 := hX1.op.lt
      clear hX1 hb1 HX
      go_wp2_with fail
      refine (HQ.out _ HX1.out.tree).mono ?_
      rintro e W2 ⟨rfl, hT2, hk2⟩
      have hX2 := HX1.out.on HLN.out hT2 hk2
      have HX2 := Lib.hid hX2
      have r0 : W2.cell? ⟨w.heap.size + 1, 0, none⟩ = some (.int .i64 0) := hX2.res.cell 0
      have r1 : W2.cell? ⟨w.heap.size + 1, 1, none⟩ = some (.int .i64 0) := hX2.res.cell 1
      have hfz := hX2.res.frozen
      clear hX2 HX1 hT2 hk2 o0 o1 o2 o3 hz1
      go_wp2_with fail
      refine bodyPost_ret (v := .agg #[.int .i64 0, .int .i64 0]) (by simp [results, Try.results62, go_sem, r0, r1]) rfl ⟨rfl, ?_⟩
      have hR := HX2.out.reply (.int .i64 0) (.int .i64 0)
      rw [HLN.out] at hR
      exact hR
end Go.Proofs.Ytefgfkicacbmeaa
