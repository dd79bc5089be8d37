/-
  What sky.layersOf returns: a contract, walked over the translated text. No condition but what each theorem names.
-/
import Derived.Test.YtpkclmfadlkbeaaJ29
import Derived.Maps.OwnIn
namespace Go.Proofs.Ytpkclmfadlkbeaa
open Go.RowKit Go.Shelf Go.Sort Words
attribute [local go_sem] Oper.semAt_some

theorem lint_info : (Try.prog.info? 3).map (fun i => (i.zero, i.size, i.bytes)) = some (some (.int .i64 0), 1, 8) := by kernel_rfl
/-- Layers, in a new row of the caller's own. -/
def GivesLay (w : World) (ps : List Pt3) (e : Ending) (w' : World) : Prop := ∃ f v, IsLay ps f ∧ e = .returned v ∧ w'.ownsRow w.heap.size 3 1 v ps.length (natC ((List.range ps.length).map f)) ∧ Below w.heap.size w w'

/-- A row of numbers of places, told by a function. -/
def fnC (f : Nat → Nat) (n : Nat) : List Value := natC ((List.range n).map f)
theorem fnC_length (f : Nat → Nat) (n : Nat) : (fnC f n).length = n := by simp [fnC, natC]
theorem fnC_get (f : Nat → Nat) {n i : Nat} (h : i < n) : (fnC f n)[i]? = some (.int .i64 (f i : Nat)) := by simp [fnC, natC, h]
theorem fnC_put (f : Nat → Nat) (n i v : Nat) : (fnC f n).set i (.int .i64 (v : Nat)) = fnC (updN f i v) n := by
  refine List.ext_getElem? fun k => ?_
  rw [List.getElem?_set, fnC_length]
  by_cases h : k < n
  · by_cases e : i = k
    · subst e
      rw [if_pos rfl, if_pos h, fnC_get _ h, updN_at]
    · rw [if_neg e, fnC_get _ h, fnC_get _ h, updN_far _ _ (Ne.symm e)]
  · have h1 : (fnC (updN f i v) n)[k]? = none := List.getElem?_eq_none (by rw [fnC_length]; omega)
    have h2 : (fnC f n)[k]? = none := List.getElem?_eq_none (by rw [fnC_length]; omega)
    rw [h1, h2]
    split
    · rename_i e
      subst e
      rw [if_neg h]
    · rfl
theorem fnC_zero (n : Nat) : List.replicate n (Value.int .i64 0) = fnC (fun _ => 0) n := by
  refine List.ext_getElem? fun k => ?_
  by_cases h : k < n
  · rw [fnC_get _ h, List.getElem?_replicate, if_pos h]
    rfl
  · rw [List.getElem?_eq_none (by simp; omega), List.getElem?_eq_none (by rw [fnC_length]; omega)]

theorem Blk.turned {w w' : World} {g l : Nat} {t : TypeId} {xs : List Value} (h : Blk w g t xs) (hg : w.grownBy w' (some l)) (ho : ∃ o : Obj, w.heap[l]? = some o ∧ o.isCells = false) : Blk w' g t xs := by
  refine (hg.block g h.lt fun e => ?_).trans h
  cases e
  obtain ⟨o, h1, h2⟩ := ho
  unfold Blk at h
  rw [h] at h1
  cases h1
  cases h2
theorem Blk.grew7 {w w' : World} {g : Nat} {t : TypeId} {xs : List Value} {row : Option Nat} (h : Blk w g t xs) (hg : w.grownBy w' row) (hne : some g ≠ row) : Blk w' g t xs := (hg.block g h.lt hne).trans h

/-- What lies in memory between two rounds of layersOf: the points' box, the order's, the layers and their box, the box of the tops, the box of slices.Backward; the tops, a row of the call's own. -/
structure LayM (s : Nat) (A B : Option Addr) (n c cO : Nat) (f : Nat → Nat) (T : List Int) (v : Value) (W : World) : Prop where
  bp : Blk W s 22 [.slice A n c]
  bo : Blk W (s + 1) 31 [.slice B n cO]
  bl : Blk W (s + 2) 3 (fnC f n)
  bb : Blk W (s + 3) 31 [.slice (some ⟨s + 2, 0, none⟩) n n]
  bt : Blk W (s + 4) 31 [v]
  bs : Blk W (s + 5) 31 [.slice B n cO]
  row : W.ownsRow (s + 6) 3 1 v T.length (T.map (.int .i64))

section
variable {s : Nat} {A B : Option Addr} {n c cO : Nat} {f : Nat → Nat} {T : List Int} {v : Value} {W W2 : World}
theorem LayM.far (h : LayM s A B n c cO f T v W) (hk : ∀ q, q < s + 6 ∨ v.ownBlock = some q → W2.heap[q]? = W.heap[q]?) : LayM s A B n c cO f T v W2 :=
  ⟨(hk _ (.inl (by omega))).trans h.bp, (hk _ (.inl (by omega))).trans h.bo, (hk _ (.inl (by omega))).trans h.bl, (hk _ (.inl (by omega))).trans h.bb, (hk _ (.inl (by omega))).trans h.bt, (hk _ (.inl (by omega))).trans h.bs, own_keep h.row fun q hq => hk q (.inr hq)⟩
theorem LayM.lt (h : LayM s A B n c cO f T v W) {q : Nat} (hq : q < s + 6 ∨ v.ownBlock = some q) : q < W.heap.size := by
  rcases hq with hq | hq
  · have := h.bs.lt; omega
  · exact own_lt h.row hq
theorem LayM.alloc (h : LayM s A B n c cO f T v W) (o : Obj) : LayM s A B n c cO f T v (W.alloc o) := h.far fun q hq => Below.heap_alloc W o q (h.lt hq)
theorem LayM.drewN (h : LayM s A B n c cO f T v W) (d : Nat) : LayM s A B n c cO f T v (W.drewN d) := h.far fun _ _ => rfl
theorem LayM.turned (h : LayM s A B n c cO f T v W) {l : Nat} (hg : W.grownBy W2 (some l)) (ho : ∃ o : Obj, W.heap[l]? = some o ∧ o.isCells = false) : LayM s A B n c cO f T v W2 :=
  ⟨h.bp.turned hg ho, h.bo.turned hg ho, h.bl.turned hg ho, h.bb.turned hg ho, h.bt.turned hg ho, h.bs.turned hg ho, own_turn h.row hg fun r e => by cases e; exact ho⟩
/-- A store into a block that is none of these. -/
theorem LayM.aside (h : LayM s A B n c cO f T v W) {p : Addr} (hp : s + 6 ≤ p.block) (hv : v.ownBlock ≠ some p.block) (u : Value) : LayM s A B n c cO f T v (W.setCell p u) :=
  h.far fun q hq => Below.heap_setCell W p u q (by
    rcases hq with hq | hq
    · omega
    · exact fun e => hv (by rw [hq, e]))
/-- A layer is written. -/
theorem LayM.layer (h : LayM s A B n c cO f T v W) (i u : Nat) : LayM s A B n c cO (updN f i u) T v (W.setCell ⟨s + 2, i, none⟩ (.int .i64 (u : Nat))) := by
  refine ⟨h.bp.far (by show _ ≠ _ + 2; omega) _, h.bo.far (by show _ ≠ _ + 2; omega) _, ?_, h.bb.far (by show _ ≠ _ + 2; omega) _, h.bt.far (by show _ ≠ _ + 2; omega) _, h.bs.far (by show _ ≠ _ + 2; omega) _, own_keep h.row fun q hq => Below.heap_setCell W ⟨s + 2, i, none⟩ _ q (by show q ≠ _ + 2; have := (h.row.lt q hq).1; omega)⟩
  rw [← fnC_put]
  exact h.bl.put i _
/-- A top is written. -/
theorem LayM.top {g cT : Nat} (h : LayM s A B n c cO f T (.slice (some ⟨g, 0, none⟩) T.length cT) W) (L : Nat) (y : Int) : LayM s A B n c cO f (T.set L y) (.slice (some ⟨g, 0, none⟩) T.length cT) (W.setCell ⟨g, L, none⟩ (.int .i64 y)) := by
  have hg : s + 6 ≤ g := (h.row.lt g rfl).1
  refine ⟨h.bp.far (by show _ ≠ g; omega) _, h.bo.far (by show _ ≠ g; omega) _, h.bl.far (by show _ ≠ g; omega) _, h.bb.far (by show _ ≠ g; omega) _, h.bt.far (by show _ ≠ g; omega) _, h.bs.far (by show _ ≠ g; omega) _, ?_⟩
  have hr := h.row
  rw [show T.length = (T.map (Value.int .i64)).length from by simp] at hr
  have := own_put hr L (.int .i64 y)
  rw [List.length_set, List.map_set]
  simpa using this
/-- The tops grow, and their box is written. -/
theorem LayM.push (h : LayM s A B n c cO f T v W) {v2 : Value} {o : Obj} (hown : W2.ownsRow (s + 6) 3 1 v2 (T.length + 1) (T.map (Value.int .i64) ++ [.int .i64 0])) (hg : (W.alloc o).grownBy W2 v.ownBlock) :
    LayM s A B n c cO f (T ++ [0]) v2 (W2.setCell ⟨s + 4, 0, none⟩ v2) := by
  have hne : ∀ g, g < s + 6 → some g ≠ v.ownBlock := fun g hgl e => by have := (h.row.lt g e.symm).1; omega
  have h1 := h.alloc o
  refine ⟨(h1.bp.grew7 hg (hne _ (by omega))).far (by show _ ≠ _ + 4; omega) _, (h1.bo.grew7 hg (hne _ (by omega))).far (by show _ ≠ _ + 4; omega) _, (h1.bl.grew7 hg (hne _ (by omega))).far (by show _ ≠ _ + 4; omega) _, (h1.bb.grew7 hg (hne _ (by omega))).far (by show _ ≠ _ + 4; omega) _, (h1.bt.grew7 hg (hne _ (by omega))).put 0 v2, (h1.bs.grew7 hg (hne _ (by omega))).far (by show _ ≠ _ + 4; omega) _, ?_⟩
  rw [List.length_append, List.map_append]
  exact own_keep hown fun q hq => Below.heap_setCell W2 ⟨s + 4, 0, none⟩ v2 q (by show q ≠ _ + 4; have := (hown.lt q hq).1; omega)
end

/-- Between two rounds: k points of the order's end are done. -/
def LayAt (w : World) (A B : Option Addr) (ps : List Pt3) (n c cO : Nat) (k : Nat) (W : World) : Prop :=
  (∃ f T v, (Pat ps ((ordX ps).drop (n - k)) f T ∧ T.length ≤ k) ∧ LayM w.heap.size A B n c cO f T v W) ∧ Below w.heap.size w W
theorem layAt_own {w : World} {A B : Option Addr} {ps : List Pt3} {n c cO Z : Nat} (hZ : w.heap.size ≤ Z) : OwnFrom Z (LayAt w A B ps n c cO) := by
  refine OwnFrom.and (fun k W W2 row h hg hr => ?_) (ownFrom_below (Nat.le_refl _) hZ)
  obtain ⟨f, T, v, h1, h2⟩ := h
  refine ⟨f, T, v, h1, ?_⟩
  cases row with
  | none => exact h2.far fun q hq => hg.block q (h2.lt hq) (by simp)
  | some l => exact h2.turned hg (hr l rfl).2
theorem natC_get7 {l : List Nat} {k i : Nat} (h : l[k]? = some i) : (natC l)[k]? = some (.int .i64 (i : Nat)) := by simp [natC, h]

/-- In a round: what lay there, and the box of the loop's variable. -/
structure RdM (w : World) (A B : Option Addr) (n c cO : Nat) (f : Nat → Nat) (T : List Int) (v : Value) (z i : Nat) (W : World) : Prop where
  m : LayM w.heap.size A B n c cO f T v W
  bi : Blk W z 3 [.int .i64 (i : Nat)]
  bel : Below w.heap.size w W
  hz : w.heap.size + 6 ≤ z
  hv : v.ownBlock ≠ some z
section
variable {w : World} {A B : Option Addr} {n c cO : Nat} {f : Nat → Nat} {T : List Int} {v : Value} {z i : Nat} {W W2 : World}
theorem RdM.alloc (h : RdM w A B n c cO f T v z i W) (o : Obj) : RdM w A B n c cO f T v z i (W.alloc o) := ⟨h.m.alloc o, h.bi.alloc o, h.bel.alloc h.bel.size o, h.hz, h.hv⟩
theorem RdM.drewN (h : RdM w A B n c cO f T v z i W) (d : Nat) : RdM w A B n c cO f T v z i (W.drewN d) := ⟨h.m.drewN d, h.bi.drewN d, bdN h.bel d, h.hz, h.hv⟩
theorem RdM.drew (h : RdM w A B n c cO f T v z i W) : RdM w A B n c cO f T v z i W.drew := ⟨h.m.drewN 1, h.bi.drew, h.bel.drew, h.hz, h.hv⟩
theorem RdM.turned (h : RdM w A B n c cO f T v z i W) {l : Nat} (hl : w.heap.size ≤ l) (ht : Turned l W W2) : RdM w A B n c cO f T v z i W2 :=
  ⟨h.m.turned ht.1 ht.2, h.bi.turned ht.1 ht.2, ownFrom_below (β := Unit) (Nat.le_refl _) (Nat.le_refl _) () W W2 (some l) h.bel ht.1 (fun r e => by cases e; exact ⟨hl, ht.2⟩), h.hz, h.hv⟩
/-- The cells of the boxes. -/
theorem RdM.cs (h : RdM w A B n c cO f T v z i W) : W.cell? ⟨w.heap.size, 0, none⟩ = some (.slice A n c) ∧ W.cell? ⟨w.heap.size + 1, 0, none⟩ = some (.slice B n cO) ∧ W.cell? ⟨w.heap.size + 3, 0, none⟩ = some (.slice (some ⟨w.heap.size + 2, 0, none⟩) n n) ∧ W.cell? ⟨w.heap.size + 4, 0, none⟩ = some v ∧ W.cell? ⟨z, 0, none⟩ = some (.int .i64 (i : Nat)) :=
  ⟨h.m.bp.cell 0, h.m.bo.cell 0, h.m.bb.cell 0, h.m.bt.cell 0, h.bi.cell 0⟩
theorem RdM.old (h : RdM w A B n c cO f T v z i W) {b o : Nat} (hb : b < w.heap.size) {u : Value} (hu : w.cell? ⟨b, o, none⟩ = some u) : W.cell? ⟨b, o, none⟩ = some u := (h.bel.cell (p := ⟨b, o, none⟩) hb).trans hu
/-- Begun: the box is laid, and written. -/
theorem RdM.start (hM : LayM w.heap.size A B n c cO f T v W) (hb : Below w.heap.size w W) (i : Nat) : RdM w A B n c cO f T v W.heap.size i (W.alloc (.cells #[.int .i64 (i : Nat)] 3)) :=
  ⟨hM.alloc _, Blk.new W _ _, hb.alloc hb.size _, by have := hM.bs.lt; omega, fun e => Nat.lt_irrefl _ (hM.lt (.inr e))⟩
end

theorem RdM.layer {w : World} {A B : Option Addr} {n c cO : Nat} {f : Nat → Nat} {T : List Int} {v : Value} {z i : Nat} {W : World} (h : RdM w A B n c cO f T v z i W) (x u : Nat) : RdM w A B n c cO (updN f x u) T v z i (W.setCell ⟨w.heap.size + 2, x, none⟩ (.int .i64 (u : Nat))) :=
  ⟨h.m.layer x u, h.bi.far (by have := h.hz; show _ ≠ _ + 2; omega) _, h.bel.setCell (by show _ ≤ _ + 2; omega) _, h.hz, h.hv⟩
/-- A top is written, the box of the loop's variable beside it. -/
theorem RdM.top {w : World} {A B : Option Addr} {n c cO : Nat} {f : Nat → Nat} {T : List Int} {g m cT : Nat} {z i : Nat} {W : World} (h : RdM w A B n c cO f T (.slice (some ⟨g, 0, none⟩) m cT) z i W) (hm : T.length = m) (L : Nat) (y : Int) :
    RdM w A B n c cO f (T.set L y) (.slice (some ⟨g, 0, none⟩) m cT) z i (W.setCell ⟨g, L, none⟩ (.int .i64 y)) := by
  subst hm
  have hg : w.heap.size + 6 ≤ g := (h.m.row.lt g rfl).1
  exact ⟨h.m.top L y, h.bi.far (fun e => h.hv (by show some g = some z; rw [show z = g from e])) _, h.bel.setCell (by show _ ≤ g; omega) _, h.hz, h.hv⟩
/-- The tops grow. -/
theorem RdM.push {w : World} {A B : Option Addr} {n c cO : Nat} {f : Nat → Nat} {T : List Int} {v v2 : Value} {m mT z i : Nat} {W W2 : World} {o : Obj} (h : RdM w A B n c cO f T v z i W) (hm : T.length = m) (hmT : m + 1 = mT)
    (hown : W2.ownsRow (w.heap.size + 6) 3 1 v2 mT (T.map (Value.int .i64) ++ [.int .i64 0])) (hg : (W.alloc o).grownBy W2 v.ownBlock) (hat : v2.ownBlock = v.ownBlock ∨ v2.ownBlock = some (W.alloc o).heap.size) :
    RdM w A B n c cO f (T ++ [0]) v2 z i (W2.setCell ⟨w.heap.size + 4, 0, none⟩ v2) := by
  subst hm hmT
  have hz := h.hz
  have hlt := h.bi.lt
  refine ⟨h.m.push hown hg, ((h.bi.alloc o).grew7 hg (Ne.symm h.hv)).far (by show _ ≠ _ + 4; omega) _, ?_, hz, ?_⟩
  · exact ((h.bel.alloc h.bel.size o).grown hg (by rw [World.size_alloc]; have := h.bel.size; omega) (fun q hq => by have := (h.m.row.lt q hq).1; omega)).setCell (by show _ ≤ _ + 4; omega) _
  · rcases hat with e | e
    · rw [e]; exact h.hv
    · rw [e, World.size_alloc]
      intro e2
      cases e2
      omega
theorem RdM.pushed {w : World} {A B : Option Addr} {n c cO : Nat} {f : Nat → Nat} {T : List Int} {v v2 : Value} {z i : Nat} {W W2 : World} {o : Obj} (h : RdM w A B n c cO f T v z i W) (hg : (W.alloc o).grownBy W2 v.ownBlock) (p : Addr) :
    KeepsOthers W (W2.setCell p v2) := by
  refine ((KeepsOthers.alloc W o).trans (KeepsOthers.of_grownBy hg fun j o' hj ho => ?_)).trans (KeepsOthers.setCell _ _ _)
  obtain ⟨cur, hc⟩ := own_kind (h.m.alloc o).row hj
  rw [hc] at ho
  cases ho
  rfl
theorem keeps_drewN (W : World) (d : Nat) : KeepsOthers W (W.drewN d) := ⟨Nat.le_refl _, fun _ _ h _ => h⟩
/-- The search among the tops. -/
theorem search_rd {w : World} {B : Option Addr} {n c cO : Nat} {f : Nat → Nat} {T : List Int} {AT : Option Addr} {m cT z i b o L : Nat} {W : World} {y : Int} (h : RdM w (some ⟨b, o, none⟩) B n c cO f T (.slice AT m cT) z i W) (hm : T.length = m) (hin : i < n) (hb : b < w.heap.size)
    (hy : w.cell? ⟨b, o + i * 3 + 1, none⟩ = some (.int .i64 y)) (hm2 : m ≤ 1000) (hL : L ≤ m) (hlo : ∀ (v : Nat) (t : Int), v < L → T[v]? = some t → y ≤ t) (hhi : ∀ (v : Nat) (t : Int), L ≤ v → T[v]? = some t → t < y) :
    Calls Try.prog 52 #[.int .i64 m, .func (.func 53) #[] #[.pointer (some ⟨w.heap.size + 4, 0, none⟩), .pointer (some ⟨w.heap.size, 0, none⟩), .pointer (some ⟨z, 0, none⟩)]] W fun e w' => e = .returned (.int .i64 L) ∧ ∃ d, w' = W.drewN d := by
  subst hm
  refine lsearch_any T.length L _ _ _ (fun k => decide (T.getD k 0 < y)) W hm2 hL (fun k hk => ?_) (fun k hk hk2 => ?_) fun k d hk => ?_
  · have hg : T[k]? = some (T.getD k 0) := by rw [List.getD_eq_getElem?_getD, List.getElem?_eq_getElem (by omega)]; rfl
    have := hlo k _ hk hg
    simp only [decide_eq_false_iff_not]
    omega
  · have hg : T[k]? = some (T.getD k 0) := by rw [List.getD_eq_getElem?_getD, List.getElem?_eq_getElem hk2]; rfl
    have := hhi k _ hk hg
    simp only [decide_eq_true_eq]
    omega
  · have hg : T[k]? = some (T.getD k 0) := by rw [List.getD_eq_getElem?_getD, List.getElem?_eq_getElem hk]; rfl
    have hd := h.drewN d
    have hr := hd.m.row
    obtain ⟨g, rfl, _⟩ := own_at hr (by omega)
    rw [show T.length = (T.map (Value.int .i64)).length by simp] at hr
    have hcx : (W.drewN d).cell? ⟨g, k, none⟩ = some (.int .i64 (T.getD k 0)) := own_cell (by simpa using hr) (by rw [List.getElem?_map, hg]; rfl)
    exact cls_any k T.length cT n c i b o g _ _ _ (T.getD k 0) y (W.drewN d) hk hin hd.cs.2.2.2.1 hcx hd.cs.1 hd.cs.2.2.2.2 (hd.old hb hy)
/-- A round is done: a point at the very place of the one before it. -/
theorem lay_same {w : World} {A B : Option Addr} {ps : List Pt3} {n c cO k p q i j : Nat} {f : Nat → Nat} {T : List Int} {v : Value} {z : Nat} {W : World} {P R : Pt3} (H2 : n - (k + 1) = p) (HQ : p + 1 = q) (hP : Pat ps ((ordX ps).drop q) f T) (hml : T.length ≤ k)
    (hi : (ordX ps)[p]? = some i) (hj : (ordX ps)[q]? = some j) (hPe : ptAt ps i = P) (hRe : ptAt ps j = R) (hs : P.x = R.x ∧ P.y = R.y) (HR : RdM w A B n c cO (updN f i (f j)) T v z i W) : LayAt w A B ps n c cO (k + 1) W := by
  subst HQ
  refine ⟨⟨_, T, v, ⟨?_, by omega⟩, HR.m⟩, HR.bel⟩
  rw [H2, (ordX_round hi).1]
  exact hP.same (by rw [(ordX_round hj).1]; simp) (ordX_round hi).2.1 (by rw [hPe, hRe]; exact hs.1) (by rw [hPe, hRe]; exact hs.2)
/-- .. at a place of its own. -/
theorem lay_new {w : World} {A B : Option Addr} {ps : List Pt3} {n c cO k p q i L : Nat} {f : Nat → Nat} {T T' : List Int} {v : Value} {z : Nat} {W : World} {P : Pt3} (H2 : n - (k + 1) = p) (HQ : p + 1 = q) (hP : Pat ps ((ordX ps).drop q) f T) (hml : T.length ≤ k)
    (hi : (ordX ps)[p]? = some i) (hPe : ptAt ps i = P) (hne : ∀ j, (ordX ps)[q]? = some j → ¬ (P.x = (ptAt ps j).x ∧ P.y = (ptAt ps j).y))
    (hL : L ≤ T.length) (hlo : ∀ (v : Nat) (t : Int), v < L → T[v]? = some t → P.y ≤ t) (hhi : ∀ (v : Nat) (t : Int), L ≤ v → T[v]? = some t → t < P.y) (h1 : T'[L]? = some P.y) (h2 : ∀ v, v ≠ L → T'[v]? = T[v]?) (h3 : T'.length ≤ T.length + 1)
    (HR : RdM w A B n c cO (updN f i L) T' v z i W) : LayAt w A B ps n c cO (k + 1) W := by
  subst HQ hPe
  refine ⟨⟨_, T', v, ⟨?_, by omega⟩, HR.m⟩, HR.bel⟩
  rw [H2, (ordX_round hi).1]
  refine hP.new (ordX_round hi).2.1 (ordX_round hi).2.2 (fun j hj => ?_) hL hlo hhi h1 h2
  rcases Nat.lt_or_ge (p + 1) (ordX ps).length with e | e
  · have hg : (ordX ps)[p + 1]? = some (ordX ps)[p + 1] := List.getElem?_eq_getElem e
    exact ordX_else hi hg (hne _ hg) j hj
  · rw [List.drop_eq_nil_of_le e] at hj
    cases hj
theorem set_new {T : List Int} {L : Nat} (y : Int) (h : L < T.length) : (T.set L y)[L]? = some y ∧ (∀ v, v ≠ L → (T.set L y)[v]? = T[v]?) ∧ (T.set L y).length ≤ T.length + 1 :=
  ⟨by rw [List.getElem?_set, if_pos rfl, if_pos h], fun v hv => by rw [List.getElem?_set, if_neg (Ne.symm hv)], by rw [List.length_set]; omega⟩
theorem push_new (T : List Int) (y : Int) : ((T ++ [0]).set T.length y)[T.length]? = some y ∧ (∀ v, v ≠ T.length → ((T ++ [0]).set T.length y)[v]? = T[v]?) ∧ ((T ++ [0]).set T.length y).length ≤ T.length + 1 := by
  rw [show (T ++ [(0 : Int)]).set T.length y = T ++ [y] by simp]
  refine ⟨by simp, fun v hv => ?_, by simp⟩
  rcases Nat.lt_or_ge v T.length with e | e
  · rw [List.getElem?_append_left e]
  · rw [List.getElem?_eq_none (by simp; omega), List.getElem?_eq_none e]
theorem own_has7 {w : World} {base : Nat} {e : TypeId} {g n c : Nat} {T : List Int} (h : w.ownsRow base e 1 (.slice (some ⟨g, 0, none⟩) n c) T.length (T.map (.int .i64))) (hn : T.length = n) {L : Nat} (hL : L < n) : w.frozen? ⟨g, L, none⟩ = false ∧ ∃ u, w.cell? ⟨g, L, none⟩ = some (.int .i64 u) := by
  subst hn
  exact ⟨own_frozen h L, _, own_cell h (by rw [List.getElem?_map, List.getElem?_eq_getElem hL]; rfl)⟩

/-- Begun: nothing is done yet. -/
theorem lay_start (w : World) (A B : Option Addr) (ps : List Pt3) (n c cO : Nat) (hn : ps.length = n) : LayAt w A B ps n c cO 0 ((((((w.alloc (.cells #[.slice A n c] 22)).alloc (.cells #[.slice B n cO] 31)).alloc (.cells (zeros (.int .i64 0) n) 3)).alloc (.cells #[.slice (some ⟨w.heap.size + 2, 0, none⟩) n n] 31)).alloc (.cells #[.slice none 0 0] 31)).alloc (.cells #[.slice B n cO] 31)) := by
  have b0 := Blk.new w 22 [.slice A n c]
  have hb0 := (Below.refl w.heap.size w).alloc (Nat.le_refl _) (.cells #[.slice A n c] 22)
  have s0 : (w.alloc (.cells #[.slice A n c] 22)).heap.size = w.heap.size + 1 := World.size_alloc _ _
  generalize w.alloc (.cells #[.slice A n c] 22) = w1 at *
  have b1 := Blk.new w1 31 [.slice B n cO]
  have hb1 := hb0.alloc (by omega) (.cells #[.slice B n cO] 31)
  have s1 : (w1.alloc (.cells #[.slice B n cO] 31)).heap.size = w.heap.size + 2 := by rw [World.size_alloc, s0]
  rw [s0] at b1
  replace b0 := b0.alloc (.cells #[.slice B n cO] 31)
  generalize w1.alloc (.cells #[.slice B n cO] 31) = w2 at *
  have b2 := zeros_blk w2 (.int .i64 0) n 3
  have hb2 := hb1.alloc (by omega) (.cells (zeros (.int .i64 0) n) 3)
  have s2 : (w2.alloc (.cells (zeros (.int .i64 0) n) 3)).heap.size = w.heap.size + 3 := by rw [World.size_alloc, s1]
  rw [s1, fnC_zero] at b2
  replace b0 := b0.alloc (.cells (zeros (.int .i64 0) n) 3)
  replace b1 := b1.alloc (.cells (zeros (.int .i64 0) n) 3)
  generalize w2.alloc (.cells (zeros (.int .i64 0) n) 3) = w3 at *
  have b3 := Blk.new w3 31 [.slice (some ⟨w.heap.size + 2, 0, none⟩) n n]
  have hb3 := hb2.alloc (by omega) (.cells #[.slice (some ⟨w.heap.size + 2, 0, none⟩) n n] 31)
  have s3 : (w3.alloc (.cells #[.slice (some ⟨w.heap.size + 2, 0, none⟩) n n] 31)).heap.size = w.heap.size + 4 := by rw [World.size_alloc, s2]
  rw [s2] at b3
  replace b0 := b0.alloc (.cells #[.slice (some ⟨w.heap.size + 2, 0, none⟩) n n] 31)
  replace b1 := b1.alloc (.cells #[.slice (some ⟨w.heap.size + 2, 0, none⟩) n n] 31)
  replace b2 := b2.alloc (.cells #[.slice (some ⟨w.heap.size + 2, 0, none⟩) n n] 31)
  have b3' : Blk (w3.alloc (.cells #[.slice (some ⟨w.heap.size + 2, 0, none⟩) n n] 31)) (w.heap.size + 3) 31 [.slice (some ⟨w.heap.size + 2, 0, none⟩) n n] := b3
  generalize w3.alloc (.cells #[.slice (some ⟨w.heap.size + 2, 0, none⟩) n n] 31) = w4 at *
  have b4 := Blk.new w4 31 [.slice none 0 0]
  have hb4 := hb3.alloc (by omega) (.cells #[.slice none 0 0] 31)
  have s4 : (w4.alloc (.cells #[.slice none 0 0] 31)).heap.size = w.heap.size + 5 := by rw [World.size_alloc, s3]
  rw [s3] at b4
  replace b0 := b0.alloc (.cells #[.slice none 0 0] 31)
  replace b1 := b1.alloc (.cells #[.slice none 0 0] 31)
  replace b2 := b2.alloc (.cells #[.slice none 0 0] 31)
  replace b3' := b3'.alloc (.cells #[.slice none 0 0] 31)
  generalize w4.alloc (.cells #[.slice none 0 0] 31) = w5 at *
  have b5 := Blk.new w5 31 [.slice B n cO]
  rw [s4] at b5
  refine ⟨⟨fun _ => 0, [], .slice none 0 0, ⟨?_, Nat.le_refl _⟩, ⟨b0.alloc _, b1.alloc _, b2.alloc _, b3'.alloc _, b4.alloc _, b5, ⟨rfl, .inl ⟨rfl, rfl⟩⟩⟩⟩, hb4.alloc (by omega) _⟩
  rw [ordX_last (by omega)]
  exact Pat.start ps

set_option maxRecDepth 100000 in
set_option maxHeartbeats 4000000 in
theorem layers_any (A B : Option Addr) (ps : List Pt3) (c cO : Nat) (w : World) (he : ptsF ps = 0) (hL : Lies w w.heap.size A (ptC ps)) (hO : Lies w w.heap.size B (natC (ordX ps))) :
    Calls Try.prog 29 #[.slice A ps.length c, .slice B ps.length cO] w (GivesLay w ps) := by
  have hn := (ptsF_zero he).1
  have HBk := Lib.hid (fun A n c w => backward_any A n c w)
  have hmk := make_row (P := Try.prog) 31 3 (.int .i64 0) 8 Try.underlying31 lint_info rfl ps.length (by omega) (by omega)
  have HOr := Lib.hid (ordX_mem ps)
  have HOl := Lib.hid (ordX_length ps)
  obtain ⟨n, hnn⟩ : ∃ n, ps.length = n := ⟨_, rfl⟩
  have HN := Lib.hid hnn
  have HL := Lib.hid hL
  have HO := Lib.hid hO
  unfold GivesLay
  rw [hnn] at hn hmk ⊢
  clear hL hO he hnn
  refine (callsIn_wide (n := 5)).1 ?_
  refine callsIn_of_wp_marks Try.func29 rfl trivial ?_ rfl
  simp only [Try.ntmps29, List.size_toArray, List.length_cons, List.length_nil, Nat.reduceAdd, Nat.reduceSub, Array.replicate_succ, Array.replicate_zero, List.push_toArray, List.append_toArray, List.nil_append, List.cons_append]
  gi_wp2
  refine ⟨trivial, ?_⟩
  refine (callsIn_wide.2 (HBk.out B n cO _)).mono ?_
  rintro e w2 ⟨rfl, rfl⟩
  have hat0 := lay_start w A B ps n c cO HN.out
  have HAt0 := Lib.hid hat0
  obtain ⟨W0, hW0⟩ : ∃ W0, ((((((w.alloc (.cells #[.slice A n c] 22)).alloc (.cells #[.slice B n cO] 31)).alloc (.cells (zeros (.int .i64 0) n) 3)).alloc (.cells #[.slice (some ⟨w.heap.size + 2, 0, none⟩) n n] 31)).alloc (.cells #[.slice none 0 0] 31)).alloc (.cells #[.slice B n cO] 31)) = W0 := ⟨_, rfl⟩
  have hs0 : W0.heap.size = w.heap.size + 6 := by rw [← hW0]; simp
  rw [hW0] at HAt0
  clear hat0
  gi_wp2
  refine range_counted_box rfl (by decide) (gf := 70) (lb := #[.pointer (some ⟨w.heap.size + 5, 0, none⟩)]) rfl trivial (enters_of Try.func70 (by kernel_rfl) rfl)
    n (fun k => #[.int .i64 ((n - 1 - k : Nat) : Int), .int .i64 ((ordX ps).getD (n - 1 - k) 0 : Nat)]) (fun _ => rfl) (LayAt w A B ps n c cO) (layAt_own (by omega)) HAt0.out
    (fun l J W hJI hY h0 => backward1_in Fence.wide 4 trivial rfl (by decide) l (w.heap.size + 5) n cO B (fun q => ((ordX ps).getD q 0 : Nat)) (by omega) J (fun k V hj => by
      obtain ⟨⟨f, T, v, _, hM⟩, hb⟩ := hJI k V hj
      refine ⟨hM.bs.cell 0, fun hk => ?_⟩
      have hlt : n - 1 - k < (ordX ps).length := by rw [HOl.out, HN.out]; omega
      obtain ⟨ob, oo, e1, h1, h2⟩ := HO.out (fun e => by rw [show (ordX ps) = [] from by simpa [natC] using e] at hlt; simp at hlt)
      have hg : (ordX ps)[n - 1 - k]? = some ((ordX ps).getD (n - 1 - k) 0) := by rw [List.getD_eq_getElem?_getD, List.getElem?_eq_getElem hlt]; rfl
      exact ⟨ob, oo, e1, (hb.cell (p := ⟨ob, oo + (n - 1 - k), none⟩) h1).trans (h2 _ _ (natC_get7 hg))⟩) hY W h0)
    ?round ?done
  case round =>
    rintro l k W hk hl ⟨⟨f, T, v, ⟨hP, hml⟩, hM⟩, hbl⟩
    obtain ⟨p, hp⟩ : ∃ p, n - 1 - k = p := ⟨_, rfl⟩
    have hlt : p < (ordX ps).length := by rw [HOl.out, HN.out]; omega
    obtain ⟨i, hi⟩ : ∃ i, (ordX ps)[p]? = some i := ⟨_, List.getElem?_eq_getElem hlt⟩
    have hin : i < n := by have := (HOr.out i).1 (List.mem_of_getElem? hi); rw [HN.out] at this; exact this
    have H2 := Lib.hid (show n - (k + 1) = p by omega)
    rw [show n - k = p + 1 by omega] at hP
    rw [hp, show (ordX ps).getD p 0 = i by rw [List.getD_eq_getElem?_getD, hi]; rfl]
    have hpn : p < n := by omega
    have hkn : k < n := hk
    clear hp hk
    obtain ⟨b, o, rfl, hb, hx, hy, hw⟩ := pts_at HL.out (ptAt_get (by rw [HN.out]; exact hin))
    obtain ⟨ob, oo, rfl, hob, hall⟩ := HO.out (fun e => by rw [show (ordX ps) = [] from by simpa [natC] using e] at hlt; simp at hlt)
    have HPat := Lib.hid hP
    have HRd := Lib.hid (RdM.start hM hbl i)
    have HI := Lib.hid hi
    have HAll := Lib.hid hall
    obtain ⟨P, hPe⟩ : ∃ P, ptAt ps i = P := ⟨_, rfl⟩
    rw [hPe] at hx hy hw
    have HPe := Lib.hid hPe
    clear hP hM hbl hi hall hPe
    gi_wp2
    refine ⟨(KeepsOthers.alloc _ _).from _, fun W2 hW2 => ?_⟩
    have HR := Lib.hid (HRd.out.turned (by omega) hW2)
    have hz6 := HR.out.hz
    clear HRd hW2
    generalize W.heap.size = z at *
    obtain ⟨AT, cT, rfl, hleT, _, _, hnilT, _⟩ := own_slice HR.out.m.row
    obtain ⟨m, hm⟩ : ∃ m, T.length = m := ⟨_, rfl⟩
    have HMl := Lib.hid hm
    rw [hm] at HR hml hleT
    clear hm
    obtain ⟨q, hq⟩ : ∃ q, p + 1 = q := ⟨_, rfl⟩
    have hwr : IntKind.i64.wrap ((p : Int) + 1) = (q : Int) := by rw [IntKind.wrap_i64]; omega
    have hwr2 : wrap64 ((p : Int) + 1) = (q : Int) := by unfold wrap64; omega
    rw [hq] at HPat
    gi_wp2
    by_cases hlast : q < n
    · have hlt2 : q < (ordX ps).length := by rw [HOl.out, HN.out]; omega
      obtain ⟨j, hj⟩ : ∃ j, (ordX ps)[q]? = some j := ⟨_, List.getElem?_eq_getElem hlt2⟩
      have hjn : j < n := by have := (HOr.out j).1 (List.mem_of_getElem? hj); rw [HN.out] at this; exact this
      obtain ⟨b', o', e1, _, kx, ky, kw⟩ := pts_at HL.out (ptAt_get (by rw [HN.out]; exact hjn))
      cases e1
      have hoj := HAll.out q _ (natC_get7 hj)
      obtain ⟨R, hRe⟩ : ∃ R, ptAt ps j = R := ⟨_, rfl⟩
      rw [hRe] at kx ky kw
      have HRe := Lib.hid hRe
      have HJ := Lib.hid hj
      have HS := Lib.hid (fun W => same_any P R W)
      unfold Pt3.val at HS
      have hpl : (q : Int) < (n : Int) := Int.ofNat_lt.2 hlast
      have HQ := Lib.hid hq
      clear hq
      clear hj hRe hlt hlt2
      by_cases hsm : P.x = R.x ∧ P.y = R.y
      · have hs : sameP P R = true := same_yes hsm
        rw [hs] at HS
        have HSm := Lib.hid hsm
        clear hs hsm
        refine wpIn_region_round (S := fun W' => (W'.cell? ⟨w.heap.size, 0, none⟩ = some (.slice (some ⟨b, o, none⟩) n c) ∧ W'.cell? ⟨w.heap.size + 1, 0, none⟩ = some (.slice (some ⟨ob, oo, none⟩) n cO) ∧ W'.cell? ⟨z, 0, none⟩ = some (.int .i64 (i : Nat)) ∧ W'.cell? ⟨ob, oo + q, none⟩ = some (.int .i64 (j : Nat))) ∧ (W'.cell? ⟨b, o + i * 3, none⟩ = some (.int .i64 P.x) ∧ W'.cell? ⟨b, o + i * 3 + 1, none⟩ = some (.int .i64 P.y) ∧ W'.cell? ⟨b, o + i * 3 + 2, none⟩ = some (.int .i64 P.w)) ∧ (W'.cell? ⟨b, o + j * 3, none⟩ = some (.int .i64 R.x) ∧ W'.cell? ⟨b, o + j * 3 + 1, none⟩ = some (.int .i64 R.y) ∧ W'.cell? ⟨b, o + j * 3 + 2, none⟩ = some (.int .i64 R.w))) (by kernel_rfl) (by kernel_rfl) (by rintro ⟨_, _, h⟩; have h1 : Exit.outgrown = Exit.normal := h.1; cases h1) ⟨⟨(HR.out.drew).cs.1, (HR.out.drew).cs.2.1, (HR.out.drew).cs.2.2.2.2, (HR.out.drew).old hob hoj⟩, ⟨(HR.out.drew).old hb hx, (HR.out.drew).old hb hy, (HR.out.drew).old hb hw⟩, ⟨(HR.out.drew).old hb kx, (HR.out.drew).old hb ky, (HR.out.drew).old hb kw⟩⟩ (fun hHeld1 => ?_)
        refine wpAnyH_take (i := 0) (oi := ⟨some 17, _, _, _, _, _⟩) (v := ?_) rfl (by kernel_rfl) (by kernel_rfl) (by kernel_rfl) (fun _ _ _ h => h) (Or.inl ⟨by kernel_rfl, ?_⟩) (by assumption) ?_
        rotate_left
        · (intro w hSw; (try dsimp only at hSw); go_simp; (try with_reducible rfl))
        try simp only [Act.put, List.setIfInBounds_toArray, List.set_cons_zero, List.set_cons_succ]
        refine wpAnyH_take (i := 1) (oi := ⟨some 18, _, _, _, _, _⟩) (v := ?_) rfl (by kernel_rfl) (by kernel_rfl) (by kernel_rfl) (fun _ _ _ h => h) (Or.inl ⟨by kernel_rfl, ?_⟩) (by assumption) ?_
        rotate_left
        · (intro w hSw; (try dsimp only at hSw); go_simp; (try with_reducible rfl))
        try simp only [Act.put, List.setIfInBounds_toArray, List.set_cons_zero, List.set_cons_succ]
        refine wpAnyH_take (i := 2) (oi := ⟨some 19, _, _, _, _, _⟩) (v := ?_) rfl (by kernel_rfl) (by kernel_rfl) (by kernel_rfl) (fun _ _ _ h => h) (Or.inl ⟨by kernel_rfl, ?_⟩) (by assumption) ?_
        rotate_left
        · (intro w hSw; (try dsimp only at hSw); go_simp; (try with_reducible rfl))
        try simp only [Act.put, List.setIfInBounds_toArray, List.set_cons_zero, List.set_cons_succ]
        refine wpAnyH_take (i := 3) (oi := ⟨some 20, _, _, _, _, _⟩) (v := ?_) rfl (by kernel_rfl) (by kernel_rfl) (by kernel_rfl) (fun _ _ _ h => h) (Or.inl ⟨by kernel_rfl, ?_⟩) (by assumption) ?_
        rotate_left
        · (intro w hSw; (try dsimp only at hSw); go_simp; (try with_reducible rfl))
        try simp only [Act.put, List.setIfInBounds_toArray, List.set_cons_zero, List.set_cons_succ]
        refine wpAnyH_take (i := 4) (oi := ⟨some 21, _, _, _, _, _⟩) (v := ?_) rfl (by kernel_rfl) (by kernel_rfl) (by kernel_rfl) (fun _ _ _ h => h) (Or.inl ⟨by kernel_rfl, ?_⟩) (by assumption) ?_
        rotate_left
        · (intro w hSw; (try dsimp only at hSw); go_simp; (try with_reducible rfl))
        try simp only [Act.put, List.setIfInBounds_toArray, List.set_cons_zero, List.set_cons_succ]
        refine wpAnyH_take (i := 5) (oi := ⟨some 22, _, _, _, _, _⟩) (v := ?_) rfl (by kernel_rfl) (by kernel_rfl) (by kernel_rfl) (fun _ _ _ h => h) (Or.inl ⟨by kernel_rfl, ?_⟩) (by assumption) ?_
        rotate_left
        · (intro w hSw; (try dsimp only at hSw); go_simp; (try with_reducible rfl))
        try simp only [Act.put, List.setIfInBounds_toArray, List.set_cons_zero, List.set_cons_succ]
        refine wpAnyH_take (i := 6) (oi := ⟨some 23, _, _, _, _, _⟩) (v := ?_) rfl (by kernel_rfl) (by kernel_rfl) (by kernel_rfl) (fun _ _ _ h => h) (Or.inl ⟨by kernel_rfl, ?_⟩) (by assumption) ?_
        rotate_left
        · (intro w hSw; (try dsimp only at hSw); go_simp; (try with_reducible rfl))
        try simp only [Act.put, List.setIfInBounds_toArray, List.set_cons_zero, List.set_cons_succ]
        refine wpAnyH_take (i := 7) (oi := ⟨some 24, _, _, _, _, _⟩) (v := ?_) rfl (by kernel_rfl) (by kernel_rfl) (by kernel_rfl) (fun _ _ _ h => h) (Or.inl ⟨by kernel_rfl, ?_⟩) (by assumption) ?_
        rotate_left
        · (intro w hSw; (try dsimp only at hSw); go_simp; (try with_reducible rfl))
        try simp only [Act.put, List.setIfInBounds_toArray, List.set_cons_zero, List.set_cons_succ]
        refine wpAnyH_take (i := 8) (oi := ⟨some 25, _, _, _, _, _⟩) (v := ?_) rfl (by kernel_rfl) (by kernel_rfl) (by kernel_rfl) (fun _ _ _ h => h) (Or.inl ⟨by kernel_rfl, ?_⟩) (by assumption) ?_
        rotate_left
        · (intro w hSw; (try dsimp only at hSw); go_simp; (try with_reducible rfl))
        try simp only [Act.put, List.setIfInBounds_toArray, List.set_cons_zero, List.set_cons_succ]
        refine wpAnyH_take (i := 9) (oi := ⟨some 26, _, _, _, _, _⟩) (v := ?_) rfl (by kernel_rfl) (by kernel_rfl) (by kernel_rfl) (fun _ _ _ h => h) (Or.inl ⟨by kernel_rfl, ?_⟩) (by assumption) ?_
        rotate_left
        · (intro w hSw; (try dsimp only at hSw); go_simp; (try with_reducible rfl))
        try simp only [Act.put, List.setIfInBounds_toArray, List.set_cons_zero, List.set_cons_succ]
        refine wpAnyH_take (i := 10) (oi := ⟨some 27, _, _, _, _, _⟩) (v := ?_) rfl (by kernel_rfl) (by kernel_rfl) (by kernel_rfl) (fun _ _ _ h => h) (Or.inl ⟨by kernel_rfl, ?_⟩) (by assumption) ?_
        rotate_left
        · (intro w hSw; (try dsimp only at hSw); go_simp; (try with_reducible rfl))
        try simp only [Act.put, List.setIfInBounds_toArray, List.set_cons_zero, List.set_cons_succ]
        refine wpAnyH_take (i := 11) (oi := ⟨some 28, _, _, _, _, _⟩) (v := ?_) rfl (by kernel_rfl) (by kernel_rfl) (by kernel_rfl) (fun _ _ _ h => h) (Or.inl ⟨by kernel_rfl, ?_⟩) (by assumption) ?_
        rotate_left
        · (intro w hSw; (try dsimp only at hSw); go_simp; (try with_reducible rfl))
        try simp only [Act.put, List.setIfInBounds_toArray, List.set_cons_zero, List.set_cons_succ]
        refine wpAnyH_take (i := 12) (oi := ⟨some 29, _, _, _, _, _⟩) (v := ?_) rfl (by kernel_rfl) (by kernel_rfl) (by kernel_rfl) (fun _ _ _ h => h) (Or.inl ⟨by kernel_rfl, ?_⟩) (by assumption) ?_
        rotate_left
        · (intro w hSw; (try dsimp only at hSw); go_simp; (try with_reducible rfl))
        try simp only [Act.put, List.setIfInBounds_toArray, List.set_cons_zero, List.set_cons_succ]
        refine wpAnyH_take (i := 13) (oi := ⟨some 30, _, _, _, _, _⟩) (v := ?_) rfl (by kernel_rfl) (by kernel_rfl) (by kernel_rfl) (fun _ _ _ h => h) (Or.inl ⟨by kernel_rfl, ?_⟩) (by assumption) ?_
        rotate_left
        · (intro w hSw; (try dsimp only at hSw); go_simp; (try with_reducible rfl))
        try simp only [Act.put, List.setIfInBounds_toArray, List.set_cons_zero, List.set_cons_succ]
        refine wpAnyH_take (i := 14) (oi := ⟨some 31, _, _, _, _, _⟩) (v := ?_) rfl (by kernel_rfl) (by kernel_rfl) (by kernel_rfl) (fun _ _ _ h => h) (Or.inl ⟨by kernel_rfl, ?_⟩) (by assumption) ?_
        rotate_left
        · (intro w hSw; (try dsimp only at hSw); go_simp; (try with_reducible rfl))
        try simp only [Act.put, List.setIfInBounds_toArray, List.set_cons_zero, List.set_cons_succ]
        refine wpAnyH_take (i := 15) (oi := ⟨some 32, _, _, _, _, _⟩) (v := ?_) rfl (by kernel_rfl) (by kernel_rfl) (by kernel_rfl) (fun _ _ _ h => h) (Or.inl ⟨by kernel_rfl, ?_⟩) (by assumption) ?_
        rotate_left
        · (intro w hSw; (try dsimp only at hSw); go_simp; (try with_reducible rfl))
        try simp only [Act.put, List.setIfInBounds_toArray, List.set_cons_zero, List.set_cons_succ]
        refine wpAnyH_take (i := 16) (oi := ⟨some 33, _, _, _, _, _⟩) (v := ?_) rfl (by kernel_rfl) (by kernel_rfl) (by kernel_rfl) (fun _ _ _ h => h) (Or.inl ⟨by kernel_rfl, ?_⟩) (by assumption) ?_
        rotate_left
        · (intro w hSw; (try dsimp only at hSw); go_simp; (try with_reducible rfl))
        try simp only [Act.put, List.setIfInBounds_toArray, List.set_cons_zero, List.set_cons_succ]
        refine wpAnyH_take (i := 17) (oi := ⟨some 34, _, _, _, _, _⟩) (v := ?_) rfl (by kernel_rfl) (by kernel_rfl) (by kernel_rfl) (fun _ _ _ h => h) (Or.inl ⟨by kernel_rfl, ?_⟩) (by assumption) ?_
        rotate_left
        · (intro w hSw; (try dsimp only at hSw); go_simp; (try with_reducible rfl))
        try simp only [Act.put, List.setIfInBounds_toArray, List.set_cons_zero, List.set_cons_succ]
        refine wpAnyH_ready (rs := [18]) (by kernel_rfl) (by simp) ?_
        refine AllReadyH.cons (o := ⟨some 35, _, _, _, _, _⟩) rfl (fun K hK => ?_) AllReadyH.nil
        go_simp
        refine (HS.out _).mono ?_
        rintro e W3 ⟨rfl, rfl⟩
        go_wp2_with fail
        refine hK.out _ _ ⟨⟨(((HR.out.drew.alloc (.cells #[.int .i64 P.x, .int .i64 P.y, .int .i64 P.w] 30)).alloc (.cells #[.int .i64 R.x, .int .i64 R.y, .int .i64 R.w] 30))).cs.1, (((HR.out.drew.alloc (.cells #[.int .i64 P.x, .int .i64 P.y, .int .i64 P.w] 30)).alloc (.cells #[.int .i64 R.x, .int .i64 R.y, .int .i64 R.w] 30))).cs.2.1, (((HR.out.drew.alloc (.cells #[.int .i64 P.x, .int .i64 P.y, .int .i64 P.w] 30)).alloc (.cells #[.int .i64 R.x, .int .i64 R.y, .int .i64 R.w] 30))).cs.2.2.2.2, (((HR.out.drew.alloc (.cells #[.int .i64 P.x, .int .i64 P.y, .int .i64 P.w] 30)).alloc (.cells #[.int .i64 R.x, .int .i64 R.y, .int .i64 R.w] 30))).old hob hoj⟩, ⟨(((HR.out.drew.alloc (.cells #[.int .i64 P.x, .int .i64 P.y, .int .i64 P.w] 30)).alloc (.cells #[.int .i64 R.x, .int .i64 R.y, .int .i64 R.w] 30))).old hb hx, (((HR.out.drew.alloc (.cells #[.int .i64 P.x, .int .i64 P.y, .int .i64 P.w] 30)).alloc (.cells #[.int .i64 R.x, .int .i64 R.y, .int .i64 R.w] 30))).old hb hy, (((HR.out.drew.alloc (.cells #[.int .i64 P.x, .int .i64 P.y, .int .i64 P.w] 30)).alloc (.cells #[.int .i64 R.x, .int .i64 R.y, .int .i64 R.w] 30))).old hb hw⟩, ⟨(((HR.out.drew.alloc (.cells #[.int .i64 P.x, .int .i64 P.y, .int .i64 P.w] 30)).alloc (.cells #[.int .i64 R.x, .int .i64 R.y, .int .i64 R.w] 30))).old hb kx, (((HR.out.drew.alloc (.cells #[.int .i64 P.x, .int .i64 P.y, .int .i64 P.w] 30)).alloc (.cells #[.int .i64 R.x, .int .i64 R.y, .int .i64 R.w] 30))).old hb ky, (((HR.out.drew.alloc (.cells #[.int .i64 P.x, .int .i64 P.y, .int .i64 P.w] 30)).alloc (.cells #[.int .i64 R.x, .int .i64 R.y, .int .i64 R.w] 30))).old hb kw⟩⟩ (fun hHeld2 => ?_)
        clear hK K
        try simp only [Act.put, List.setIfInBounds_toArray, List.set_cons_zero, List.set_cons_succ]
        refine wpAnyH_take (i := 19) (oi := ⟨some 36, _, _, _, _, _⟩) (v := ?_) rfl (by kernel_rfl) (by kernel_rfl) (by kernel_rfl) (fun _ _ _ h => h) (Or.inl ⟨by kernel_rfl, ?_⟩) (by assumption) ?_
        rotate_left
        · (intro w hSw; (try dsimp only at hSw); go_simp; (try with_reducible rfl))
        try simp only [Act.put, List.setIfInBounds_toArray, List.set_cons_zero, List.set_cons_succ]
        refine wpAnyH_done (by kernel_rfl) ?_ _
        have HR3 := Lib.hid ((HR.out.alloc (.cells #[.int .i64 P.x, .int .i64 P.y, .int .i64 P.w] 30)).alloc (.cells #[.int .i64 R.x, .int .i64 R.y, .int .i64 R.w] 30)).drew
        have HF3 := Lib.hid ((((KeepsOthers.alloc W2 (.cells #[.int .i64 P.x, .int .i64 P.y, .int .i64 P.w] 30)).trans (KeepsOthers.alloc _ (.cells #[.int .i64 R.x, .int .i64 R.y, .int .i64 R.w] 30))).trans (KeepsOthers.drew _)).from (w.heap.size + 6))
        generalize ((W2.alloc (.cells #[.int .i64 P.x, .int .i64 P.y, .int .i64 P.w] 30)).alloc (.cells #[.int .i64 R.x, .int .i64 R.y, .int .i64 R.w] 30)).drew = W3 at *
        clear HR HS
        gi_wp2
        have hfz : W3.drew.frozen? ⟨w.heap.size + 2, i, none⟩ = false := HR3.out.drew.m.bl.frozen i
        have hci : W3.drew.cell? ⟨w.heap.size + 2, i, none⟩ = some (.int .i64 (f i : Nat)) := (HR3.out.drew.m.bl.cell i).trans (fnC_get f hin)
        have HLj := Lib.hid ((HR3.out.drew.m.bl.cell j).trans (fnC_get f hjn))
        have HLj2 := Lib.hid (((HR3.out.drew.layer i (f j)).m.bl.cell j).trans (fnC_get (updN f i (f j)) hjn))
        rw [show updN f i (f j) j = f j by unfold updN; split <;> rfl] at HLj2
        refine wpIn_region_round (S := fun W' => (W'.cell? ⟨w.heap.size + 1, 0, none⟩ = some (.slice (some ⟨ob, oo, none⟩) n cO) ∧ W'.cell? ⟨w.heap.size + 3, 0, none⟩ = some (.slice (some ⟨w.heap.size + 2, 0, none⟩) n n) ∧ W'.cell? ⟨z, 0, none⟩ = some (.int .i64 (i : Nat)) ∧ W'.cell? ⟨ob, oo + q, none⟩ = some (.int .i64 (j : Nat))) ∧ W'.cell? ⟨w.heap.size + 2, j, none⟩ = some (.int .i64 (f j : Nat))) (by kernel_rfl) (by kernel_rfl) (by rintro ⟨_, _, h⟩; have h1 : Exit.outgrown = Exit.normal := h.1; cases h1) ⟨⟨(HR3.out.drew).cs.2.1, (HR3.out.drew).cs.2.2.1, (HR3.out.drew).cs.2.2.2.2, (HR3.out.drew).old hob hoj⟩, HLj.out⟩ (fun hHeld1 => ?_)
        refine wpAnyH_take (i := 0) (oi := ⟨some 37, _, _, _, _, _⟩) (v := ?_) rfl (by kernel_rfl) (by kernel_rfl) (by kernel_rfl) (fun _ _ _ h => h) (Or.inl ⟨by kernel_rfl, ?_⟩) (by assumption) ?_
        rotate_left
        · (intro w hSw; (try dsimp only at hSw); go_simp; (try with_reducible rfl))
        try simp only [Act.put, List.setIfInBounds_toArray, List.set_cons_zero, List.set_cons_succ]
        refine wpAnyH_take (i := 1) (oi := ⟨some 38, _, _, _, _, _⟩) (v := ?_) rfl (by kernel_rfl) (by kernel_rfl) (by kernel_rfl) (fun _ _ _ h => h) (Or.inl ⟨by kernel_rfl, ?_⟩) (by assumption) ?_
        rotate_left
        · (intro w hSw; (try dsimp only at hSw); go_simp; (try with_reducible rfl))
        try simp only [Act.put, List.setIfInBounds_toArray, List.set_cons_zero, List.set_cons_succ]
        refine wpAnyH_take (i := 2) (oi := ⟨some 39, _, _, _, _, _⟩) (v := ?_) rfl (by kernel_rfl) (by kernel_rfl) (by kernel_rfl) (fun _ _ _ h => h) (Or.inl ⟨by kernel_rfl, ?_⟩) (by assumption) ?_
        rotate_left
        · (intro w hSw; (try dsimp only at hSw); go_simp; (try with_reducible rfl))
        try simp only [Act.put, List.setIfInBounds_toArray, List.set_cons_zero, List.set_cons_succ]
        refine wpAnyH_take (i := 3) (oi := ⟨some 40, _, _, _, _, _⟩) (v := ?_) rfl (by kernel_rfl) (by kernel_rfl) (by kernel_rfl) (fun _ _ _ h => h) (Or.inl ⟨by kernel_rfl, ?_⟩) (by assumption) ?_
        rotate_left
        · (intro w hSw; (try dsimp only at hSw); go_simp; (try with_reducible rfl))
        try simp only [Act.put, List.setIfInBounds_toArray, List.set_cons_zero, List.set_cons_succ]
        refine wpAnyH_take (i := 4) (oi := ⟨some 41, _, _, _, _, _⟩) (v := ?_) rfl (by kernel_rfl) (by kernel_rfl) (by kernel_rfl) (fun _ _ _ h => h) (Or.inl ⟨by kernel_rfl, ?_⟩) (by assumption) ?_
        rotate_left
        · (intro w hSw; (try dsimp only at hSw); go_simp; (try with_reducible rfl))
        try simp only [Act.put, List.setIfInBounds_toArray, List.set_cons_zero, List.set_cons_succ]
        refine wpAnyH_take (i := 5) (oi := ⟨some 42, _, _, _, _, _⟩) (v := ?_) rfl (by kernel_rfl) (by kernel_rfl) (by kernel_rfl) (fun _ _ _ h => h) (Or.inl ⟨by kernel_rfl, ?_⟩) (by assumption) ?_
        rotate_left
        · (intro w hSw; (try dsimp only at hSw); go_simp; (try with_reducible rfl))
        try simp only [Act.put, List.setIfInBounds_toArray, List.set_cons_zero, List.set_cons_succ]
        refine wpAnyH_take (i := 6) (oi := ⟨some 43, _, _, _, _, _⟩) (v := ?_) rfl (by kernel_rfl) (by kernel_rfl) (by kernel_rfl) (fun _ _ _ h => h) (Or.inl ⟨by kernel_rfl, ?_⟩) (by assumption) ?_
        rotate_left
        · (intro w hSw; (try dsimp only at hSw); go_simp; (try with_reducible rfl))
        try simp only [Act.put, List.setIfInBounds_toArray, List.set_cons_zero, List.set_cons_succ]
        refine wpAnyH_take (i := 7) (oi := ⟨some 44, _, _, _, _, _⟩) (v := ?_) rfl (by kernel_rfl) (by kernel_rfl) (by kernel_rfl) (fun _ _ _ h => h) (Or.inl ⟨by kernel_rfl, ?_⟩) (by assumption) ?_
        rotate_left
        · (intro w hSw; (try dsimp only at hSw); go_simp; (try with_reducible rfl))
        try simp only [Act.put, List.setIfInBounds_toArray, List.set_cons_zero, List.set_cons_succ]
        refine wpAnyH_take (i := 8) (oi := ⟨some 45, _, _, _, _, _⟩) (v := ?_) rfl (by kernel_rfl) (by kernel_rfl) (by kernel_rfl) (fun _ _ _ h => h) (Or.inl ⟨by kernel_rfl, ?_⟩) (by assumption) ?_
        rotate_left
        · (intro w hSw; (try dsimp only at hSw); go_simp; (try with_reducible rfl))
        try simp only [Act.put, List.setIfInBounds_toArray, List.set_cons_zero, List.set_cons_succ]
        refine wpAnyH_take (i := 9) (oi := ⟨some 46, _, _, _, _, _⟩) (v := ?_) rfl (by kernel_rfl) (by kernel_rfl) (by kernel_rfl) (fun _ _ _ h => h) (Or.inl ⟨by kernel_rfl, ?_⟩) (by assumption) ?_
        rotate_left
        · (intro w hSw; (try dsimp only at hSw); go_simp; (try with_reducible rfl))
        try simp only [Act.put, List.setIfInBounds_toArray, List.set_cons_zero, List.set_cons_succ]
        refine wpAnyH_take (i := 10) (oi := ⟨some 47, _, _, _, _, _⟩) (v := ?_) rfl (by kernel_rfl) (by kernel_rfl) (by kernel_rfl) (fun _ _ _ h => h) (Or.inl ⟨by kernel_rfl, ?_⟩) (by assumption) ?_
        rotate_left
        · (intro w hSw; (try dsimp only at hSw); go_simp; (try with_reducible rfl))
        try simp only [Act.put, List.setIfInBounds_toArray, List.set_cons_zero, List.set_cons_succ]
        refine wpAnyH_ready (rs := [11]) (by kernel_rfl) (by simp) ?_
        refine AllReadyH.cons (o := ⟨none, _, _, _, _, _⟩) rfl (fun K hK => ?_) AllReadyH.nil
        go_simp
        refine hK.out _ _ ⟨⟨((HR3.out.drew.layer i (f j))).cs.2.1, ((HR3.out.drew.layer i (f j))).cs.2.2.1, ((HR3.out.drew.layer i (f j))).cs.2.2.2.2, ((HR3.out.drew.layer i (f j))).old hob hoj⟩, HLj2.out⟩ (fun hHeld2 => ?_)
        clear hK K
        try simp only [Act.put, List.setIfInBounds_toArray, List.set_cons_zero, List.set_cons_succ]
        refine wpAnyH_done (by kernel_rfl) ?_ _
        gi_wp2
        exact ⟨HF3.out.trans (((KeepsOthers.setCell _ _ _).trans (KeepsOthers.drew _)).from _), lay_same H2.out HQ.out HPat.out (by rw [HMl.out]; exact hml) HI.out HJ.out HPe.out HRe.out HSm.out (HR3.out.layer i (f j)).drew⟩
      · have hs : sameP P R = false := same_no hsm
        rw [hs] at HS
        have HNe : Hid (∀ j', (ordX ps)[q]? = some j' → ¬ (P.x = (ptAt ps j').x ∧ P.y = (ptAt ps j').y)) := Lib.hid fun j' hj' => by
          rw [HJ.out] at hj'
          obtain rfl := Option.some.inj hj'
          rw [HRe.out]
          exact hsm
        clear hs hsm
        refine wpIn_region_round (S := fun W' => (W'.cell? ⟨w.heap.size, 0, none⟩ = some (.slice (some ⟨b, o, none⟩) n c) ∧ W'.cell? ⟨w.heap.size + 1, 0, none⟩ = some (.slice (some ⟨ob, oo, none⟩) n cO) ∧ W'.cell? ⟨z, 0, none⟩ = some (.int .i64 (i : Nat)) ∧ W'.cell? ⟨ob, oo + q, none⟩ = some (.int .i64 (j : Nat))) ∧ (W'.cell? ⟨b, o + i * 3, none⟩ = some (.int .i64 P.x) ∧ W'.cell? ⟨b, o + i * 3 + 1, none⟩ = some (.int .i64 P.y) ∧ W'.cell? ⟨b, o + i * 3 + 2, none⟩ = some (.int .i64 P.w)) ∧ (W'.cell? ⟨b, o + j * 3, none⟩ = some (.int .i64 R.x) ∧ W'.cell? ⟨b, o + j * 3 + 1, none⟩ = some (.int .i64 R.y) ∧ W'.cell? ⟨b, o + j * 3 + 2, none⟩ = some (.int .i64 R.w))) (by kernel_rfl) (by kernel_rfl) (by rintro ⟨_, _, h⟩; have h1 : Exit.outgrown = Exit.normal := h.1; cases h1) ⟨⟨(HR.out.drew).cs.1, (HR.out.drew).cs.2.1, (HR.out.drew).cs.2.2.2.2, (HR.out.drew).old hob hoj⟩, ⟨(HR.out.drew).old hb hx, (HR.out.drew).old hb hy, (HR.out.drew).old hb hw⟩, ⟨(HR.out.drew).old hb kx, (HR.out.drew).old hb ky, (HR.out.drew).old hb kw⟩⟩ (fun hHeld1 => ?_)
        refine wpAnyH_take (i := 0) (oi := ⟨some 17, _, _, _, _, _⟩) (v := ?_) rfl (by kernel_rfl) (by kernel_rfl) (by kernel_rfl) (fun _ _ _ h => h) (Or.inl ⟨by kernel_rfl, ?_⟩) (by assumption) ?_
        rotate_left
        · (intro w hSw; (try dsimp only at hSw); go_simp; (try with_reducible rfl))
        try simp only [Act.put, List.setIfInBounds_toArray, List.set_cons_zero, List.set_cons_succ]
        refine wpAnyH_take (i := 1) (oi := ⟨some 18, _, _, _, _, _⟩) (v := ?_) rfl (by kernel_rfl) (by kernel_rfl) (by kernel_rfl) (fun _ _ _ h => h) (Or.inl ⟨by kernel_rfl, ?_⟩) (by assumption) ?_
        rotate_left
        · (intro w hSw; (try dsimp only at hSw); go_simp; (try with_reducible rfl))
        try simp only [Act.put, List.setIfInBounds_toArray, List.set_cons_zero, List.set_cons_succ]
        refine wpAnyH_take (i := 2) (oi := ⟨some 19, _, _, _, _, _⟩) (v := ?_) rfl (by kernel_rfl) (by kernel_rfl) (by kernel_rfl) (fun _ _ _ h => h) (Or.inl ⟨by kernel_rfl, ?_⟩) (by assumption) ?_
        rotate_left
        · (intro w hSw; (try dsimp only at hSw); go_simp; (try with_reducible rfl))
        try simp only [Act.put, List.setIfInBounds_toArray, List.set_cons_zero, List.set_cons_succ]
        refine wpAnyH_take (i := 3) (oi := ⟨some 20, _, _, _, _, _⟩) (v := ?_) rfl (by kernel_rfl) (by kernel_rfl) (by kernel_rfl) (fun _ _ _ h => h) (Or.inl ⟨by kernel_rfl, ?_⟩) (by assumption) ?_
        rotate_left
        · (intro w hSw; (try dsimp only at hSw); go_simp; (try with_reducible rfl))
        try simp only [Act.put, List.setIfInBounds_toArray, List.set_cons_zero, List.set_cons_succ]
        refine wpAnyH_take (i := 4) (oi := ⟨some 21, _, _, _, _, _⟩) (v := ?_) rfl (by kernel_rfl) (by kernel_rfl) (by kernel_rfl) (fun _ _ _ h => h) (Or.inl ⟨by kernel_rfl, ?_⟩) (by assumption) ?_
        rotate_left
        · (intro w hSw; (try dsimp only at hSw); go_simp; (try with_reducible rfl))
        try simp only [Act.put, List.setIfInBounds_toArray, List.set_cons_zero, List.set_cons_succ]
        refine wpAnyH_take (i := 5) (oi := ⟨some 22, _, _, _, _, _⟩) (v := ?_) rfl (by kernel_rfl) (by kernel_rfl) (by kernel_rfl) (fun _ _ _ h => h) (Or.inl ⟨by kernel_rfl, ?_⟩) (by assumption) ?_
        rotate_left
        · (intro w hSw; (try dsimp only at hSw); go_simp; (try with_reducible rfl))
        try simp only [Act.put, List.setIfInBounds_toArray, List.set_cons_zero, List.set_cons_succ]
        refine wpAnyH_take (i := 6) (oi := ⟨some 23, _, _, _, _, _⟩) (v := ?_) rfl (by kernel_rfl) (by kernel_rfl) (by kernel_rfl) (fun _ _ _ h => h) (Or.inl ⟨by kernel_rfl, ?_⟩) (by assumption) ?_
        rotate_left
        · (intro w hSw; (try dsimp only at hSw); go_simp; (try with_reducible rfl))
        try simp only [Act.put, List.setIfInBounds_toArray, List.set_cons_zero, List.set_cons_succ]
        refine wpAnyH_take (i := 7) (oi := ⟨some 24, _, _, _, _, _⟩) (v := ?_) rfl (by kernel_rfl) (by kernel_rfl) (by kernel_rfl) (fun _ _ _ h => h) (Or.inl ⟨by kernel_rfl, ?_⟩) (by assumption) ?_
        rotate_left
        · (intro w hSw; (try dsimp only at hSw); go_simp; (try with_reducible rfl))
        try simp only [Act.put, List.setIfInBounds_toArray, List.set_cons_zero, List.set_cons_succ]
        refine wpAnyH_take (i := 8) (oi := ⟨some 25, _, _, _, _, _⟩) (v := ?_) rfl (by kernel_rfl) (by kernel_rfl) (by kernel_rfl) (fun _ _ _ h => h) (Or.inl ⟨by kernel_rfl, ?_⟩) (by assumption) ?_
        rotate_left
        · (intro w hSw; (try dsimp only at hSw); go_simp; (try with_reducible rfl))
        try simp only [Act.put, List.setIfInBounds_toArray, List.set_cons_zero, List.set_cons_succ]
        refine wpAnyH_take (i := 9) (oi := ⟨some 26, _, _, _, _, _⟩) (v := ?_) rfl (by kernel_rfl) (by kernel_rfl) (by kernel_rfl) (fun _ _ _ h => h) (Or.inl ⟨by kernel_rfl, ?_⟩) (by assumption) ?_
        rotate_left
        · (intro w hSw; (try dsimp only at hSw); go_simp; (try with_reducible rfl))
        try simp only [Act.put, List.setIfInBounds_toArray, List.set_cons_zero, List.set_cons_succ]
        refine wpAnyH_take (i := 10) (oi := ⟨some 27, _, _, _, _, _⟩) (v := ?_) rfl (by kernel_rfl) (by kernel_rfl) (by kernel_rfl) (fun _ _ _ h => h) (Or.inl ⟨by kernel_rfl, ?_⟩) (by assumption) ?_
        rotate_left
        · (intro w hSw; (try dsimp only at hSw); go_simp; (try with_reducible rfl))
        try simp only [Act.put, List.setIfInBounds_toArray, List.set_cons_zero, List.set_cons_succ]
        refine wpAnyH_take (i := 11) (oi := ⟨some 28, _, _, _, _, _⟩) (v := ?_) rfl (by kernel_rfl) (by kernel_rfl) (by kernel_rfl) (fun _ _ _ h => h) (Or.inl ⟨by kernel_rfl, ?_⟩) (by assumption) ?_
        rotate_left
        · (intro w hSw; (try dsimp only at hSw); go_simp; (try with_reducible rfl))
        try simp only [Act.put, List.setIfInBounds_toArray, List.set_cons_zero, List.set_cons_succ]
        refine wpAnyH_take (i := 12) (oi := ⟨some 29, _, _, _, _, _⟩) (v := ?_) rfl (by kernel_rfl) (by kernel_rfl) (by kernel_rfl) (fun _ _ _ h => h) (Or.inl ⟨by kernel_rfl, ?_⟩) (by assumption) ?_
        rotate_left
        · (intro w hSw; (try dsimp only at hSw); go_simp; (try with_reducible rfl))
        try simp only [Act.put, List.setIfInBounds_toArray, List.set_cons_zero, List.set_cons_succ]
        refine wpAnyH_take (i := 13) (oi := ⟨some 30, _, _, _, _, _⟩) (v := ?_) rfl (by kernel_rfl) (by kernel_rfl) (by kernel_rfl) (fun _ _ _ h => h) (Or.inl ⟨by kernel_rfl, ?_⟩) (by assumption) ?_
        rotate_left
        · (intro w hSw; (try dsimp only at hSw); go_simp; (try with_reducible rfl))
        try simp only [Act.put, List.setIfInBounds_toArray, List.set_cons_zero, List.set_cons_succ]
        refine wpAnyH_take (i := 14) (oi := ⟨some 31, _, _, _, _, _⟩) (v := ?_) rfl (by kernel_rfl) (by kernel_rfl) (by kernel_rfl) (fun _ _ _ h => h) (Or.inl ⟨by kernel_rfl, ?_⟩) (by assumption) ?_
        rotate_left
        · (intro w hSw; (try dsimp only at hSw); go_simp; (try with_reducible rfl))
        try simp only [Act.put, List.setIfInBounds_toArray, List.set_cons_zero, List.set_cons_succ]
        refine wpAnyH_take (i := 15) (oi := ⟨some 32, _, _, _, _, _⟩) (v := ?_) rfl (by kernel_rfl) (by kernel_rfl) (by kernel_rfl) (fun _ _ _ h => h) (Or.inl ⟨by kernel_rfl, ?_⟩) (by assumption) ?_
        rotate_left
        · (intro w hSw; (try dsimp only at hSw); go_simp; (try with_reducible rfl))
        try simp only [Act.put, List.setIfInBounds_toArray, List.set_cons_zero, List.set_cons_succ]
        refine wpAnyH_take (i := 16) (oi := ⟨some 33, _, _, _, _, _⟩) (v := ?_) rfl (by kernel_rfl) (by kernel_rfl) (by kernel_rfl) (fun _ _ _ h => h) (Or.inl ⟨by kernel_rfl, ?_⟩) (by assumption) ?_
        rotate_left
        · (intro w hSw; (try dsimp only at hSw); go_simp; (try with_reducible rfl))
        try simp only [Act.put, List.setIfInBounds_toArray, List.set_cons_zero, List.set_cons_succ]
        refine wpAnyH_take (i := 17) (oi := ⟨some 34, _, _, _, _, _⟩) (v := ?_) rfl (by kernel_rfl) (by kernel_rfl) (by kernel_rfl) (fun _ _ _ h => h) (Or.inl ⟨by kernel_rfl, ?_⟩) (by assumption) ?_
        rotate_left
        · (intro w hSw; (try dsimp only at hSw); go_simp; (try with_reducible rfl))
        try simp only [Act.put, List.setIfInBounds_toArray, List.set_cons_zero, List.set_cons_succ]
        refine wpAnyH_ready (rs := [18]) (by kernel_rfl) (by simp) ?_
        refine AllReadyH.cons (o := ⟨some 35, _, _, _, _, _⟩) rfl (fun K hK => ?_) AllReadyH.nil
        go_simp
        refine (HS.out _).mono ?_
        rintro e W3 ⟨rfl, rfl⟩
        go_wp2_with fail
        refine hK.out _ _ ⟨⟨(((HR.out.drew.alloc (.cells #[.int .i64 P.x, .int .i64 P.y, .int .i64 P.w] 30)).alloc (.cells #[.int .i64 R.x, .int .i64 R.y, .int .i64 R.w] 30))).cs.1, (((HR.out.drew.alloc (.cells #[.int .i64 P.x, .int .i64 P.y, .int .i64 P.w] 30)).alloc (.cells #[.int .i64 R.x, .int .i64 R.y, .int .i64 R.w] 30))).cs.2.1, (((HR.out.drew.alloc (.cells #[.int .i64 P.x, .int .i64 P.y, .int .i64 P.w] 30)).alloc (.cells #[.int .i64 R.x, .int .i64 R.y, .int .i64 R.w] 30))).cs.2.2.2.2, (((HR.out.drew.alloc (.cells #[.int .i64 P.x, .int .i64 P.y, .int .i64 P.w] 30)).alloc (.cells #[.int .i64 R.x, .int .i64 R.y, .int .i64 R.w] 30))).old hob hoj⟩, ⟨(((HR.out.drew.alloc (.cells #[.int .i64 P.x, .int .i64 P.y, .int .i64 P.w] 30)).alloc (.cells #[.int .i64 R.x, .int .i64 R.y, .int .i64 R.w] 30))).old hb hx, (((HR.out.drew.alloc (.cells #[.int .i64 P.x, .int .i64 P.y, .int .i64 P.w] 30)).alloc (.cells #[.int .i64 R.x, .int .i64 R.y, .int .i64 R.w] 30))).old hb hy, (((HR.out.drew.alloc (.cells #[.int .i64 P.x, .int .i64 P.y, .int .i64 P.w] 30)).alloc (.cells #[.int .i64 R.x, .int .i64 R.y, .int .i64 R.w] 30))).old hb hw⟩, ⟨(((HR.out.drew.alloc (.cells #[.int .i64 P.x, .int .i64 P.y, .int .i64 P.w] 30)).alloc (.cells #[.int .i64 R.x, .int .i64 R.y, .int .i64 R.w] 30))).old hb kx, (((HR.out.drew.alloc (.cells #[.int .i64 P.x, .int .i64 P.y, .int .i64 P.w] 30)).alloc (.cells #[.int .i64 R.x, .int .i64 R.y, .int .i64 R.w] 30))).old hb ky, (((HR.out.drew.alloc (.cells #[.int .i64 P.x, .int .i64 P.y, .int .i64 P.w] 30)).alloc (.cells #[.int .i64 R.x, .int .i64 R.y, .int .i64 R.w] 30))).old hb kw⟩⟩ (fun hHeld2 => ?_)
        clear hK K
        try simp only [Act.put, List.setIfInBounds_toArray, List.set_cons_zero, List.set_cons_succ]
        refine wpAnyH_take (i := 19) (oi := ⟨some 36, _, _, _, _, _⟩) (v := ?_) rfl (by kernel_rfl) (by kernel_rfl) (by kernel_rfl) (fun _ _ _ h => h) (Or.inl ⟨by kernel_rfl, ?_⟩) (by assumption) ?_
        rotate_left
        · (intro w hSw; (try dsimp only at hSw); go_simp; (try with_reducible rfl))
        try simp only [Act.put, List.setIfInBounds_toArray, List.set_cons_zero, List.set_cons_succ]
        refine wpAnyH_done (by kernel_rfl) ?_ _
        have HR3 := Lib.hid ((HR.out.alloc (.cells #[.int .i64 P.x, .int .i64 P.y, .int .i64 P.w] 30)).alloc (.cells #[.int .i64 R.x, .int .i64 R.y, .int .i64 R.w] 30)).drew
        have HF3 := Lib.hid ((((KeepsOthers.alloc W2 (.cells #[.int .i64 P.x, .int .i64 P.y, .int .i64 P.w] 30)).trans (KeepsOthers.alloc _ (.cells #[.int .i64 R.x, .int .i64 R.y, .int .i64 R.w] 30))).trans (KeepsOthers.drew _)).from (w.heap.size + 6))
        generalize ((W2.alloc (.cells #[.int .i64 P.x, .int .i64 P.y, .int .i64 P.w] 30)).alloc (.cells #[.int .i64 R.x, .int .i64 R.y, .int .i64 R.w] 30)).drew = W3 at *
        clear HR HS
        obtain ⟨L, hL, hlo, hhi⟩ := HPat.out.find P.y
        rw [HMl.out] at hL
        have HLo := Lib.hid hlo
        have HHi := Lib.hid hhi
        have HSe := Lib.hid (search_rd HR3.out HMl.out hin hb hy (by omega) hL hlo hhi)
        have hct := HR3.out.cs.2.2.2.1
        have hmi : (m : Int) < 1000 := by omega
        clear hlo hhi
        rcases Nat.lt_or_ge L m with hLm | hLm
        · have hne : ((L : Int) == (m : Int)) = false := beq_eq_false_iff_ne.2 fun e => absurd (Int.ofNat.inj e) (Nat.ne_of_lt hLm)
          obtain ⟨g, rfl, _⟩ := own_at HR3.out.m.row (by rw [← HMl.out] at hLm; omega)
          gi_wp2_with (refine ⟨trivial, ?_⟩; gi_at_call 52; refine (callsIn_round HSe.out).mono ?_; rintro e w4 ⟨rfl, d, rfl⟩)
          have HR6 := Lib.hid (HR3.out.drewN d)
          have HF6 := Lib.hid (HF3.out.trans ((keeps_drewN W3 d).from _))
          have HNw := Lib.hid (set_new P.y (by rw [HMl.out]; exact hLm))
          have HT6 := HMl
          have hLm2 := hLm
          generalize W3.drewN d = W6 at *
          clear HR3 HF3 HSe hct
          have hfz6 := (own_has7 HR6.out.drew.m.row HT6.out hLm2).1
          obtain ⟨uL, hcL⟩ := (own_has7 HR6.out.drew.m.row HT6.out hLm2).2
          have hLi : (L : Int) < (m : Int) := Int.ofNat_lt.2 hLm2
          have HR7 := Lib.hid (HR6.out.drew.top HT6.out L P.y)
          refine wpIn_region_round (S := fun W' => (W'.cell? ⟨w.heap.size, 0, none⟩ = some (.slice (some ⟨b, o, none⟩) n c) ∧ W'.cell? ⟨w.heap.size + 4, 0, none⟩ = some (.slice (some ⟨g, 0, none⟩) m cT) ∧ W'.cell? ⟨z, 0, none⟩ = some (.int .i64 (i : Nat))) ∧ W'.cell? ⟨b, o + i * 3 + 1, none⟩ = some (.int .i64 P.y)) (by kernel_rfl) (by kernel_rfl) (by rintro ⟨_, _, h⟩; have h1 : Exit.outgrown = Exit.normal := h.1; cases h1) ⟨⟨(HR6.out.drew).cs.1, (HR6.out.drew).cs.2.2.2.1, (HR6.out.drew).cs.2.2.2.2⟩, (HR6.out.drew).old hb hy⟩ (fun hHeld1 => ?_)
          refine wpAnyH_take (i := 0) (oi := ⟨some 59, _, _, _, _, _⟩) (v := ?_) rfl (by kernel_rfl) (by kernel_rfl) (by kernel_rfl) (fun _ _ _ h => h) (Or.inl ⟨by kernel_rfl, ?_⟩) (by assumption) ?_
          rotate_left
          · (intro w hSw; (try dsimp only at hSw); go_simp; (try with_reducible rfl))
          try simp only [Act.put, List.setIfInBounds_toArray, List.set_cons_zero, List.set_cons_succ]
          refine wpAnyH_take (i := 1) (oi := ⟨some 60, _, _, _, _, _⟩) (v := ?_) rfl (by kernel_rfl) (by kernel_rfl) (by kernel_rfl) (fun _ _ _ h => h) (Or.inl ⟨by kernel_rfl, ?_⟩) (by assumption) ?_
          rotate_left
          · (intro w hSw; (try dsimp only at hSw); go_simp; (try with_reducible rfl))
          try simp only [Act.put, List.setIfInBounds_toArray, List.set_cons_zero, List.set_cons_succ]
          refine wpAnyH_take (i := 2) (oi := ⟨some 61, _, _, _, _, _⟩) (v := ?_) rfl (by kernel_rfl) (by kernel_rfl) (by kernel_rfl) (fun _ _ _ h => h) (Or.inl ⟨by kernel_rfl, ?_⟩) (by assumption) ?_
          rotate_left
          · (intro w hSw; (try dsimp only at hSw); go_simp; (try with_reducible rfl))
          try simp only [Act.put, List.setIfInBounds_toArray, List.set_cons_zero, List.set_cons_succ]
          refine wpAnyH_take (i := 3) (oi := ⟨some 62, _, _, _, _, _⟩) (v := ?_) rfl (by kernel_rfl) (by kernel_rfl) (by kernel_rfl) (fun _ _ _ h => h) (Or.inl ⟨by kernel_rfl, ?_⟩) (by assumption) ?_
          rotate_left
          · (intro w hSw; (try dsimp only at hSw); go_simp; (try with_reducible rfl))
          try simp only [Act.put, List.setIfInBounds_toArray, List.set_cons_zero, List.set_cons_succ]
          refine wpAnyH_take (i := 4) (oi := ⟨some 63, _, _, _, _, _⟩) (v := ?_) rfl (by kernel_rfl) (by kernel_rfl) (by kernel_rfl) (fun _ _ _ h => h) (Or.inl ⟨by kernel_rfl, ?_⟩) (by assumption) ?_
          rotate_left
          · (intro w hSw; (try dsimp only at hSw); go_simp; (try with_reducible rfl))
          try simp only [Act.put, List.setIfInBounds_toArray, List.set_cons_zero, List.set_cons_succ]
          refine wpAnyH_take (i := 5) (oi := ⟨some 64, _, _, _, _, _⟩) (v := ?_) rfl (by kernel_rfl) (by kernel_rfl) (by kernel_rfl) (fun _ _ _ h => h) (Or.inl ⟨by kernel_rfl, ?_⟩) (by assumption) ?_
          rotate_left
          · (intro w hSw; (try dsimp only at hSw); go_simp; (try with_reducible rfl))
          try simp only [Act.put, List.setIfInBounds_toArray, List.set_cons_zero, List.set_cons_succ]
          refine wpAnyH_take (i := 6) (oi := ⟨some 65, _, _, _, _, _⟩) (v := ?_) rfl (by kernel_rfl) (by kernel_rfl) (by kernel_rfl) (fun _ _ _ h => h) (Or.inl ⟨by kernel_rfl, ?_⟩) (by assumption) ?_
          rotate_left
          · (intro w hSw; (try dsimp only at hSw); go_simp; (try with_reducible rfl))
          try simp only [Act.put, List.setIfInBounds_toArray, List.set_cons_zero, List.set_cons_succ]
          refine wpAnyH_take (i := 7) (oi := ⟨some 66, _, _, _, _, _⟩) (v := ?_) rfl (by kernel_rfl) (by kernel_rfl) (by kernel_rfl) (fun _ _ _ h => h) (Or.inl ⟨by kernel_rfl, ?_⟩) (by assumption) ?_
          rotate_left
          · (intro w hSw; (try dsimp only at hSw); go_simp; (try with_reducible rfl))
          try simp only [Act.put, List.setIfInBounds_toArray, List.set_cons_zero, List.set_cons_succ]
          refine wpAnyH_ready (rs := [8]) (by kernel_rfl) (by simp) ?_
          refine AllReadyH.cons (o := ⟨none, _, _, _, _, _⟩) rfl (fun K hK => ?_) AllReadyH.nil
          go_simp
          refine hK.out _ _ ⟨⟨(HR7.out).cs.1, (HR7.out).cs.2.2.2.1, (HR7.out).cs.2.2.2.2⟩, (HR7.out).old hb hy⟩ (fun hHeld2 => ?_)
          clear hK K
          try simp only [Act.put, List.setIfInBounds_toArray, List.set_cons_zero, List.set_cons_succ]
          refine wpAnyH_done (by kernel_rfl) ?_ _
          have HR8 := Lib.hid (HR6.out.top HT6.out L P.y).drew
          have HF8 := Lib.hid (HF6.out.trans (((KeepsOthers.setCell W6 ⟨g, L, none⟩ (.int .i64 P.y)).trans (KeepsOthers.drew _)).from _))
          clear HR7 hHeld1 hHeld2 hfz6 hcL HR6 HF6
          generalize (W6.setCell ⟨g, L, none⟩ (.int .i64 P.y)).drew = W8 at *
          have hcb8 := HR8.out.cs.2.2.1
          have hci8 := HR8.out.cs.2.2.2.2
          have hcf8 := (HR8.out.m.bl.cell i).trans (fnC_get f hin)
          have hfz8 := HR8.out.m.bl.frozen i
          gi_wp2
          exact ⟨HF8.out.trans ((KeepsOthers.setCell _ _ _).from _), lay_new H2.out HQ.out HPat.out (by rw [HMl.out]; exact hml) HI.out HPe.out HNe.out (by rw [HMl.out]; exact hL) HLo.out HHi.out HNw.out.1 HNw.out.2.1 (by have h7 := HNw.out.2.2; have h8 := HMl.out; omega) (HR8.out.layer i L)⟩
        · obtain rfl : L = m := by omega
          have hown := HR3.out.m.row
          rw [HMl.out] at hown
          obtain ⟨i0, hi0, hz0, hz1, hz2⟩ := info_parts lint_info
          obtain ⟨mT, hmT⟩ : ∃ mT, L + 1 = mT := ⟨_, rfl⟩
          have hLm2 : L < mT := by omega
          have hmTb : (mT : Int) < 1001 := by omega
          have HmT := Lib.hid hmT
          clear hmT
          gi_wp2_with first
            | (refine ⟨trivial, ?_⟩; gi_at_call 52; refine (callsIn_round HSe.out).mono ?_; rintro e w4 ⟨rfl, d, rfl⟩; have HR4 := Lib.hid (HR3.out.drewN d); have HF4 := Lib.hid (HF3.out.trans ((keeps_drewN W3 d).from _)); have hown4 : (W3.drewN d).ownsRow _ _ _ _ _ _ := hown; generalize W3.drewN d = W4 at *; clear hown hct HR3 HF3 HSe; have hct := HR4.out.cs.2.2.2.1)
            | (gi_at_builtin; go_loud (refine wpListIn_append_own_at _ rfl _ _ 31 rfl (w.heap.size + 6) 3 i0 (.int .i64 0) 1 8 Try.underlying31 hi0 hz0 hz1 hz2 rfl (by decide) _ L (T.map (.int .i64)) rfl (hown4.alloc _) ⟨W4.heap.size, 0, none⟩ 1 1 [.int .i64 0] rfl rfl (cell_one_new _ _ _) (by simp [Value.oneCell']) (by unfold maxLen; omega) (by omega) (by have := HR4.out.m.bs.lt; rw [World.size_alloc]; omega) ?_; intro v5 W5 hown5 hg5 hnil5 hat5; rw [HmT.out] at hown5; obtain ⟨A5, cT, rfl, _, _, _, _, _⟩ := own_slice hown5; obtain ⟨g, rfl, _⟩ := own_at hown5 (by omega); have HG5 := Lib.hid hg5; have HAt5 := Lib.hid hat5; have HOwn5 := Lib.hid hown5; clear hg5 hnil5 hat5 hown5; have hb5 := (HR4.out.m.bt.alloc _).grew7 HG5.out (fun e => by have := (HR4.out.m.row.lt _ e.symm).1; omega); have hcb5 := hb5.cell 0; have hfb5 := hb5.frozen 0; clear hb5))
          have HR6 := Lib.hid (HR4.out.push HMl.out HmT.out HOwn5.out HG5.out HAt5.out)
          have HF6 := Lib.hid (HF4.out.trans ((HR4.out.pushed (v2 := .slice (some ⟨g, 0, none⟩) mT cT) HG5.out ⟨w.heap.size + 4, 0, none⟩).from _))
          clear HR4 HF4 HOwn5 HG5 HAt5 hct hi0 hz0 hz1 hz2 hcb5 hfb5
          generalize W5.setCell ⟨w.heap.size + 4, 0, none⟩ (.slice (some ⟨g, 0, none⟩) mT cT) = W6 at *
          have HNw := Lib.hid (push_new T P.y)
          rw [HMl.out] at HNw
          have HT6 : Hid ((T ++ [(0 : Int)]).length = mT) := Lib.hid (by rw [List.length_append, List.length_singleton, HMl.out]; exact HmT.out)
          have hfz6 := (own_has7 HR6.out.drew.m.row HT6.out hLm2).1
          obtain ⟨uL, hcL⟩ := (own_has7 HR6.out.drew.m.row HT6.out hLm2).2
          have hLi : (L : Int) < (mT : Int) := Int.ofNat_lt.2 hLm2
          have HR7 := Lib.hid (HR6.out.drew.top HT6.out L P.y)
          refine wpIn_region_round (S := fun W' => (W'.cell? ⟨w.heap.size, 0, none⟩ = some (.slice (some ⟨b, o, none⟩) n c) ∧ W'.cell? ⟨w.heap.size + 4, 0, none⟩ = some (.slice (some ⟨g, 0, none⟩) mT cT) ∧ W'.cell? ⟨z, 0, none⟩ = some (.int .i64 (i : Nat))) ∧ W'.cell? ⟨b, o + i * 3 + 1, none⟩ = some (.int .i64 P.y)) (by kernel_rfl) (by kernel_rfl) (by rintro ⟨_, _, h⟩; have h1 : Exit.outgrown = Exit.normal := h.1; cases h1) ⟨⟨(HR6.out.drew).cs.1, (HR6.out.drew).cs.2.2.2.1, (HR6.out.drew).cs.2.2.2.2⟩, (HR6.out.drew).old hb hy⟩ (fun hHeld1 => ?_)
          refine wpAnyH_take (i := 0) (oi := ⟨some 59, _, _, _, _, _⟩) (v := ?_) rfl (by kernel_rfl) (by kernel_rfl) (by kernel_rfl) (fun _ _ _ h => h) (Or.inl ⟨by kernel_rfl, ?_⟩) (by assumption) ?_
          rotate_left
          · (intro w hSw; (try dsimp only at hSw); go_simp; (try with_reducible rfl))
          try simp only [Act.put, List.setIfInBounds_toArray, List.set_cons_zero, List.set_cons_succ]
          refine wpAnyH_take (i := 1) (oi := ⟨some 60, _, _, _, _, _⟩) (v := ?_) rfl (by kernel_rfl) (by kernel_rfl) (by kernel_rfl) (fun _ _ _ h => h) (Or.inl ⟨by kernel_rfl, ?_⟩) (by assumption) ?_
          rotate_left
          · (intro w hSw; (try dsimp only at hSw); go_simp; (try with_reducible rfl))
          try simp only [Act.put, List.setIfInBounds_toArray, List.set_cons_zero, List.set_cons_succ]
          refine wpAnyH_take (i := 2) (oi := ⟨some 61, _, _, _, _, _⟩) (v := ?_) rfl (by kernel_rfl) (by kernel_rfl) (by kernel_rfl) (fun _ _ _ h => h) (Or.inl ⟨by kernel_rfl, ?_⟩) (by assumption) ?_
          rotate_left
          · (intro w hSw; (try dsimp only at hSw); go_simp; (try with_reducible rfl))
          try simp only [Act.put, List.setIfInBounds_toArray, List.set_cons_zero, List.set_cons_succ]
          refine wpAnyH_take (i := 3) (oi := ⟨some 62, _, _, _, _, _⟩) (v := ?_) rfl (by kernel_rfl) (by kernel_rfl) (by kernel_rfl) (fun _ _ _ h => h) (Or.inl ⟨by kernel_rfl, ?_⟩) (by assumption) ?_
          rotate_left
          · (intro w hSw; (try dsimp only at hSw); go_simp; (try with_reducible rfl))
          try simp only [Act.put, List.setIfInBounds_toArray, List.set_cons_zero, List.set_cons_succ]
          refine wpAnyH_take (i := 4) (oi := ⟨some 63, _, _, _, _, _⟩) (v := ?_) rfl (by kernel_rfl) (by kernel_rfl) (by kernel_rfl) (fun _ _ _ h => h) (Or.inl ⟨by kernel_rfl, ?_⟩) (by assumption) ?_
          rotate_left
          · (intro w hSw; (try dsimp only at hSw); go_simp; (try with_reducible rfl))
          try simp only [Act.put, List.setIfInBounds_toArray, List.set_cons_zero, List.set_cons_succ]
          refine wpAnyH_take (i := 5) (oi := ⟨some 64, _, _, _, _, _⟩) (v := ?_) rfl (by kernel_rfl) (by kernel_rfl) (by kernel_rfl) (fun _ _ _ h => h) (Or.inl ⟨by kernel_rfl, ?_⟩) (by assumption) ?_
          rotate_left
          · (intro w hSw; (try dsimp only at hSw); go_simp; (try with_reducible rfl))
          try simp only [Act.put, List.setIfInBounds_toArray, List.set_cons_zero, List.set_cons_succ]
          refine wpAnyH_take (i := 6) (oi := ⟨some 65, _, _, _, _, _⟩) (v := ?_) rfl (by kernel_rfl) (by kernel_rfl) (by kernel_rfl) (fun _ _ _ h => h) (Or.inl ⟨by kernel_rfl, ?_⟩) (by assumption) ?_
          rotate_left
          · (intro w hSw; (try dsimp only at hSw); go_simp; (try with_reducible rfl))
          try simp only [Act.put, List.setIfInBounds_toArray, List.set_cons_zero, List.set_cons_succ]
          refine wpAnyH_take (i := 7) (oi := ⟨some 66, _, _, _, _, _⟩) (v := ?_) rfl (by kernel_rfl) (by kernel_rfl) (by kernel_rfl) (fun _ _ _ h => h) (Or.inl ⟨by kernel_rfl, ?_⟩) (by assumption) ?_
          rotate_left
          · (intro w hSw; (try dsimp only at hSw); go_simp; (try with_reducible rfl))
          try simp only [Act.put, List.setIfInBounds_toArray, List.set_cons_zero, List.set_cons_succ]
          refine wpAnyH_ready (rs := [8]) (by kernel_rfl) (by simp) ?_
          refine AllReadyH.cons (o := ⟨none, _, _, _, _, _⟩) rfl (fun K hK => ?_) AllReadyH.nil
          go_simp
          refine hK.out _ _ ⟨⟨(HR7.out).cs.1, (HR7.out).cs.2.2.2.1, (HR7.out).cs.2.2.2.2⟩, (HR7.out).old hb hy⟩ (fun hHeld2 => ?_)
          clear hK K
          try simp only [Act.put, List.setIfInBounds_toArray, List.set_cons_zero, List.set_cons_succ]
          refine wpAnyH_done (by kernel_rfl) ?_ _
          have HR8 := Lib.hid (HR6.out.top HT6.out L P.y).drew
          have HF8 := Lib.hid (HF6.out.trans (((KeepsOthers.setCell W6 ⟨g, L, none⟩ (.int .i64 P.y)).trans (KeepsOthers.drew _)).from _))
          clear HR7 hHeld1 hHeld2 hfz6 hcL HR6 HF6
          generalize (W6.setCell ⟨g, L, none⟩ (.int .i64 P.y)).drew = W8 at *
          have hcb8 := HR8.out.cs.2.2.1
          have hci8 := HR8.out.cs.2.2.2.2
          have hcf8 := (HR8.out.m.bl.cell i).trans (fnC_get f hin)
          have hfz8 := HR8.out.m.bl.frozen i
          gi_wp2
          exact ⟨HF8.out.trans ((KeepsOthers.setCell _ _ _).from _), lay_new H2.out HQ.out HPat.out (by rw [HMl.out]; exact hml) HI.out HPe.out HNe.out (by rw [HMl.out]; exact hL) HLo.out HHi.out HNw.out.1 HNw.out.2.1 (by have h7 := HNw.out.2.2; have h8 := HMl.out; omega) (HR8.out.layer i L)⟩
    · have hpl : ¬ (q : Int) < (n : Int) := fun h => hlast (Int.ofNat_lt.1 h)
      have HQ := Lib.hid hq
      have HNe : Hid (∀ j', (ordX ps)[q]? = some j' → ¬ (P.x = (ptAt ps j').x ∧ P.y = (ptAt ps j').y)) := Lib.hid fun j' hj' => by
        have h1 := (List.getElem?_eq_some_iff.1 hj').1
        rw [HOl.out, HN.out] at h1
        exact absurd h1 hlast
      clear hq hlt
      refine wpIn_region_round (S := fun W' => W'.cell? ⟨w.heap.size + 1, 0, none⟩ = some (.slice (some ⟨ob, oo, none⟩) n cO)) (by kernel_rfl) (by kernel_rfl) (by rintro ⟨_, _, h⟩; have h1 : Exit.outgrown = Exit.normal := h.1; cases h1) HR.out.drew.cs.2.1 (fun hHeld1 => ?_)
      refine wpAnyH_take (i := 0) (oi := ⟨some 17, _, _, _, _, _⟩) (v := ?_) rfl (by kernel_rfl) (by kernel_rfl) (by kernel_rfl) (fun _ _ _ h => h) (Or.inl ⟨by kernel_rfl, ?_⟩) (by assumption) ?_
      rotate_left
      · (intro w hSw; (try dsimp only at hSw); go_simp; (try with_reducible rfl))
      try simp only [Act.put, List.setIfInBounds_toArray, List.set_cons_zero, List.set_cons_succ]
      refine wpAnyH_take (i := 1) (oi := ⟨some 18, _, _, _, _, _⟩) (v := ?_) rfl (by kernel_rfl) (by kernel_rfl) (by kernel_rfl) (fun _ _ _ h => h) (Or.inl ⟨by kernel_rfl, ?_⟩) (by assumption) ?_
      rotate_left
      · (intro w hSw; (try dsimp only at hSw); go_simp; (try with_reducible rfl))
      try simp only [Act.put, List.setIfInBounds_toArray, List.set_cons_zero, List.set_cons_succ]
      refine wpAnyH_take (i := 2) (oi := ⟨some 19, _, _, _, _, _⟩) (v := ?_) rfl (by kernel_rfl) (by kernel_rfl) (by kernel_rfl) (fun _ _ _ h => h) (Or.inl ⟨by kernel_rfl, ?_⟩) (by assumption) ?_
      rotate_left
      · (intro w hSw; (try dsimp only at hSw); go_simp; (try with_reducible rfl))
      try simp only [Act.put, List.setIfInBounds_toArray, List.set_cons_zero, List.set_cons_succ]
      refine wpAnyH_take (i := 3) (oi := ⟨some 20, _, _, _, _, _⟩) (v := ?_) rfl (by kernel_rfl) (by kernel_rfl) (by kernel_rfl) (fun _ _ _ h => h) (Or.inl ⟨by kernel_rfl, ?_⟩) (by assumption) ?_
      rotate_left
      · (intro w hSw; (try dsimp only at hSw); go_simp; (try with_reducible rfl))
      try simp only [Act.put, List.setIfInBounds_toArray, List.set_cons_zero, List.set_cons_succ]
      refine wpAnyH_take (i := 4) (oi := ⟨some 21, _, _, _, _, _⟩) (v := ?_) rfl (by kernel_rfl) (by kernel_rfl) (by kernel_rfl) (fun _ _ _ h => h) (Or.inl ⟨by kernel_rfl, ?_⟩) (by assumption) ?_
      rotate_left
      · (intro w hSw; (try dsimp only at hSw); go_simp; (try with_reducible rfl))
      try simp only [Act.put, List.setIfInBounds_toArray, List.set_cons_zero, List.set_cons_succ]
      refine wpAnyH_take (i := 5) (oi := ⟨some 22, _, _, _, _, _⟩) (v := ?_) rfl (by kernel_rfl) (by kernel_rfl) (by kernel_rfl) (fun _ _ _ h => h) (Or.inl ⟨by kernel_rfl, ?_⟩) (by assumption) ?_
      rotate_left
      · (intro w hSw; (try dsimp only at hSw); go_simp; (try with_reducible rfl))
      try simp only [Act.put, List.setIfInBounds_toArray, List.set_cons_zero, List.set_cons_succ]
      refine wpAnyH_take (i := 6) (oi := ⟨some 23, _, _, _, _, _⟩) (v := undef) rfl (by kernel_rfl) (by kernel_rfl) (by kernel_rfl) (fun _ _ _ h => h) (Or.inr ⟨by kernel_rfl, rfl⟩) (by assumption) ?_
      try simp only [Act.put, List.setIfInBounds_toArray, List.set_cons_zero, List.set_cons_succ]
      refine wpAnyH_take (i := 7) (oi := ⟨some 24, _, _, _, _, _⟩) (v := undef) rfl (by kernel_rfl) (by kernel_rfl) (by kernel_rfl) (fun _ _ _ h => h) (Or.inr ⟨by kernel_rfl, rfl⟩) (by assumption) ?_
      try simp only [Act.put, List.setIfInBounds_toArray, List.set_cons_zero, List.set_cons_succ]
      refine wpAnyH_take (i := 8) (oi := ⟨some 25, _, _, _, _, _⟩) (v := undef) rfl (by kernel_rfl) (by kernel_rfl) (by kernel_rfl) (fun _ _ _ h => h) (Or.inr ⟨by kernel_rfl, rfl⟩) (by assumption) ?_
      try simp only [Act.put, List.setIfInBounds_toArray, List.set_cons_zero, List.set_cons_succ]
      refine wpAnyH_take (i := 9) (oi := ⟨some 26, _, _, _, _, _⟩) (v := undef) rfl (by kernel_rfl) (by kernel_rfl) (by kernel_rfl) (fun _ _ _ h => h) (Or.inr ⟨by kernel_rfl, rfl⟩) (by assumption) ?_
      try simp only [Act.put, List.setIfInBounds_toArray, List.set_cons_zero, List.set_cons_succ]
      refine wpAnyH_take (i := 10) (oi := ⟨some 27, _, _, _, _, _⟩) (v := undef) rfl (by kernel_rfl) (by kernel_rfl) (by kernel_rfl) (fun _ _ _ h => h) (Or.inr ⟨by kernel_rfl, rfl⟩) (by assumption) ?_
      try simp only [Act.put, List.setIfInBounds_toArray, List.set_cons_zero, List.set_cons_succ]
      refine wpAnyH_take (i := 11) (oi := ⟨some 28, _, _, _, _, _⟩) (v := undef) rfl (by kernel_rfl) (by kernel_rfl) (by kernel_rfl) (fun _ _ _ h => h) (Or.inr ⟨by kernel_rfl, rfl⟩) (by assumption) ?_
      try simp only [Act.put, List.setIfInBounds_toArray, List.set_cons_zero, List.set_cons_succ]
      refine wpAnyH_take (i := 12) (oi := ⟨some 29, _, _, _, _, _⟩) (v := undef) rfl (by kernel_rfl) (by kernel_rfl) (by kernel_rfl) (fun _ _ _ h => h) (Or.inr ⟨by kernel_rfl, rfl⟩) (by assumption) ?_
      try simp only [Act.put, List.setIfInBounds_toArray, List.set_cons_zero, List.set_cons_succ]
      refine wpAnyH_take (i := 13) (oi := ⟨some 30, _, _, _, _, _⟩) (v := undef) rfl (by kernel_rfl) (by kernel_rfl) (by kernel_rfl) (fun _ _ _ h => h) (Or.inr ⟨by kernel_rfl, rfl⟩) (by assumption) ?_
      try simp only [Act.put, List.setIfInBounds_toArray, List.set_cons_zero, List.set_cons_succ]
      refine wpAnyH_take (i := 14) (oi := ⟨some 31, _, _, _, _, _⟩) (v := undef) rfl (by kernel_rfl) (by kernel_rfl) (by kernel_rfl) (fun _ _ _ h => h) (Or.inr ⟨by kernel_rfl, rfl⟩) (by assumption) ?_
      try simp only [Act.put, List.setIfInBounds_toArray, List.set_cons_zero, List.set_cons_succ]
      refine wpAnyH_take (i := 15) (oi := ⟨some 32, _, _, _, _, _⟩) (v := undef) rfl (by kernel_rfl) (by kernel_rfl) (by kernel_rfl) (fun _ _ _ h => h) (Or.inr ⟨by kernel_rfl, rfl⟩) (by assumption) ?_
      try simp only [Act.put, List.setIfInBounds_toArray, List.set_cons_zero, List.set_cons_succ]
      refine wpAnyH_take (i := 16) (oi := ⟨some 33, _, _, _, _, _⟩) (v := undef) rfl (by kernel_rfl) (by kernel_rfl) (by kernel_rfl) (fun _ _ _ h => h) (Or.inr ⟨by kernel_rfl, rfl⟩) (by assumption) ?_
      try simp only [Act.put, List.setIfInBounds_toArray, List.set_cons_zero, List.set_cons_succ]
      refine wpAnyH_take (i := 17) (oi := ⟨some 34, _, _, _, _, _⟩) (v := undef) rfl (by kernel_rfl) (by kernel_rfl) (by kernel_rfl) (fun _ _ _ h => h) (Or.inr ⟨by kernel_rfl, rfl⟩) (by assumption) ?_
      try simp only [Act.put, List.setIfInBounds_toArray, List.set_cons_zero, List.set_cons_succ]
      refine wpAnyH_take (i := 18) (oi := ⟨some 35, _, _, _, _, _⟩) (v := undef) rfl (by kernel_rfl) (by kernel_rfl) (by kernel_rfl) (fun _ _ _ h => h) (Or.inr ⟨by kernel_rfl, rfl⟩) (by assumption) ?_
      try simp only [Act.put, List.setIfInBounds_toArray, List.set_cons_zero, List.set_cons_succ]
      refine wpAnyH_take (i := 19) (oi := ⟨some 36, _, _, _, _, _⟩) (v := ?_) rfl (by kernel_rfl) (by kernel_rfl) (by kernel_rfl) (fun _ _ _ h => h) (Or.inl ⟨by kernel_rfl, ?_⟩) (by assumption) ?_
      rotate_left
      · (intro w hSw; (try dsimp only at hSw); go_simp; (try with_reducible rfl))
      try simp only [Act.put, List.setIfInBounds_toArray, List.set_cons_zero, List.set_cons_succ]
      refine wpAnyH_done (by kernel_rfl) ?_ _
      have HR3 := Lib.hid HR.out.drew
      have HF3 := Lib.hid ((KeepsOthers.drew W2).from (w.heap.size + 6))
      generalize W2.drew = W3 at *
      clear HR
      obtain ⟨L, hL, hlo, hhi⟩ := HPat.out.find P.y
      rw [HMl.out] at hL
      have HLo := Lib.hid hlo
      have HHi := Lib.hid hhi
      have HSe := Lib.hid (search_rd HR3.out HMl.out hin hb hy (by omega) hL hlo hhi)
      have hct := HR3.out.cs.2.2.2.1
      have hmi : (m : Int) < 1000 := by omega
      clear hlo hhi
      rcases Nat.lt_or_ge L m with hLm | hLm
      · have hne : ((L : Int) == (m : Int)) = false := beq_eq_false_iff_ne.2 fun e => absurd (Int.ofNat.inj e) (Nat.ne_of_lt hLm)
        obtain ⟨g, rfl, _⟩ := own_at HR3.out.m.row (by rw [← HMl.out] at hLm; omega)
        gi_wp2_with (refine ⟨trivial, ?_⟩; gi_at_call 52; refine (callsIn_round HSe.out).mono ?_; rintro e w4 ⟨rfl, d, rfl⟩)
        have HR6 := Lib.hid (HR3.out.drewN d)
        have HF6 := Lib.hid (HF3.out.trans ((keeps_drewN W3 d).from _))
        have HNw := Lib.hid (set_new P.y (by rw [HMl.out]; exact hLm))
        have HT6 := HMl
        have hLm2 := hLm
        generalize W3.drewN d = W6 at *
        clear HR3 HF3 HSe hct
        have hfz6 := (own_has7 HR6.out.drew.m.row HT6.out hLm2).1
        obtain ⟨uL, hcL⟩ := (own_has7 HR6.out.drew.m.row HT6.out hLm2).2
        have hLi : (L : Int) < (m : Int) := Int.ofNat_lt.2 hLm2
        have HR7 := Lib.hid (HR6.out.drew.top HT6.out L P.y)
        refine wpIn_region_round (S := fun W' => (W'.cell? ⟨w.heap.size, 0, none⟩ = some (.slice (some ⟨b, o, none⟩) n c) ∧ W'.cell? ⟨w.heap.size + 4, 0, none⟩ = some (.slice (some ⟨g, 0, none⟩) m cT) ∧ W'.cell? ⟨z, 0, none⟩ = some (.int .i64 (i : Nat))) ∧ W'.cell? ⟨b, o + i * 3 + 1, none⟩ = some (.int .i64 P.y)) (by kernel_rfl) (by kernel_rfl) (by rintro ⟨_, _, h⟩; have h1 : Exit.outgrown = Exit.normal := h.1; cases h1) ⟨⟨(HR6.out.drew).cs.1, (HR6.out.drew).cs.2.2.2.1, (HR6.out.drew).cs.2.2.2.2⟩, (HR6.out.drew).old hb hy⟩ (fun hHeld1 => ?_)
        refine wpAnyH_take (i := 0) (oi := ⟨some 59, _, _, _, _, _⟩) (v := ?_) rfl (by kernel_rfl) (by kernel_rfl) (by kernel_rfl) (fun _ _ _ h => h) (Or.inl ⟨by kernel_rfl, ?_⟩) (by assumption) ?_
        rotate_left
        · (intro w hSw; (try dsimp only at hSw); go_simp; (try with_reducible rfl))
        try simp only [Act.put, List.setIfInBounds_toArray, List.set_cons_zero, List.set_cons_succ]
        refine wpAnyH_take (i := 1) (oi := ⟨some 60, _, _, _, _, _⟩) (v := ?_) rfl (by kernel_rfl) (by kernel_rfl) (by kernel_rfl) (fun _ _ _ h => h) (Or.inl ⟨by kernel_rfl, ?_⟩) (by assumption) ?_
        rotate_left
        · (intro w hSw; (try dsimp only at hSw); go_simp; (try with_reducible rfl))
        try simp only [Act.put, List.setIfInBounds_toArray, List.set_cons_zero, List.set_cons_succ]
        refine wpAnyH_take (i := 2) (oi := ⟨some 61, _, _, _, _, _⟩) (v := ?_) rfl (by kernel_rfl) (by kernel_rfl) (by kernel_rfl) (fun _ _ _ h => h) (Or.inl ⟨by kernel_rfl, ?_⟩) (by assumption) ?_
        rotate_left
        · (intro w hSw; (try dsimp only at hSw); go_simp; (try with_reducible rfl))
        try simp only [Act.put, List.setIfInBounds_toArray, List.set_cons_zero, List.set_cons_succ]
        refine wpAnyH_take (i := 3) (oi := ⟨some 62, _, _, _, _, _⟩) (v := ?_) rfl (by kernel_rfl) (by kernel_rfl) (by kernel_rfl) (fun _ _ _ h => h) (Or.inl ⟨by kernel_rfl, ?_⟩) (by assumption) ?_
        rotate_left
        · (intro w hSw; (try dsimp only at hSw); go_simp; (try with_reducible rfl))
        try simp only [Act.put, List.setIfInBounds_toArray, List.set_cons_zero, List.set_cons_succ]
        refine wpAnyH_take (i := 4) (oi := ⟨some 63, _, _, _, _, _⟩) (v := ?_) rfl (by kernel_rfl) (by kernel_rfl) (by kernel_rfl) (fun _ _ _ h => h) (Or.inl ⟨by kernel_rfl, ?_⟩) (by assumption) ?_
        rotate_left
        · (intro w hSw; (try dsimp only at hSw); go_simp; (try with_reducible rfl))
        try simp only [Act.put, List.setIfInBounds_toArray, List.set_cons_zero, List.set_cons_succ]
        refine wpAnyH_take (i := 5) (oi := ⟨some 64, _, _, _, _, _⟩) (v := ?_) rfl (by kernel_rfl) (by kernel_rfl) (by kernel_rfl) (fun _ _ _ h => h) (Or.inl ⟨by kernel_rfl, ?_⟩) (by assumption) ?_
        rotate_left
        · (intro w hSw; (try dsimp only at hSw); go_simp; (try with_reducible rfl))
        try simp only [Act.put, List.setIfInBounds_toArray, List.set_cons_zero, List.set_cons_succ]
        refine wpAnyH_take (i := 6) (oi := ⟨some 65, _, _, _, _, _⟩) (v := ?_) rfl (by kernel_rfl) (by kernel_rfl) (by kernel_rfl) (fun _ _ _ h => h) (Or.inl ⟨by kernel_rfl, ?_⟩) (by assumption) ?_
        rotate_left
        · (intro w hSw; (try dsimp only at hSw); go_simp; (try with_reducible rfl))
        try simp only [Act.put, List.setIfInBounds_toArray, List.set_cons_zero, List.set_cons_succ]
        refine wpAnyH_take (i := 7) (oi := ⟨some 66, _, _, _, _, _⟩) (v := ?_) rfl (by kernel_rfl) (by kernel_rfl) (by kernel_rfl) (fun _ _ _ h => h) (Or.inl ⟨by kernel_rfl, ?_⟩) (by assumption) ?_
        rotate_left
        · (intro w hSw; (try dsimp only at hSw); go_simp; (try with_reducible rfl))
        try simp only [Act.put, List.setIfInBounds_toArray, List.set_cons_zero, List.set_cons_succ]
        refine wpAnyH_ready (rs := [8]) (by kernel_rfl) (by simp) ?_
        refine AllReadyH.cons (o := ⟨none, _, _, _, _, _⟩) rfl (fun K hK => ?_) AllReadyH.nil
        go_simp
        refine hK.out _ _ ⟨⟨(HR7.out).cs.1, (HR7.out).cs.2.2.2.1, (HR7.out).cs.2.2.2.2⟩, (HR7.out).old hb hy⟩ (fun hHeld2 => ?_)
        clear hK K
        try simp only [Act.put, List.setIfInBounds_toArray, List.set_cons_zero, List.set_cons_succ]
        refine wpAnyH_done (by kernel_rfl) ?_ _
        have HR8 := Lib.hid (HR6.out.top HT6.out L P.y).drew
        have HF8 := Lib.hid (HF6.out.trans (((KeepsOthers.setCell W6 ⟨g, L, none⟩ (.int .i64 P.y)).trans (KeepsOthers.drew _)).from _))
        clear HR7 hHeld1 hHeld2 hfz6 hcL HR6 HF6
        generalize (W6.setCell ⟨g, L, none⟩ (.int .i64 P.y)).drew = W8 at *
        have hcb8 := HR8.out.cs.2.2.1
        have hci8 := HR8.out.cs.2.2.2.2
        have hcf8 := (HR8.out.m.bl.cell i).trans (fnC_get f hin)
        have hfz8 := HR8.out.m.bl.frozen i
        gi_wp2
        exact ⟨HF8.out.trans ((KeepsOthers.setCell _ _ _).from _), lay_new H2.out HQ.out HPat.out (by rw [HMl.out]; exact hml) HI.out HPe.out HNe.out (by rw [HMl.out]; exact hL) HLo.out HHi.out HNw.out.1 HNw.out.2.1 (by have h7 := HNw.out.2.2; have h8 := HMl.out; omega) (HR8.out.layer i L)⟩
      · obtain rfl : L = m := by omega
        have hown := HR3.out.m.row
        rw [HMl.out] at hown
        obtain ⟨i0, hi0, hz0, hz1, hz2⟩ := info_parts lint_info
        obtain ⟨mT, hmT⟩ : ∃ mT, L + 1 = mT := ⟨_, rfl⟩
        have hLm2 : L < mT := by omega
        have hmTb : (mT : Int) < 1001 := by omega
        have HmT := Lib.hid hmT
        clear hmT
        gi_wp2_with first
          | (refine ⟨trivial, ?_⟩; gi_at_call 52; refine (callsIn_round HSe.out).mono ?_; rintro e w4 ⟨rfl, d, rfl⟩; have HR4 := Lib.hid (HR3.out.drewN d); have HF4 := Lib.hid (HF3.out.trans ((keeps_drewN W3 d).from _)); have hown4 : (W3.drewN d).ownsRow _ _ _ _ _ _ := hown; generalize W3.drewN d = W4 at *; clear hown hct HR3 HF3 HSe; have hct := HR4.out.cs.2.2.2.1)
          | (gi_at_builtin; go_loud (refine wpListIn_append_own_at _ rfl _ _ 31 rfl (w.heap.size + 6) 3 i0 (.int .i64 0) 1 8 Try.underlying31 hi0 hz0 hz1 hz2 rfl (by decide) _ L (T.map (.int .i64)) rfl (hown4.alloc _) ⟨W4.heap.size, 0, none⟩ 1 1 [.int .i64 0] rfl rfl (cell_one_new _ _ _) (by simp [Value.oneCell']) (by unfold maxLen; omega) (by omega) (by have := HR4.out.m.bs.lt; rw [World.size_alloc]; omega) ?_; intro v5 W5 hown5 hg5 hnil5 hat5; rw [HmT.out] at hown5; obtain ⟨A5, cT, rfl, _, _, _, _, _⟩ := own_slice hown5; obtain ⟨g, rfl, _⟩ := own_at hown5 (by omega); have HG5 := Lib.hid hg5; have HAt5 := Lib.hid hat5; have HOwn5 := Lib.hid hown5; clear hg5 hnil5 hat5 hown5; have hb5 := (HR4.out.m.bt.alloc _).grew7 HG5.out (fun e => by have := (HR4.out.m.row.lt _ e.symm).1; omega); have hcb5 := hb5.cell 0; have hfb5 := hb5.frozen 0; clear hb5))
        have HR6 := Lib.hid (HR4.out.push HMl.out HmT.out HOwn5.out HG5.out HAt5.out)
        have HF6 := Lib.hid (HF4.out.trans ((HR4.out.pushed (v2 := .slice (some ⟨g, 0, none⟩) mT cT) HG5.out ⟨w.heap.size + 4, 0, none⟩).from _))
        clear HR4 HF4 HOwn5 HG5 HAt5 hct hi0 hz0 hz1 hz2 hcb5 hfb5
        generalize W5.setCell ⟨w.heap.size + 4, 0, none⟩ (.slice (some ⟨g, 0, none⟩) mT cT) = W6 at *
        have HNw := Lib.hid (push_new T P.y)
        rw [HMl.out] at HNw
        have HT6 : Hid ((T ++ [(0 : Int)]).length = mT) := Lib.hid (by rw [List.length_append, List.length_singleton, HMl.out]; exact HmT.out)
        have hfz6 := (own_has7 HR6.out.drew.m.row HT6.out hLm2).1
        obtain ⟨uL, hcL⟩ := (own_has7 HR6.out.drew.m.row HT6.out hLm2).2
        have hLi : (L : Int) < (mT : Int) := Int.ofNat_lt.2 hLm2
        have HR7 := Lib.hid (HR6.out.drew.top HT6.out L P.y)
        refine wpIn_region_round (S := fun W' => (W'.cell? ⟨w.heap.size, 0, none⟩ = some (.slice (some ⟨b, o, none⟩) n c) ∧ W'.cell? ⟨w.heap.size + 4, 0, none⟩ = some (.slice (some ⟨g, 0, none⟩) mT cT) ∧ W'.cell? ⟨z, 0, none⟩ = some (.int .i64 (i : Nat))) ∧ W'.cell? ⟨b, o + i * 3 + 1, none⟩ = some (.int .i64 P.y)) (by kernel_rfl) (by kernel_rfl) (by rintro ⟨_, _, h⟩; have h1 : Exit.outgrown = Exit.normal := h.1; cases h1) ⟨⟨(HR6.out.drew).cs.1, (HR6.out.drew).cs.2.2.2.1, (HR6.out.drew).cs.2.2.2.2⟩, (HR6.out.drew).old hb hy⟩ (fun hHeld1 => ?_)
        refine wpAnyH_take (i := 0) (oi := ⟨some 59, _, _, _, _, _⟩) (v := ?_) rfl (by kernel_rfl) (by kernel_rfl) (by kernel_rfl) (fun _ _ _ h => h) (Or.inl ⟨by kernel_rfl, ?_⟩) (by assumption) ?_
        rotate_left
        · (intro w hSw; (try dsimp only at hSw); go_simp; (try with_reducible rfl))
        try simp only [Act.put, List.setIfInBounds_toArray, List.set_cons_zero, List.set_cons_succ]
        refine wpAnyH_take (i := 1) (oi := ⟨some 60, _, _, _, _, _⟩) (v := ?_) rfl (by kernel_rfl) (by kernel_rfl) (by kernel_rfl) (fun _ _ _ h => h) (Or.inl ⟨by kernel_rfl, ?_⟩) (by assumption) ?_
        rotate_left
        · (intro w hSw; (try dsimp only at hSw); go_simp; (try with_reducible rfl))
        try simp only [Act.put, List.setIfInBounds_toArray, List.set_cons_zero, List.set_cons_succ]
        refine wpAnyH_take (i := 2) (oi := ⟨some 61, _, _, _, _, _⟩) (v := ?_) rfl (by kernel_rfl) (by kernel_rfl) (by kernel_rfl) (fun _ _ _ h => h) (Or.inl ⟨by kernel_rfl, ?_⟩) (by assumption) ?_
        rotate_left
        · (intro w hSw; (try dsimp only at hSw); go_simp; (try with_reducible rfl))
        try simp only [Act.put, List.setIfInBounds_toArray, List.set_cons_zero, List.set_cons_succ]
        refine wpAnyH_take (i := 3) (oi := ⟨some 62, _, _, _, _, _⟩) (v := ?_) rfl (by kernel_rfl) (by kernel_rfl) (by kernel_rfl) (fun _ _ _ h => h) (Or.inl ⟨by kernel_rfl, ?_⟩) (by assumption) ?_
        rotate_left
        · (intro w hSw; (try dsimp only at hSw); go_simp; (try with_reducible rfl))
        try simp only [Act.put, List.setIfInBounds_toArray, List.set_cons_zero, List.set_cons_succ]
        refine wpAnyH_take (i := 4) (oi := ⟨some 63, _, _, _, _, _⟩) (v := ?_) rfl (by kernel_rfl) (by kernel_rfl) (by kernel_rfl) (fun _ _ _ h => h) (Or.inl ⟨by kernel_rfl, ?_⟩) (by assumption) ?_
        rotate_left
        · (intro w hSw; (try dsimp only at hSw); go_simp; (try with_reducible rfl))
        try simp only [Act.put, List.setIfInBounds_toArray, List.set_cons_zero, List.set_cons_succ]
        refine wpAnyH_take (i := 5) (oi := ⟨some 64, _, _, _, _, _⟩) (v := ?_) rfl (by kernel_rfl) (by kernel_rfl) (by kernel_rfl) (fun _ _ _ h => h) (Or.inl ⟨by kernel_rfl, ?_⟩) (by assumption) ?_
        rotate_left
        · (intro w hSw; (try dsimp only at hSw); go_simp; (try with_reducible rfl))
        try simp only [Act.put, List.setIfInBounds_toArray, List.set_cons_zero, List.set_cons_succ]
        refine wpAnyH_take (i := 6) (oi := ⟨some 65, _, _, _, _, _⟩) (v := ?_) rfl (by kernel_rfl) (by kernel_rfl) (by kernel_rfl) (fun _ _ _ h => h) (Or.inl ⟨by kernel_rfl, ?_⟩) (by assumption) ?_
        rotate_left
        · (intro w hSw; (try dsimp only at hSw); go_simp; (try with_reducible rfl))
        try simp only [Act.put, List.setIfInBounds_toArray, List.set_cons_zero, List.set_cons_succ]
        refine wpAnyH_take (i := 7) (oi := ⟨some 66, _, _, _, _, _⟩) (v := ?_) rfl (by kernel_rfl) (by kernel_rfl) (by kernel_rfl) (fun _ _ _ h => h) (Or.inl ⟨by kernel_rfl, ?_⟩) (by assumption) ?_
        rotate_left
        · (intro w hSw; (try dsimp only at hSw); go_simp; (try with_reducible rfl))
        try simp only [Act.put, List.setIfInBounds_toArray, List.set_cons_zero, List.set_cons_succ]
        refine wpAnyH_ready (rs := [8]) (by kernel_rfl) (by simp) ?_
        refine AllReadyH.cons (o := ⟨none, _, _, _, _, _⟩) rfl (fun K hK => ?_) AllReadyH.nil
        go_simp
        refine hK.out _ _ ⟨⟨(HR7.out).cs.1, (HR7.out).cs.2.2.2.1, (HR7.out).cs.2.2.2.2⟩, (HR7.out).old hb hy⟩ (fun hHeld2 => ?_)
        clear hK K
        try simp only [Act.put, List.setIfInBounds_toArray, List.set_cons_zero, List.set_cons_succ]
        refine wpAnyH_done (by kernel_rfl) ?_ _
        have HR8 := Lib.hid (HR6.out.top HT6.out L P.y).drew
        have HF8 := Lib.hid (HF6.out.trans (((KeepsOthers.setCell W6 ⟨g, L, none⟩ (.int .i64 P.y)).trans (KeepsOthers.drew _)).from _))
        clear HR7 hHeld1 hHeld2 hfz6 hcL HR6 HF6
        generalize (W6.setCell ⟨g, L, none⟩ (.int .i64 P.y)).drew = W8 at *
        have hcb8 := HR8.out.cs.2.2.1
        have hci8 := HR8.out.cs.2.2.2.2
        have hcf8 := (HR8.out.m.bl.cell i).trans (fnC_get f hin)
        have hfz8 := HR8.out.m.bl.frozen i
        gi_wp2
        exact ⟨HF8.out.trans ((KeepsOthers.setCell _ _ _).from _), lay_new H2.out HQ.out HPat.out (by rw [HMl.out]; exact hml) HI.out HPe.out HNe.out (by rw [HMl.out]; exact hL) HLo.out HHi.out HNw.out.1 HNw.out.2.1 (by have h7 := HNw.out.2.2; have h8 := HMl.out; omega) (HR8.out.layer i L)⟩
  case done =>
    rintro D W hD ⟨⟨f, T, v, ⟨hP, _⟩, hM⟩, hbl⟩ hK
    have hcb := hM.bb.cell 0
    rw [Nat.sub_self, List.drop_zero] at hP
    have HLy := Lib.hid (hP.lay HOr.out)
    have HR := Lib.hid (hM.bl.owns (base := w.heap.size) (by omega) (by rw [fnC_length]; unfold maxLen; omega))
    rw [fnC_length] at HR
    clear hP
    gi_wp2
    refine ⟨by simp, .inl ⟨_, _, rfl, run_takeDeferred hK, ?_⟩⟩
    exact ⟨_, results_tmp rfl _ _ _, f, _, HLy.out, rfl, ownsRow_putObj HR.out _ hK rfl, hbl.trans (belowK_b (w := w) (Nat.le_refl _) W D _ _ (by omega) hK rfl rfl)⟩
end Go.Proofs.Ytpkclmfadlkbeaa
