/-
  Plain mathematics of dominance: maximal points, layers, how many are dominated. Plain mathematics of sky's own way to the layers: the points from the end of the order, each layer's greatest Y kept. No condition but what each theorem names.
-/
import Derived.Test.YtpkclmfadlkbeaaJ09
namespace Go.Proofs.Ytpkclmfadlkbeaa
open Go.Sort

/-- The one point dominates the other. -/
def dom (a b : Pt3) : Bool := decide (b.x ≤ a.x) && decide (b.y ≤ a.y) && (decide (b.x < a.x) || decide (b.y < a.y))
theorem dom_iff {a b : Pt3} : dom a b = true ↔ b.x ≤ a.x ∧ b.y ≤ a.y ∧ (b.x < a.x ∨ b.y < a.y) := by simp [dom, and_assoc]
theorem dom_self (a : Pt3) : dom a a = false := by rw [Bool.eq_false_iff, ne_eq, dom_iff]; omega
theorem dom_trans {a b c : Pt3} (h1 : dom a b = true) (h2 : dom b c = true) : dom a c = true := by rw [dom_iff] at *; omega
/-- .. told of places. -/
def domP (ps : List Pt3) (i j : Nat) : Bool := dom (ptAt ps i) (ptAt ps j)
theorem domP_self (ps : List Pt3) (i : Nat) : domP ps i i = false := dom_self _
theorem domP_ne {ps : List Pt3} {i j : Nat} (h : domP ps i j = true) : i ≠ j := fun e => by subst e; rw [domP_self] at h; cases h

/-- Does any of the first m points dominate the one at place i? -/
def under (ps : List Pt3) (i m : Nat) : Bool := (ps.take m).any fun q => dom q (ptAt ps i)
theorem under_zero (ps : List Pt3) (i : Nat) : under ps i 0 = false := rfl
theorem under_step {ps : List Pt3} {m : Nat} {q : Pt3} (h : ps[m]? = some q) (i : Nat) : under ps i (m + 1) = (under ps i m || dom q (ptAt ps i)) := by
  unfold under
  rw [List.take_add_one, h, Option.toList_some, List.any_append]
  simp
/-- No point dominates the one at this place. -/
def freeP (ps : List Pt3) (i : Nat) : Bool := !under ps i ps.length
theorem freeP_iff {ps : List Pt3} {i : Nat} : freeP ps i = true ↔ ∀ k, k < ps.length → domP ps k i = false := by
  unfold freeP under
  rw [List.take_length, Bool.not_eq_true', List.any_eq_false]
  constructor
  · intro h k hk
    have := h _ (List.mem_of_getElem? (ptAt_get hk))
    unfold domP
    simpa using this
  · intro h q hq
    obtain ⟨k, hk⟩ := List.getElem?_of_mem hq
    have := h k (List.getElem?_eq_some_iff.1 hk).1
    unfold domP at this
    rw [ptAt_of hk] at this
    simp [this]
/-- The whole: a rectangle in which all points lie that may be. -/
def allR : Rc4 := ⟨-1048576, -1048576, 1048576, 1048576⟩
theorem ins_all {ps : List Pt3} (h : ptsF ps = 0) : insR ps allR = List.range ps.length := by
  unfold insR insTo
  refine List.filter_eq_self.2 fun i hi => ?_
  have := (ptsF_zero h).2 _ (List.mem_of_getElem? (ptAt_get (List.mem_range.1 hi)))
  unfold ptOk coOk at this
  unfold inR allR
  simp only [Bool.and_eq_true, decide_eq_true_eq] at this ⊢
  omega
/-- The maximal points, in the order by X, then by Y, then by place. -/
def skyL (ps : List Pt3) : List Nat := (ssort (ltP ps ltX) (List.range ps.length)).filter (freeP ps)
/-- How many of the first m points the one at place i dominates. -/
def undTo (ps : List Pt3) (i m : Nat) : Nat := (ps.take m).countP fun q => dom (ptAt ps i) q
def undN (ps : List Pt3) (i : Nat) : Nat := undTo ps i ps.length
theorem undTo_step {ps : List Pt3} {m : Nat} {q : Pt3} (h : ps[m]? = some q) (i : Nat) : undTo ps i (m + 1) = undTo ps i m + if dom (ptAt ps i) q = true then 1 else 0 := by
  unfold undTo
  rw [List.take_add_one, h, Option.toList_some, List.countP_append, List.countP_singleton]
theorem undTo_le (ps : List Pt3) (i m : Nat) : undTo ps i m ≤ m := by
  unfold undTo
  exact Nat.le_trans List.countP_le_length (by simp; omega)

/-! ### Layers -/
/-- What a function of places must be to tell the layers. -/
structure IsLay (ps : List Pt3) (L : Nat → Nat) : Prop where
  up : ∀ i k, i < ps.length → k < ps.length → domP ps k i = true → L k + 1 ≤ L i
  at_ : ∀ i, i < ps.length → L i = 0 ∨ ∃ k, k < ps.length ∧ domP ps k i = true ∧ L i = L k + 1
theorem lay_one {ps : List Pt3} {L M : Nat → Nat} (hv : ptsF ps = 0) (h1 : IsLay ps L) (h2 : IsLay ps M) : ∀ i, i < ps.length → L i = M i := by
  have hb : ∀ i, i < ps.length → (ptAt ps i).x + (ptAt ps i).y ≤ 2097152 := fun i hi => by
    have := (ptsF_zero hv).2 _ (List.mem_of_getElem? (ptAt_get hi))
    unfold ptOk coOk at this
    simp only [Bool.and_eq_true, decide_eq_true_eq] at this
    omega
  have aux : ∀ d i, i < ps.length → (2097152 - ((ptAt ps i).x + (ptAt ps i).y)).toNat ≤ d → L i = M i := by
    intro d
    induction d using Nat.strongRecOn with
    | _ d ih =>
      intro i hi hd
      have hk : ∀ k, k < ps.length → domP ps k i = true → L k = M k := fun k hk hdm => by
        have h3 := dom_iff.1 hdm
        have h4 := hb k hk
        have h5 := hb i hi
        exact ih _ (by omega) k hk (Nat.le_refl _)
      have hle : L i ≤ M i := by
        rcases h1.at_ i hi with e | ⟨k, hkn, hdm, e⟩
        · omega
        · have := h2.up i k hi hkn hdm
          have := hk k hkn hdm
          omega
      have hge : M i ≤ L i := by
        rcases h2.at_ i hi with e | ⟨k, hkn, hdm, e⟩
        · omega
        · have := h1.up i k hi hkn hdm
          have := hk k hkn hdm
          omega
      omega
  exact fun i hi => aux _ i hi (Nat.le_refl _)

/-- One value changed. -/
def updN (f : Nat → Nat) (i v : Nat) : Nat → Nat := fun k => if k = i then v else f k
theorem updN_at (f : Nat → Nat) (i v : Nat) : updN f i v i = v := if_pos rfl
theorem updN_far (f : Nat → Nat) {i k : Nat} (v : Nat) (h : k ≠ i) : updN f i v k = f k := if_neg h
theorem updN_updN (f : Nat → Nat) (i u v : Nat) : updN (updN f i u) i v = updN f i v := funext fun k => by
  unfold updN
  split <;> rfl
/-- The greatest layer of those of a list that dominate the one at place i, and one; 0 if there are none. -/
def mxL (ps : List Pt3) (f : Nat → Nat) (i : Nat) (ks : List Nat) : Nat := ks.foldl (fun v k => if domP ps k i = true ∧ v ≤ f k then f k + 1 else v) 0
theorem mxL_nil (ps : List Pt3) (f : Nat → Nat) (i : Nat) : mxL ps f i [] = 0 := rfl
theorem mxL_snoc (ps : List Pt3) (f : Nat → Nat) (i : Nat) (ks : List Nat) (k : Nat) : mxL ps f i (ks ++ [k]) = if domP ps k i = true ∧ mxL ps f i ks ≤ f k then f k + 1 else mxL ps f i ks := by
  unfold mxL
  rw [List.foldl_append]
  rfl
theorem snoc_ind {P : List Nat → Prop} (h0 : P []) (h1 : ∀ l x, P l → P (l ++ [x])) : ∀ l, P l := by
  intro l
  have aux : ∀ n (l : List Nat), l.length = n → P l := by
    intro n
    induction n with
    | zero => intro l hl; rw [List.eq_nil_of_length_eq_zero hl]; exact h0
    | succ n ih =>
      intro l hl
      have hne : l ≠ [] := fun e => by subst e; simp at hl
      rw [← List.dropLast_concat_getLast hne]
      exact h1 _ _ (ih _ (by simp; omega))
  exact aux _ l rfl
theorem mxL_up (ps : List Pt3) (f : Nat → Nat) (i : Nat) : ∀ (ks : List Nat) (k : Nat), k ∈ ks → domP ps k i = true → f k + 1 ≤ mxL ps f i ks := by
  refine snoc_ind (fun k h => by cases h) fun ks x ih k hk hd => ?_
  rw [mxL_snoc]
  rcases List.mem_append.1 hk with h | h
  · have := ih k h hd
    split
    · rename_i h2; omega
    · exact this
  · rw [List.mem_singleton] at h
    subst h
    split
    · exact Nat.le_refl _
    · rename_i h2
      have : ¬ mxL ps f i ks ≤ f k := fun e => h2 ⟨hd, e⟩
      omega
theorem mxL_at (ps : List Pt3) (f : Nat → Nat) (i : Nat) : ∀ ks : List Nat, mxL ps f i ks = 0 ∨ ∃ k, k ∈ ks ∧ domP ps k i = true ∧ mxL ps f i ks = f k + 1 := by
  refine snoc_ind (.inl rfl) fun ks x ih => ?_
  rw [mxL_snoc]
  split
  · rename_i h
    exact .inr ⟨x, by simp, h.1, rfl⟩
  · rcases ih with e | ⟨k, h1, h2, h3⟩
    · exact .inl e
    · exact .inr ⟨k, List.mem_append_left _ h1, h2, h3⟩
theorem mxL_congr {ps : List Pt3} {f g : Nat → Nat} {i : Nat} : ∀ {ks : List Nat}, (∀ k, k ∈ ks → domP ps k i = true → f k = g k) → mxL ps f i ks = mxL ps g i ks := by
  intro ks
  refine snoc_ind (P := fun ks => (∀ k, k ∈ ks → domP ps k i = true → f k = g k) → mxL ps f i ks = mxL ps g i ks) (fun _ => rfl) (fun ks x ih h => ?_) ks
  rw [mxL_snoc, mxL_snoc, ih fun k hk hd => h k (List.mem_append_left _ hk) hd]
  cases hd : domP ps x i with
  | false => simp
  | true => rw [h x (by simp) hd]
/-- The layers, one place after the other. -/
def layF (ps : List Pt3) (O : List Nat) (l : List Nat) : Nat → Nat := l.foldl (fun f i => updN f i (mxL ps f i O)) (fun _ => 0)
theorem layF_nil (ps : List Pt3) (O : List Nat) : layF ps O [] = fun _ => 0 := rfl
theorem layF_snoc (ps : List Pt3) (O l : List Nat) (i : Nat) : layF ps O (l ++ [i]) = updN (layF ps O l) i (mxL ps (layF ps O l) i O) := by
  unfold layF
  rw [List.foldl_append]
  rfl
/-- A list in which no later place dominates an earlier one. -/
def Falls (ps : List Pt3) (O : List Nat) : Prop := O.Pairwise fun i j => domP ps j i = false
theorem layF_fix {ps : List Pt3} {O : List Nat} (hO : Falls ps O) (hn : O.Nodup) : ∀ l r : List Nat, O = l ++ r → (∀ k, k ∉ l → layF ps O l k = 0) ∧ ∀ i, i ∈ l → layF ps O l i = mxL ps (layF ps O l) i O := by
  refine snoc_ind (fun r _ => ⟨fun _ _ => rfl, fun i h => by cases h⟩) fun l x ih r hr => ?_
  obtain ⟨h1, h2⟩ := ih (x :: r) (by rw [hr, List.append_assoc]; rfl)
  have hx : x ∉ l := fun h => by
    rw [hr, List.nodup_append] at hn
    have := (List.nodup_append.1 hn.1).2.2
    exact this x h x (by simp) rfl
  have hlast : ∀ j, j ∈ l → domP ps x j = false := fun j hj => by
    unfold Falls at hO
    rw [hr, List.pairwise_append] at hO
    exact (List.pairwise_append.1 hO.1).2.2 j hj x (by simp)
  rw [layF_snoc]
  refine ⟨fun k hk => ?_, fun i hi => ?_⟩
  · have : k ≠ x := fun e => hk (by rw [e]; simp)
    rw [updN_far _ _ this]
    exact h1 k fun e => hk (List.mem_append_left _ e)
  · rcases List.mem_append.1 hi with h | h
    · have hne : i ≠ x := fun e => hx (by rw [← e]; exact h)
      rw [updN_far _ _ hne, h2 i h]
      exact mxL_congr fun k _ hd => by
        rw [updN_far]
        intro e
        subst e
        rw [hlast i h] at hd
        cases hd
    · rw [List.mem_singleton] at h
      subst h
      rw [updN_at]
      exact mxL_congr fun k _ hd => by rw [updN_far _ _ (domP_ne hd)]
/-- .. they are the layers. -/
theorem layF_lay {ps : List Pt3} {O : List Nat} (hO : Falls ps O) (hp : O.Perm (List.range ps.length)) : IsLay ps (layF ps O O) := by
  obtain ⟨_, h2⟩ := layF_fix hO (hp.nodup_iff.2 List.nodup_range) O [] (by rw [List.append_nil])
  have hm : ∀ i, i ∈ O ↔ i < ps.length := fun i => hp.mem_iff.trans List.mem_range
  refine ⟨fun i k hi hk hd => ?_, fun i hi => ?_⟩
  · rw [h2 i ((hm i).2 hi)]
    exact mxL_up ps _ i O k ((hm k).2 hk) hd
  · rcases mxL_at ps (layF ps O O) i O with e | ⟨k, h3, h4, h5⟩
    · exact .inl ((h2 i ((hm i).2 hi)).trans e)
    · exact .inr ⟨k, (hm k).1 h3, h4, (h2 i ((hm i).2 hi)).trans h5⟩
end Go.Proofs.Ytpkclmfadlkbeaa

namespace Go.Proofs.Ytpkclmfadlkbeaa
open Go.Sort

/-- What is known when the places of a list are done (the last ones of the order): their layers, and each layer's greatest Y. -/
structure Pat (ps : List Pt3) (S : List Nat) (f : Nat → Nat) (T : List Int) : Prop where
  lt : ∀ i, i ∈ S → f i < T.length
  has : ∀ (v : Nat) (t : Int), T[v]? = some t → ∃ j, j ∈ S ∧ f j = v ∧ (ptAt ps j).y = t
  le : ∀ (j : Nat) (t : Int), j ∈ S → T[f j]? = some t → (ptAt ps j).y ≤ t
  falls : ∀ (a b : Nat) (s t : Int), a ≤ b → T[a]? = some s → T[b]? = some t → t ≤ s
  up : ∀ i k, i ∈ S → k ∈ S → domP ps k i = true → f k + 1 ≤ f i
  at_ : ∀ i, i ∈ S → f i = 0 ∨ ∃ k, k ∈ S ∧ domP ps k i = true ∧ f i = f k + 1
  out : ∀ i, i ∉ S → f i = 0
theorem Pat.start (ps : List Pt3) : Pat ps [] (fun _ => 0) [] where
  lt := fun i h => by cases h
  has := fun v t h => by simp at h
  le := fun j t h => by cases h
  falls := fun a b s t _ h => by simp at h
  up := fun i k h => by cases h
  at_ := fun i h => by cases h
  out := fun _ _ => rfl
/-- In the order the one does not come behind the other. -/
def Ahead (ps : List Pt3) (i j : Nat) : Prop := ltP ps ltX j i = false
theorem Ahead.iff {ps : List Pt3} {i j : Nat} : Ahead ps i j ↔ (ptAt ps i).x < (ptAt ps j).x ∨ ((ptAt ps i).x = (ptAt ps j).x ∧ (ptAt ps i).y ≤ (ptAt ps j).y) := by
  unfold Ahead ltP
  rw [Bool.eq_false_iff, ne_eq, ltX_iff]
  omega
/-- A point at the very place of the one that came last. -/
theorem Pat.same {ps : List Pt3} {S : List Nat} {f : Nat → Nat} {T : List Int} {i j : Nat} (h : Pat ps S f T) (hj : j ∈ S) (hi : i ∉ S) (hx : (ptAt ps i).x = (ptAt ps j).x) (hy : (ptAt ps i).y = (ptAt ps j).y) :
    Pat ps (i :: S) (updN f i (f j)) T := by
  have hne : ∀ k, k ∈ S → k ≠ i := fun k hk e => hi (e ▸ hk)
  have hd1 : ∀ k, domP ps k i = domP ps k j := fun k => by
    unfold domP
    rw [Bool.eq_iff_iff, dom_iff, dom_iff, hx, hy]
  have hd2 : ∀ k, domP ps i k = domP ps j k := fun k => by
    unfold domP
    rw [Bool.eq_iff_iff, dom_iff, dom_iff, hx, hy]
  refine ⟨fun k hk => ?_, fun v t hv => ?_, fun k t hk ht => ?_, h.falls, fun a b ha hb hd => ?_, fun a ha => ?_, fun a ha => ?_⟩
  · replace hk := List.mem_cons.1 hk
    rcases hk with rfl | hk
    · rw [updN_at]; exact h.lt j hj
    · rw [updN_far _ _ (hne k hk)]; exact h.lt k hk
  · obtain ⟨k, h1, h2, h3⟩ := h.has v t hv
    exact ⟨k, List.mem_cons_of_mem _ h1, by rw [updN_far _ _ (hne k h1)]; exact h2, h3⟩
  · replace hk := List.mem_cons.1 hk
    rcases hk with rfl | hk
    · rw [updN_at] at ht; rw [hy]; exact h.le j t hj ht
    · rw [updN_far _ _ (hne k hk)] at ht; exact h.le k t hk ht
  · replace ha := List.mem_cons.1 ha
    rcases ha with rfl | ha
    · rw [updN_at]
      replace hb := List.mem_cons.1 hb
      rcases hb with rfl | hb
      · rw [domP_self] at hd; cases hd
      · rw [updN_far _ _ (hne b hb)]
        rw [hd1] at hd
        exact h.up j b hj hb hd
    · rw [updN_far _ _ (hne a ha)]
      replace hb := List.mem_cons.1 hb
      rcases hb with rfl | hb
      · rw [updN_at]
        rw [hd2] at hd
        exact h.up a j ha hj hd
      · rw [updN_far _ _ (hne b hb)]
        exact h.up a b ha hb hd
  · have key : ∀ a, a ∈ S → f a = 0 ∨ ∃ k, k ∈ i :: S ∧ domP ps k a = true ∧ f a = updN f i (f j) k + 1 := fun a ha => by
      rcases h.at_ a ha with e | ⟨k, h1, h2, h3⟩
      · exact .inl e
      · exact .inr ⟨k, List.mem_cons_of_mem _ h1, h2, by rw [updN_far _ _ (hne k h1)]; exact h3⟩
    replace ha := List.mem_cons.1 ha
    rcases ha with rfl | ha
    · rw [updN_at]
      rcases key j hj with e | ⟨k, h1, h2, h3⟩
      · exact .inl e
      · exact .inr ⟨k, h1, by rw [hd1]; exact h2, h3⟩
    · have := key a ha
      rwa [← updN_far f (f j) (hne a ha)] at this
  · rw [updN_far _ _ fun e => ha (by rw [e]; simp)]
    exact h.out a fun e => ha (List.mem_cons_of_mem _ e)
/-- A point at a place of its own. -/
theorem Pat.new {ps : List Pt3} {S : List Nat} {f : Nat → Nat} {T T' : List Int} {i L : Nat} (h : Pat ps S f T) (hi : i ∉ S) (hs : ∀ j, j ∈ S → Ahead ps i j)
    (hne0 : ∀ j, j ∈ S → ¬ ((ptAt ps i).x = (ptAt ps j).x ∧ (ptAt ps i).y = (ptAt ps j).y))
    (hL : L ≤ T.length) (hlo : ∀ (v : Nat) (t : Int), v < L → T[v]? = some t → (ptAt ps i).y ≤ t) (hhi : ∀ (v : Nat) (t : Int), L ≤ v → T[v]? = some t → t < (ptAt ps i).y)
    (h1 : T'[L]? = some (ptAt ps i).y) (h2 : ∀ v, v ≠ L → T'[v]? = T[v]?) : Pat ps (i :: S) (updN f i L) T' := by
  have hne : ∀ k, k ∈ S → k ≠ i := fun k hk e => hi (e ▸ hk)
  have hlen : ∀ v, v < T.length → v < T'.length := fun v hv => by
    rcases Nat.lt_or_ge v T'.length with e | e
    · exact e
    · have h3 := List.getElem?_eq_none e
      by_cases e2 : v = L
      · subst e2; rw [h3] at h1; cases h1
      · rw [h2 v e2, List.getElem?_eq_getElem hv] at h3; cases h3
  have hyes : ∀ k, k ∈ S → (domP ps k i = true ↔ (ptAt ps i).y ≤ (ptAt ps k).y) := fun k hk => by
    have h3 := Ahead.iff.1 (hs k hk)
    have h4 := hne0 k hk
    unfold domP
    rw [dom_iff]
    omega
  have hno : ∀ k, k ∈ S → domP ps i k = false := fun k hk => by
    have h3 := Ahead.iff.1 (hs k hk)
    unfold domP
    rw [Bool.eq_false_iff, ne_eq, dom_iff]
    omega
  refine ⟨fun k hk => ?_, fun v t hv => ?_, fun k t hk ht => ?_, fun a b s t hab ha hb => ?_, fun a b ha hb hd => ?_, fun a ha => ?_, fun a ha => ?_⟩
  · replace hk := List.mem_cons.1 hk
    rcases hk with rfl | hk
    · rw [updN_at]; exact (List.getElem?_eq_some_iff.1 h1).1
    · rw [updN_far _ _ (hne k hk)]; exact hlen _ (h.lt k hk)
  · by_cases e : v = L
    · subst e
      rw [h1] at hv
      cases hv
      exact ⟨i, by simp, updN_at _ _ _, rfl⟩
    · rw [h2 v e] at hv
      obtain ⟨k, h3, h4, h5⟩ := h.has v t hv
      exact ⟨k, List.mem_cons_of_mem _ h3, by rw [updN_far _ _ (hne k h3)]; exact h4, h5⟩
  · replace hk := List.mem_cons.1 hk
    rcases hk with rfl | hk
    · rw [updN_at, h1] at ht
      cases ht
      exact Int.le_refl _
    · rw [updN_far _ _ (hne k hk)] at ht
      by_cases e : f k = L
      · rw [e, h1] at ht
        cases ht
        have h3 := h.lt k hk
        have h4 := hhi (f k) _ (by omega) (List.getElem?_eq_getElem h3)
        have h5 := h.le k _ hk (List.getElem?_eq_getElem h3)
        omega
      · rw [h2 _ e] at ht
        exact h.le k t hk ht
  · by_cases ea : a = L
    · subst ea
      rw [h1] at ha
      cases ha
      by_cases eb : b = a
      · subst eb
        rw [h1] at hb
        cases hb
        exact Int.le_refl _
      · rw [h2 b eb] at hb
        have := hhi b t hab hb
        omega
    · rw [h2 a ea] at ha
      by_cases eb : b = L
      · subst eb
        rw [h1] at hb
        cases hb
        exact hlo a s (by omega) ha
      · rw [h2 b eb] at hb
        exact h.falls a b s t hab ha hb
  · replace ha := List.mem_cons.1 ha
    rcases ha with rfl | ha
    · rw [updN_at]
      replace hb := List.mem_cons.1 hb
      rcases hb with rfl | hb
      · rw [domP_self] at hd; cases hd
      · rw [updN_far _ _ (hne b hb)]
        have h3 := h.lt b hb
        have h4 := h.le b _ hb (List.getElem?_eq_getElem h3)
        have h5 := (hyes b hb).1 hd
        rcases Nat.lt_or_ge (f b) L with e | e
        · exact e
        · have := hhi (f b) _ e (List.getElem?_eq_getElem h3)
          omega
    · replace hb := List.mem_cons.1 hb
      rcases hb with rfl | hb
      · rw [hno a ha] at hd; cases hd
      · rw [updN_far _ _ (hne a ha), updN_far _ _ (hne b hb)]
        exact h.up a b ha hb hd
  · replace ha := List.mem_cons.1 ha
    rcases ha with rfl | ha
    · rw [updN_at]
      cases L with
      | zero => exact .inl rfl
      | succ L =>
        have h3 : L < T.length := by omega
        obtain ⟨k, h4, h5, h6⟩ := h.has L _ (List.getElem?_eq_getElem h3)
        have h7 := hlo L _ (by omega) (List.getElem?_eq_getElem h3)
        exact .inr ⟨k, List.mem_cons_of_mem _ h4, (hyes k h4).2 (by omega), by rw [updN_far _ _ (hne k h4), h5]⟩
    · rw [updN_far _ _ (hne a ha)]
      rcases h.at_ a ha with e | ⟨k, h3, h4, h5⟩
      · exact .inl e
      · exact .inr ⟨k, List.mem_cons_of_mem _ h3, h4, by rw [updN_far _ _ (hne k h3)]; exact h5⟩
  · rw [updN_far _ _ fun e => ha (by rw [e]; simp)]
    exact h.out a fun e => ha (List.mem_cons_of_mem _ e)
/-- Where a Y falls among the layers' greatest ones. -/
theorem Pat.find {ps : List Pt3} {S : List Nat} {f : Nat → Nat} {T : List Int} (h : Pat ps S f T) (y : Int) :
    ∃ L, L ≤ T.length ∧ (∀ (v : Nat) (t : Int), v < L → T[v]? = some t → y ≤ t) ∧ ∀ (v : Nat) (t : Int), L ≤ v → T[v]? = some t → t < y := by
  have aux : ∀ n, n ≤ T.length → ∃ L, L ≤ n ∧ (∀ (v : Nat) (t : Int), v < L → T[v]? = some t → y ≤ t) ∧ ∀ (v : Nat) (t : Int), L ≤ v → v < n → T[v]? = some t → t < y := by
    intro n
    induction n with
    | zero => intro _; exact ⟨0, Nat.le_refl _, fun v t hv => by omega, fun v t _ hv => by omega⟩
    | succ n ih =>
      intro hn
      obtain ⟨L, h1, h2, h3⟩ := ih (by omega)
      have hg : T[n]? = some T[n] := List.getElem?_eq_getElem (by omega)
      by_cases e : L = n ∧ y ≤ T[n]
      · obtain ⟨rfl, e2⟩ := e
        refine ⟨L + 1, Nat.le_refl _, fun v t hv ht => ?_, fun v t hv hv2 => by omega⟩
        by_cases e3 : v = L
        · subst e3
          rw [hg] at ht
          cases ht
          exact e2
        · exact h2 v t (by omega) ht
      · refine ⟨L, by omega, h2, fun v t hv hv2 ht => ?_⟩
        by_cases e3 : v = n
        · subst e3
          rw [hg] at ht
          cases ht
          rcases Nat.lt_or_ge L v with e4 | e4
          · have h4 : T[L]? = some T[L] := List.getElem?_eq_getElem (by omega)
            have := h3 L _ (Nat.le_refl _) e4 h4
            have := h.falls L v _ _ hv h4 hg
            omega
          · have : ¬ y ≤ T[v] := fun e5 => e ⟨by omega, e5⟩
            omega
        · exact h3 v t hv (by omega) ht
  obtain ⟨L, h1, h2, h3⟩ := aux _ (Nat.le_refl _)
  exact ⟨L, h1, h2, fun v t hv ht => h3 v t hv (List.getElem?_eq_some_iff.1 ht).1 ht⟩
/-- When all are done: the layers. -/
theorem Pat.lay {ps : List Pt3} {O : List Nat} {f : Nat → Nat} {T : List Int} (h : Pat ps O f T) (hO : ∀ i, i ∈ O ↔ i < ps.length) : IsLay ps f :=
  ⟨fun i k hi hk hd => h.up i k ((hO i).2 hi) ((hO k).2 hk) hd, fun i hi => (h.at_ i ((hO i).2 hi)).imp_right fun ⟨k, h1, h2⟩ => ⟨k, (hO k).1 h1, h2⟩⟩
/-- The free ones are those of layer 0. -/
theorem IsLay.free {ps : List Pt3} {f : Nat → Nat} (h : IsLay ps f) {i : Nat} (hi : i < ps.length) : freeP ps i = decide (f i = 0) := by
  rw [Bool.eq_iff_iff, decide_eq_true_iff, freeP_iff]
  constructor
  · intro hf
    rcases h.at_ i hi with e | ⟨k, h1, h2, _⟩
    · exact e
    · rw [hf k h1] at h2; cases h2
  · intro h0 k hk
    rw [Bool.eq_false_iff]
    intro hd
    have := h.up i k hi hk hd
    omega

/-! ### The order -/
/-- The order by X, then by Y, then by place. -/
def ordX (ps : List Pt3) : List Nat := ssort (ltP ps ltX) (List.range ps.length)
theorem ordX_length (ps : List Pt3) : (ordX ps).length = ps.length := by unfold ordX; rw [ssort_length, List.length_range]
theorem ordX_mem (ps : List Pt3) (i : Nat) : i ∈ ordX ps ↔ i < ps.length := (ssort_perm _ _).mem_iff.trans List.mem_range
theorem ordX_nodup (ps : List Pt3) : (ordX ps).Nodup := (ssort_perm _ _).nodup_iff.2 List.nodup_range
theorem ordX_ahead (ps : List Pt3) : (ordX ps).Pairwise (Ahead ps) := ssort_sorted (ltP_swo ltX_swo) _
/-- One round: what is known of the places that are done, and of the next one. -/
theorem ordX_round {ps : List Pt3} {m i : Nat} (hi : (ordX ps)[m]? = some i) :
    (ordX ps).drop m = i :: (ordX ps).drop (m + 1) ∧ i ∉ (ordX ps).drop (m + 1) ∧ ∀ j, j ∈ (ordX ps).drop (m + 1) → Ahead ps i j := by
  obtain ⟨hm, rfl⟩ := List.getElem?_eq_some_iff.1 hi
  have h1 := List.drop_eq_getElem_cons hm
  have h2 := ordX_nodup ps
  have h3 := ordX_ahead ps
  rw [← List.take_append_drop m (ordX ps), h1] at h2 h3
  exact ⟨h1, (List.nodup_cons.1 (List.nodup_append.1 h2).2.1).1, (List.pairwise_cons.1 (List.pairwise_append.1 h3).2.1).1⟩
/-- .. if the one before it stands elsewhere, all do. -/
theorem ordX_else {ps : List Pt3} {m i j : Nat} (hi : (ordX ps)[m]? = some i) (hj : (ordX ps)[m + 1]? = some j) (hne : ¬ ((ptAt ps i).x = (ptAt ps j).x ∧ (ptAt ps i).y = (ptAt ps j).y)) :
    ∀ k, k ∈ (ordX ps).drop (m + 1) → ¬ ((ptAt ps i).x = (ptAt ps k).x ∧ (ptAt ps i).y = (ptAt ps k).y) := by
  intro k hk
  obtain ⟨h1, _, h3⟩ := ordX_round hj
  have h4 := Ahead.iff.1 ((ordX_round hi).2.2 j (by rw [h1]; simp))
  rw [h1] at hk
  replace hk := List.mem_cons.1 hk
  rcases hk with rfl | hk
  · exact hne
  · have h5 := Ahead.iff.1 (h3 k hk)
    omega
theorem ordX_last {ps : List Pt3} {m : Nat} (h : ps.length ≤ m) : (ordX ps).drop m = [] := List.drop_eq_nil_of_le (by rw [ordX_length]; exact h)

/-! ### How many are under a point, told by two counts -/
theorem und_two {ps : List Pt3} (hv : ptsF ps = 0) (i : Nat) :
    (insR ps ⟨-1048576, -1048576, (ptAt ps i).x, (ptAt ps i).y⟩).length = undN ps i + (insR ps ⟨(ptAt ps i).x, (ptAt ps i).y, (ptAt ps i).x, (ptAt ps i).y⟩).length := by
  have hr : undN ps i = (List.range ps.length).countP fun k => domP ps i k := by
    have key : ∀ m, m ≤ ps.length → undTo ps i m = (List.range m).countP fun k => domP ps i k := by
      intro m
      induction m with
      | zero => intro _; rfl
      | succ m ih =>
        intro hm
        rw [undTo_step (ptAt_get (ps := ps) (i := m) (by omega)), ih (by omega), List.range_succ, List.countP_append, List.countP_singleton]
        rfl
    exact key _ (Nat.le_refl _)
  unfold insR insTo
  rw [← List.countP_eq_length_filter, ← List.countP_eq_length_filter, hr]
  refine countP_part fun k hk => ?_
  have h1 := (ptsF_zero hv).2 _ (List.mem_of_getElem? (ptAt_get (List.mem_range.1 hk)))
  unfold ptOk coOk at h1
  unfold domP
  generalize ptAt ps i = p at *
  generalize ptAt ps k = q at *
  have hA : ∀ a b c d : Int, inR ⟨a, b, c, d⟩ q = true ↔ (a ≤ q.x ∧ q.x ≤ c) ∧ b ≤ q.y ∧ q.y ≤ d := fun a b c d => by
    unfold inR
    simp only [Bool.and_eq_true, decide_eq_true_eq, and_assoc]
  have hB := hA (-1048576) (-1048576) p.x p.y
  have hC := hA p.x p.y p.x p.y
  have hD := dom_iff (a := p) (b := q)
  simp only [Bool.and_eq_true, decide_eq_true_eq] at h1
  cases e1 : dom p q <;> cases e2 : inR ⟨p.x, p.y, p.x, p.y⟩ q <;> cases e3 : inR ⟨-1048576, -1048576, p.x, p.y⟩ q <;> rw [e3] at hB <;> rw [e2] at hC <;> rw [e1] at hD <;> simp only [Bool.false_eq_true, true_iff, false_iff] at hB hC hD <;> first | omega | simp
end Go.Proofs.Ytpkclmfadlkbeaa
