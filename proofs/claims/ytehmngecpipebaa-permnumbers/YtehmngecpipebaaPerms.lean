/-
  Plain mathematics of permutations as lists of numbers, of no program. No condition but what each theorem names.
-/
namespace Go.Proofs.Ytehmngecpipebaa

/-- A list in which each number below its length occurs once. -/
structure PermL (p : List Nat) : Prop where
  nd : p.Nodup
  lt : ∀ x ∈ p, x < p.length

theorem PermL.perm {p : List Nat} (h : PermL p) : p.Perm (List.range p.length) := by
  refine (List.perm_ext_iff_of_nodup h.nd List.nodup_range).2 fun x => ?_
  rw [List.mem_range]
  refine ⟨h.lt x, fun hx => ?_⟩
  by_cases hm : x ∈ p
  · exact hm
  · have h1 : (x :: p).Nodup := List.nodup_cons.2 ⟨hm, h.nd⟩
    have h2 : (x :: p) ⊆ List.range p.length := fun y hy => by
      rw [List.mem_range]
      rcases List.mem_cons.1 hy with e | e
      · rw [e]; exact hx
      · exact h.lt y e
    have h3 := List.Nodup.length_le_of_subset h1 h2
    rw [List.length_cons, List.length_range] at h3
    omega
theorem PermL.mem {p : List Nat} (h : PermL p) {x : Nat} (hx : x < p.length) : x ∈ p := h.perm.mem_iff.2 (List.mem_range.2 hx)
theorem PermL.of_perm {p : List Nat} {n : Nat} (h : p.Perm (List.range n)) : PermL p := by
  have hl : p.length = n := by rw [h.length_eq, List.length_range]
  exact ⟨h.symm.nodup List.nodup_range, fun x hx => by rw [hl]; exact List.mem_range.1 (h.mem_iff.1 hx)⟩
theorem PermL.range (n : Nat) : PermL (List.range n) := .of_perm (.refl _)
theorem PermL.of_eq {p q : List Nat} (h : PermL p) (hq : q.Perm p) : PermL q := .of_perm (hq.trans h.perm)

/-- The same of a list of integers. -/
def isPerm (l : List Int) : Bool := decide (l.Nodup ∧ ∀ z ∈ l, 0 ≤ z ∧ z < (l.length : Int))
/-- Numbers that are not negative, as integers. -/
def ofN (p : List Nat) : List Int := p.map fun x : Nat => (x : Int)
theorem ofN_length (p : List Nat) : (ofN p).length = p.length := by simp [ofN]
theorem ofN_get (p : List Nat) (i : Nat) : (ofN p)[i]? = p[i]?.map fun x : Nat => (x : Int) := by simp [ofN]
theorem ofN_inj {p q : List Nat} (h : ofN p = ofN q) : p = q := by
  have := congrArg (List.map Int.toNat) h
  simpa [ofN, List.map_map, Function.comp_def] using this
theorem nodup_map {α β : Type} {f : α → β} (hf : ∀ a b, f a = f b → a = b) {l : List α} (h : l.Nodup) : (l.map f).Nodup := by
  rw [List.nodup_iff_pairwise_ne, List.pairwise_map]
  exact (List.nodup_iff_pairwise_ne.1 h).imp fun hne e => hne (hf _ _ e)
theorem nodup_map_on {α β : Type} {f : α → β} {l : List α} (hf : ∀ a ∈ l, ∀ b ∈ l, f a = f b → a = b) (h : l.Nodup) : (l.map f).Nodup := by
  rw [List.nodup_iff_pairwise_ne, List.pairwise_map]
  exact (List.nodup_iff_pairwise_ne.1 h).imp_of_mem fun ha hb hne e => hne (hf _ ha _ hb e)
theorem nodup_of_map {α β : Type} {f : α → β} {l : List α} (h : (l.map f).Nodup) : l.Nodup := by
  rw [List.nodup_iff_pairwise_ne, List.pairwise_map] at h
  exact List.nodup_iff_pairwise_ne.2 (h.imp fun hne e => hne (by rw [e]))

theorem isPerm_ofN {p : List Nat} (h : PermL p) : isPerm (ofN p) = true := by
  refine decide_eq_true ⟨nodup_map (fun a b e => by omega) h.nd, fun z hz => ?_⟩
  obtain ⟨x, hx, rfl⟩ := List.mem_map.1 hz
  have := h.lt x hx
  rw [ofN_length]
  omega
theorem isPerm_ex {l : List Int} (h : isPerm l = true) : ∃ p, PermL p ∧ l = ofN p := by
  obtain ⟨h1, h2⟩ := of_decide_eq_true h
  have e : l = ofN (l.map Int.toNat) := by
    unfold ofN
    rw [List.map_map]
    conv => lhs; rw [← List.map_id l]
    refine List.map_congr_left fun z hz => ?_
    have := h2 z hz
    simp only [id, Function.comp]
    omega
  refine ⟨l.map Int.toNat, ⟨?_, fun x hx => ?_⟩, e⟩
  · rw [e] at h1
    exact nodup_of_map h1
  · obtain ⟨z, hz, rfl⟩ := List.mem_map.1 hx
    have := h2 z hz
    rw [List.length_map]
    omega

/-- The answer of Check. -/
def chk (l : List Int) : Int := if 300 < l.length then 1 else if isPerm l then 0 else 4
theorem chk_zero {l : List Int} (h : chk l = 0) : l.length ≤ 300 ∧ ∃ p, PermL p ∧ l = ofN p := by
  unfold chk at h
  split at h
  · omega
  · split at h
    · exact ⟨by omega, isPerm_ex ‹_›⟩
    · omega
theorem chk_ofN {p : List Nat} (h : PermL p) (hn : p.length ≤ 300) : chk (ofN p) = 0 := by
  unfold chk
  rw [if_neg (by rw [ofN_length]; omega), isPerm_ofN h]
  rfl
theorem chk_small (l : List Int) : 0 ≤ chk l ∧ chk l ≤ 4 := by
  unfold chk
  split
  · omega
  · split <;> omega

/-- A number of a list. -/
def st (p : List Nat) (i : Nat) : Nat := p.getD i 0
theorem st_get {p : List Nat} {i : Nat} (h : i < p.length) : p[i]? = some (st p i) := by
  rw [List.getElem?_eq_getElem h]
  simp [st, h]
theorem st_of {p : List Nat} {i x : Nat} (h : p[i]? = some x) : st p i = x := by simp [st, List.getD_eq_getElem?_getD, h]
theorem st_mem {p : List Nat} {i : Nat} (h : i < p.length) : st p i ∈ p := List.mem_of_getElem? (st_get h)
theorem PermL.st_lt {p : List Nat} (h : PermL p) {i : Nat} (hi : i < p.length) : st p i < p.length := h.lt _ (st_mem hi)
theorem PermL.inj {p : List Nat} (h : PermL p) {i j : Nat} (hi : i < p.length) (hj : j < p.length) (e : st p i = st p j) : i = j := by
  have h1 := st_get hi
  have h2 := st_get hj
  rw [← e, ← h1] at h2
  exact ((List.getElem?_inj hj h.nd).1 h2).symm
theorem st_map {p : List Nat} {f : Nat → Nat} {i : Nat} (h : i < p.length) : st (p.map f) i = f (st p i) := st_of (by rw [List.getElem?_map, st_get h]; rfl)
theorem st_range {n i : Nat} (h : i < n) : st (List.range n) i = i := st_of (by rw [List.getElem?_range h])
theorem map_st (p : List Nat) : (List.range p.length).map (st p) = p := by
  apply List.ext_getElem?
  intro i
  rw [List.getElem?_map]
  by_cases h : i < p.length
  · rw [List.getElem?_range h, st_get h]; rfl
  · rw [List.getElem?_eq_none (by simpa using h), List.getElem?_eq_none (by omega)]; rfl
theorem st_ext {p q : List Nat} (hl : p.length = q.length) (h : ∀ i, i < p.length → st p i = st q i) : p = q := by
  apply List.ext_getElem?
  intro i
  by_cases hi : i < p.length
  · rw [st_get hi, st_get (hl ▸ hi), h i hi]
  · rw [List.getElem?_eq_none (by omega), List.getElem?_eq_none (by omega)]

/-- The inverse. -/
def invL (p : List Nat) : List Nat := (List.range p.length).map fun i => p.idxOf i
theorem invL_length (p : List Nat) : (invL p).length = p.length := by simp [invL]
theorem idx_lt {p : List Nat} (h : PermL p) {x : Nat} (hx : x < p.length) : p.idxOf x < p.length := List.idxOf_lt_length_iff.2 (h.mem hx)
theorem st_idx {p : List Nat} (h : PermL p) {x : Nat} (hx : x < p.length) : st p (p.idxOf x) = x := by
  have h1 := idx_lt h hx
  refine st_of ?_
  rw [List.getElem?_eq_getElem h1, List.getElem_idxOf]
theorem idx_st {p : List Nat} (h : PermL p) {i : Nat} (hi : i < p.length) : p.idxOf (st p i) = i := by
  have h1 := h.st_lt hi
  exact h.inj (idx_lt h h1) hi (st_idx h h1)
theorem st_inv {p : List Nat} {x : Nat} (hx : x < p.length) : st (invL p) x = p.idxOf x := by
  refine st_of ?_
  rw [invL, List.getElem?_map, List.getElem?_range hx]; rfl
theorem invL_perm {p : List Nat} (h : PermL p) : PermL (invL p) := by
  refine ⟨?_, fun x hx => ?_⟩
  · refine nodup_map_on (fun a ha b hb e => ?_) List.nodup_range
    rw [List.mem_range] at ha hb
    rw [← st_idx h ha, ← st_idx h hb, e]
  · obtain ⟨i, hi, rfl⟩ := List.mem_map.1 hx
    rw [invL_length]
    exact idx_lt h (List.mem_range.1 hi)

/-- One behind the other. -/
def thenL (p q : List Nat) : List Nat := p.map (st q)
theorem thenL_length (p q : List Nat) : (thenL p q).length = p.length := by simp [thenL]
theorem thenL_perm {p q : List Nat} (hp : PermL p) (hq : PermL q) (hl : p.length = q.length) : PermL (thenL p q) := by
  refine ⟨nodup_map_on (fun a ha b hb e => hq.inj (hl ▸ hp.lt a ha) (hl ▸ hp.lt b hb) e) hp.nd, fun x hx => ?_⟩
  obtain ⟨i, hi, rfl⟩ := List.mem_map.1 hx
  rw [thenL_length, hl]
  exact hq.st_lt (hl ▸ hp.lt i hi)
theorem then_assoc {p q r : List Nat} (hp : ∀ x ∈ p, x < q.length) : thenL (thenL p q) r = thenL p (thenL q r) := by
  unfold thenL
  rw [List.map_map]
  exact List.map_congr_left fun x hx => (st_map (hp x hx)).symm
theorem then_inv {p : List Nat} (h : PermL p) : thenL p (invL p) = List.range p.length := by
  refine st_ext (by rw [thenL_length, List.length_range]) fun i hi => ?_
  rw [thenL_length] at hi
  rw [st_range hi, thenL, st_map hi, st_inv (h.st_lt hi), idx_st h hi]
theorem inv_then {p : List Nat} (h : PermL p) : thenL (invL p) p = List.range p.length := by
  refine st_ext (by rw [thenL_length, invL_length, List.length_range]) fun i hi => ?_
  rw [thenL_length, invL_length] at hi
  rw [st_range hi, thenL, st_map (by rw [invL_length]; exact hi), st_inv hi, st_idx h hi]
theorem none_then (p : List Nat) : thenL (List.range p.length) p = p := map_st p

/-- Two places exchanged. -/
def exch (p : List Nat) (i k : Nat) : List Nat := (p.set i (st p k)).set k (st p i)
theorem exch_length (p : List Nat) (i k : Nat) : (exch p i k).length = p.length := by simp [exch]
theorem exch_perm {p : List Nat} {i k : Nat} (hi : i < p.length) (hk : k < p.length) : (exch p i k).Perm p := by
  have h := List.set_set_perm (as := p) hi hk
  have e1 : p[i] = st p i := by simp [st, hi]
  have e2 : p[k] = st p k := by simp [st, hk]
  rw [e1, e2] at h
  exact h
theorem exch_self (p : List Nat) (i : Nat) : exch p i i = p := by
  refine st_ext (exch_length _ _ _) fun j hj => ?_
  rw [exch_length] at hj
  refine st_of ?_
  unfold exch
  by_cases e : i = j
  · subst e
    rw [List.getElem?_set_self (by simpa using hj)]
  · rw [List.getElem?_set_ne e, List.getElem?_set_ne e, st_get hj]
end Go.Proofs.Ytehmngecpipebaa
