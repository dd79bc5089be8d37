/-
  Plain mathematics: the cycles of a permutation. No condition but what each theorem names.
-/
import Derived.Test.YtehmngecpipebaaPermSg
namespace Go.Proofs.Ytehmngecpipebaa

/-- k steps from i. -/
def it (p : List Nat) : Nat → Nat → Nat
  | 0, i => i
  | k + 1, i => st p (it p k i)
theorem it_add (p : List Nat) (i : Nat) (a : Nat) : ∀ b, it p (a + b) i = it p b (it p a i)
  | 0 => rfl
  | b + 1 => by
    show st p (it p (a + b) i) = st p (it p b (it p a i))
    rw [it_add p i a b]
theorem it_one (p : List Nat) (i k : Nat) : it p (k + 1) i = it p k (st p i) := by
  rw [Nat.add_comm, it_add]; rfl
section
variable {p : List Nat} (h : PermL p)
include h
theorem it_lt {i : Nat} (hi : i < p.length) : ∀ k, it p k i < p.length
  | 0 => hi
  | k + 1 => h.st_lt (it_lt hi k)
theorem it_inj {i j : Nat} (hi : i < p.length) (hj : j < p.length) : ∀ k, it p k i = it p k j → i = j
  | 0, e => e
  | k + 1, e => it_inj hi hj k (h.inj (it_lt h hi k) (it_lt h hj k) e)
theorem it_back {i : Nat} (hi : i < p.length) {a b : Nat} (hab : a ≤ b) (e : it p b i = it p a i) : it p (b - a) i = i := by
  have h1 : it p b i = it p a (it p (b - a) i) := by rw [← it_add, show b - a + a = b by omega]
  rw [h1] at e
  exact it_inj h (it_lt h hi _) hi a e
/-- It comes back after at most as many steps as there are numbers. -/
theorem it_returns {i : Nat} (hi : i < p.length) : ∃ k, k < p.length ∧ it p (k + 1) i = i := by
  by_cases hex : ∃ k, k < p.length ∧ it p (k + 1) i = i
  · exact hex
  · have hnd : ((List.range (p.length + 1)).map fun k => it p k i).Nodup := by
      rw [List.nodup_iff_pairwise_ne, List.pairwise_map]
      refine List.pairwise_lt_range.imp_of_mem fun {a b} ha hb hab e => hex ?_
      rw [List.mem_range] at ha hb
      refine ⟨b - a - 1, by omega, ?_⟩
      rw [show b - a - 1 + 1 = b - a by omega]
      exact it_back h hi (Nat.le_of_lt hab) e.symm
    have hsub : ((List.range (p.length + 1)).map fun k => it p k i) ⊆ List.range p.length := fun x hx => by
      obtain ⟨k, _, rfl⟩ := List.mem_map.1 hx
      exact List.mem_range.2 (it_lt h hi k)
    have := List.Nodup.length_le_of_subset hnd hsub
    rw [List.length_map, List.length_range, List.length_range] at this
    omega
end

/-- The length of a cycle. -/
def per (p : List Nat) (i : Nat) : Nat := (List.range p.length).findIdx (fun k => it p (k + 1) i == i) + 1
theorem per_pos (p : List Nat) (i : Nat) : 0 < per p i := Nat.succ_pos _
theorem it_before {p : List Nat} {i k : Nat} (hk : k + 1 < per p i) : it p (k + 1) i ≠ i := fun e => by
  unfold per at hk
  have := List.not_of_lt_findIdx (xs := List.range p.length) (p := fun k => it p (k + 1) i == i) (i := k) (by omega)
  simp [e] at this
section
variable {p : List Nat} (h : PermL p)
include h
theorem per_le {i : Nat} (hi : i < p.length) : per p i ≤ p.length := by
  obtain ⟨k, hk, e⟩ := it_returns h hi
  have := List.findIdx_lt_length_of_exists (xs := List.range p.length) (p := fun k => it p (k + 1) i == i) ⟨k, List.mem_range.2 hk, by simpa using e⟩
  rw [List.length_range] at this
  unfold per
  omega
theorem it_per {i : Nat} (hi : i < p.length) : it p (per p i) i = i := by
  have h1 := per_le h hi
  unfold per at h1 ⊢
  have h2 := List.findIdx_getElem (xs := List.range p.length) (p := fun k => it p (k + 1) i == i) (w := by rw [List.length_range]; omega)
  simpa using h2
theorem it_differ {i : Nat} (hi : i < p.length) {a b : Nat} (hab : a < b) (hb : b < per p i) : it p a i ≠ it p b i := fun e => by
  have h1 := it_back h hi (Nat.le_of_lt hab) e.symm
  exact it_before (p := p) (i := i) (k := b - a - 1) (by omega) (by rw [show b - a - 1 + 1 = b - a by omega]; exact h1)
theorem it_wrap {i : Nat} (hi : i < p.length) : ∀ k, it p k i = it p (k % per p i) i := fun k => by
  induction k using Nat.strongRecOn with
  | _ k ih =>
    by_cases hk : k < per p i
    · rw [Nat.mod_eq_of_lt hk]
    · have h1 := ih (k - per p i) (by have := per_pos p i; omega)
      have h2 : it p k i = it p (k - per p i) i := by
        conv => lhs; rw [show k = per p i + (k - per p i) by omega, it_add, it_per h hi]
      rw [h2, h1, Nat.mod_eq_sub_mod (a := k) (by omega)]
end

/-- The cycle from i on. -/
def cyc (p : List Nat) (i : Nat) : List Nat := (List.range (per p i)).map fun k => it p k i
theorem cyc_length (p : List Nat) (i : Nat) : (cyc p i).length = per p i := by simp [cyc]
theorem cyc_get (p : List Nat) (i k : Nat) (hk : k < per p i) : (cyc p i)[k]? = some (it p k i) := by unfold cyc; rw [List.getElem?_map, List.getElem?_range hk]; rfl
theorem cyc_take (p : List Nat) (i k : Nat) (hk : k ≤ per p i) : (cyc p i).take k = (List.range k).map fun j => it p j i := by
  unfold cyc
  rw [← List.map_take, List.take_range, Nat.min_eq_left hk]
/-- Does j lie on the cycle of i? -/
def Reach (p : List Nat) (i j : Nat) : Prop := ∃ k, it p k i = j
theorem mem_cyc {p : List Nat} (h : PermL p) {i j : Nat} (hi : i < p.length) : j ∈ cyc p i ↔ Reach p i j := by
  constructor
  · intro hm
    obtain ⟨k, _, e⟩ := List.mem_map.1 hm
    exact ⟨k, e⟩
  · rintro ⟨k, rfl⟩
    rw [it_wrap h hi]
    exact List.mem_map.2 ⟨_, List.mem_range.2 (Nat.mod_lt _ (per_pos p i)), rfl⟩
theorem Reach.refl (p : List Nat) (i : Nat) : Reach p i i := ⟨0, rfl⟩
theorem Reach.trans {p : List Nat} {i j k : Nat} (h1 : Reach p i j) (h2 : Reach p j k) : Reach p i k := by
  obtain ⟨a, rfl⟩ := h1
  obtain ⟨b, rfl⟩ := h2
  exact ⟨a + b, it_add p i a b⟩
theorem Reach.symm {p : List Nat} (h : PermL p) {i j : Nat} (hi : i < p.length) (hr : Reach p i j) : Reach p j i := by
  obtain ⟨k, rfl⟩ := hr
  have h1 := it_wrap h hi (k + (per p i - k % per p i))
  have hm := Nat.mod_lt k (per_pos p i)
  have e : (k + (per p i - k % per p i)) % per p i = 0 := by
    have h2 := Nat.div_add_mod k (per p i)
    rw [show k + (per p i - k % per p i) = per p i * (k / per p i + 1) by rw [Nat.mul_add, Nat.mul_one]; omega]
    exact Nat.mul_mod_right _ _
  rw [e] at h1
  exact ⟨per p i - k % per p i, by rw [← it_add]; exact h1⟩

/-- Is i the least number of its cycle? -/
def least (p : List Nat) (i : Nat) : Bool := (cyc p i).all fun j => decide (i ≤ j)
theorem least_iff {p : List Nat} (h : PermL p) {i : Nat} (hi : i < p.length) : least p i = true ↔ ∀ j, Reach p i j → i ≤ j := by
  unfold least
  rw [List.all_eq_true]
  constructor
  · intro hl j hj
    simpa using hl j ((mem_cyc h hi).2 hj)
  · intro hl j hj
    simpa using hl j ((mem_cyc h hi).1 hj)
/-- The cycles of the numbers below m that are the least of theirs. -/
def cycsTo (p : List Nat) (m : Nat) : List (List Nat) := ((List.range m).filter (least p)).map (cyc p)
def cycs (p : List Nat) : List (List Nat) := cycsTo p p.length
theorem cycsTo_succ (p : List Nat) (m : Nat) : cycsTo p (m + 1) = cycsTo p m ++ if least p m then [cyc p m] else [] := by
  unfold cycsTo
  rw [List.range_succ, List.filter_append, List.map_append]
  by_cases h : least p m
  · simp [h]
  · simp [h]
theorem cycsTo_length_le (p : List Nat) (m : Nat) : (cycsTo p m).length ≤ m := by
  unfold cycsTo
  rw [List.length_map]
  have := List.length_filter_le (least p) (List.range m)
  rwa [List.length_range] at this
/-- Every number lies on a cycle with a least number. -/
theorem least_ex {p : List Nat} (h : PermL p) : ∀ (i : Nat), i < p.length → ∃ m, m ≤ i ∧ least p m = true ∧ Reach p m i := fun i => by
  induction i using Nat.strongRecOn with
  | _ i ih =>
    intro hi
    by_cases hl : least p i = true
    · exact ⟨i, Nat.le_refl _, hl, .refl p i⟩
    · have : ∃ j, Reach p i j ∧ j < i := by
        by_cases hex : ∃ j, Reach p i j ∧ j < i
        · exact hex
        · exact absurd ((least_iff h hi).2 fun j hj => Nat.le_of_not_lt fun hlt => hex ⟨j, hj, hlt⟩) hl
      obtain ⟨j, hr, hj⟩ := this
      obtain ⟨m, h1, h2, h3⟩ := ih j hj (by omega)
      exact ⟨m, by omega, h2, h3.trans (hr.symm h hi)⟩
/-- A number is on a cycle that is told before m, if it is reached from a number below m. -/
theorem mem_cycsTo {p : List Nat} (h : PermL p) {m x : Nat} (hm : m ≤ p.length) : x ∈ (cycsTo p m).flatten ↔ ∃ j, j < m ∧ Reach p j x := by
  unfold cycsTo
  rw [List.mem_flatten]
  constructor
  · rintro ⟨c, hc, hx⟩
    obtain ⟨j, hj, rfl⟩ := List.mem_map.1 hc
    have h1 := List.mem_range.1 (List.mem_filter.1 hj).1
    exact ⟨j, h1, (mem_cyc h (by omega)).1 hx⟩
  · rintro ⟨j, hj, hr⟩
    obtain ⟨i, h1, h2, h3⟩ := least_ex h j (by omega)
    exact ⟨cyc p i, List.mem_map.2 ⟨i, List.mem_filter.2 ⟨List.mem_range.2 (by omega), h2⟩, rfl⟩, (mem_cyc h (by omega)).2 (h3.trans hr)⟩
/-- The next number is on no cycle told before just if it is the least of its own. -/
theorem fresh_iff {p : List Nat} (h : PermL p) {m : Nat} (hm : m < p.length) : m ∉ (cycsTo p m).flatten ↔ least p m = true := by
  rw [mem_cycsTo h (Nat.le_of_lt hm), least_iff h hm]
  constructor
  · intro hn j hj
    refine Nat.le_of_not_lt fun hlt => hn ⟨j, hlt, hj.symm h hm⟩
  · rintro hl ⟨j, hj, hr⟩
    have := hl j (hr.symm h (by omega))
    omega
theorem cyc_nodup {p : List Nat} (h : PermL p) {i : Nat} (hi : i < p.length) : (cyc p i).Nodup := by
  unfold cyc
  rw [List.nodup_iff_pairwise_ne, List.pairwise_map]
  exact List.pairwise_lt_range.imp_of_mem fun {a b} ha hb hab => it_differ h hi hab (List.mem_range.1 hb)
theorem cycs_nodup {p : List Nat} (h : PermL p) : (cycs p).flatten.Nodup := by
  rw [List.nodup_iff_pairwise_ne, List.pairwise_flatten]
  constructor
  · intro c hc
    obtain ⟨i, hi, rfl⟩ := List.mem_map.1 hc
    exact List.nodup_iff_pairwise_ne.1 (cyc_nodup h (List.mem_range.1 (List.mem_filter.1 hi).1))
  · unfold cycs cycsTo
    rw [List.pairwise_map]
    refine (List.Pairwise.filter _ List.pairwise_lt_range).imp_of_mem fun {a b} ha hb hab x hx y hy e => ?_
    subst e
    have la := List.mem_filter.1 ha
    have lb := List.mem_filter.1 hb
    have a1 := List.mem_range.1 la.1
    have b1 := List.mem_range.1 lb.1
    have r1 := (mem_cyc h a1).1 hx
    have r2 := (mem_cyc h b1).1 hy
    have := (least_iff h b1).1 lb.2 a (r2.trans (r1.symm h a1))
    omega
theorem cycs_perm {p : List Nat} (h : PermL p) : (cycs p).flatten.Perm (List.range p.length) := by
  refine (List.perm_ext_iff_of_nodup (cycs_nodup h) List.nodup_range).2 fun x => ?_
  unfold cycs
  rw [mem_cycsTo h (Nat.le_refl _), List.mem_range]
  constructor
  · rintro ⟨j, hj, k, rfl⟩
    exact it_lt h hj k
  · intro hx
    exact ⟨x, hx, .refl p x⟩
end Go.Proofs.Ytehmngecpipebaa
