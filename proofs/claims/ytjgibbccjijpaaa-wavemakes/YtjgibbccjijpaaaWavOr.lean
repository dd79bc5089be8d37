/-
  Plain mathematics of the reading of a matrix, of no program: which number stands at which place of a level, and its digits so far. No condition but what each theorem names.
-/
import Derived.Test.YtjgibbccjijpaaaWaveLs
namespace Go.Proofs.Ytjgibbccjijpaaa.Words
open Go Go.RowKit

/-- The places below i whose digit is 0, and those whose digit is 1. -/
def zI (b : Nat → Bool) (i : Nat) : List Nat := (List.range i).filter fun p => !b p
def oI (b : Nat → Bool) (i : Nat) : List Nat := (List.range i).filter b
def PL (n : Nat) (b : Nat → Bool) : List Nat := zI b n ++ oI b n

theorem zI_succ (b : Nat → Bool) (i : Nat) : zI b (i + 1) = if b i then zI b i else zI b i ++ [i] := by
  unfold zI
  rw [List.range_succ, List.filter_append]
  cases h : b i <;> simp [h]
theorem oI_succ (b : Nat → Bool) (i : Nat) : oI b (i + 1) = if b i then oI b i ++ [i] else oI b i := by
  unfold oI
  rw [List.range_succ, List.filter_append]
  cases h : b i <;> simp [h]
theorem oI_count (b : Nat → Bool) (i : Nat) : (List.range i).countP b = tally b i := by
  induction i with
  | zero => rfl
  | succ i ih => rw [List.range_succ, List.countP_append, ih, tally, List.countP_singleton]; cases b i <;> rfl
theorem zI_count (b : Nat → Bool) (i : Nat) : (List.range i).countP (fun p => !b p) = i - tally b i := by
  rw [oI_count (fun p => !b p)]
  have := tally_not b i
  omega
theorem zI_length (b : Nat → Bool) (i : Nat) : (zI b i).length = i - tally b i := by unfold zI; rw [← List.countP_eq_length_filter, zI_count]
theorem oI_length (b : Nat → Bool) (i : Nat) : (oI b i).length = tally b i := by unfold oI; rw [← List.countP_eq_length_filter, oI_count]
theorem PL_length (n : Nat) (b : Nat → Bool) : (PL n b).length = n := by
  unfold PL
  rw [List.length_append, zI_length, oI_length]
  have := tally_le b n
  omega
theorem PL_at (n : Nat) (b : Nat → Bool) (p : Nat) (h : p < n) : (PL n b)[tos n b p]? = some p := by
  have hr : (List.range n)[p]? = some p := List.getElem?_range h
  have ht : (List.range n).take p = List.range p := by rw [List.take_range, Nat.min_eq_left (by omega)]
  unfold PL tos
  cases hb : b p
  · have hf := filter_at (List.range n) (fun p => !b p) p p hr (by simp [hb])
    rw [ht, zI_count] at hf
    rw [if_neg (by simp)]
    unfold zI
    rw [List.getElem?_append_left (List.getElem?_eq_some_iff.1 hf).1]
    exact hf
  · have hf := filter_at (List.range n) b p p hr hb
    rw [ht, oI_count] at hf
    rw [if_pos rfl, List.getElem?_append_right (by rw [zI_length]; unfold zr; omega), zI_length]
    unfold zr
    rw [show n - tally b n + tally b p - (n - tally b n) = tally b p by omega]
    exact hf
theorem PL_perm (n : Nat) (b : Nat → Bool) : (PL n b).Perm (List.range n) := by
  unfold PL zI oI
  exact List.perm_append_comm.trans (List.filter_append_perm b (List.range n))

/-- The order of the next level. -/
def nxtO (b : Nat → Bool) (ord : List Nat) : List Nat := (PL ord.length b).map fun p => ord.getD p 0
theorem range_map_self (ord : List Nat) : (List.range ord.length).map (fun p => ord.getD p 0) = ord := by
  apply List.ext_getElem?
  intro i
  rw [List.getElem?_map]
  by_cases h : i < ord.length
  · rw [List.getElem?_range h, List.getElem?_eq_getElem h]
    simp [List.getD, List.getElem?_eq_getElem h]
  · rw [List.getElem?_eq_none (by simp; omega), List.getElem?_eq_none (by omega)]; rfl
theorem nxtO_perm (b : Nat → Bool) (ord : List Nat) : (nxtO b ord).Perm ord := by
  have h := (PL_perm ord.length b).map (fun p => ord.getD p 0)
  rw [range_map_self] at h
  exact h

/-- The level j has the numbers in the order ord. -/
structure OrdAt (n : Nat) (bs : List (Nat → Bool)) (k j : Nat) (ord : List Nat) : Prop where
  perm : ord.Perm (List.range n)
  rest : ∀ p o, ord[p]? = some o → val n bs o % 2 ^ (k - j) = val n (bs.drop j) p
theorem OrdAt.length {n : Nat} {bs : List (Nat → Bool)} {k j : Nat} {ord : List Nat} (h : OrdAt n bs k j ord) : ord.length = n := by rw [h.perm.length_eq, List.length_range]
theorem OrdAt.lt {n : Nat} {bs : List (Nat → Bool)} {k j : Nat} {ord : List Nat} (h : OrdAt n bs k j ord) {p o : Nat} (hp : ord[p]? = some o) : o < n := List.mem_range.1 (h.perm.mem_iff.1 (List.mem_of_getElem? hp))
theorem OrdAt.inj {n : Nat} {bs : List (Nat → Bool)} {k j : Nat} {ord : List Nat} (h : OrdAt n bs k j ord) {p q o : Nat} (hp : ord[p]? = some o) (hq : ord[q]? = some o) : p = q := by
  have hn : ord.Nodup := h.perm.nodup_iff.2 List.nodup_range
  obtain ⟨h1, e1⟩ := List.getElem?_eq_some_iff.1 hp
  obtain ⟨h2, e2⟩ := List.getElem?_eq_some_iff.1 hq
  exact (List.getElem_inj hn).1 (e1.trans e2.symm)
theorem OrdAt.has {n : Nat} {bs : List (Nat → Bool)} {k j : Nat} {ord : List Nat} (h : OrdAt n bs k j ord) {o : Nat} (ho : o < n) : ∃ p : Nat, ord[p]? = some o :=
  List.getElem?_of_mem (h.perm.mem_iff.2 (List.mem_range.2 ho))
theorem OrdAt.start (n : Nat) (bs : List (Nat → Bool)) : OrdAt n bs bs.length 0 (List.range n) := by
  refine ⟨List.Perm.refl _, fun p o h => ?_⟩
  have hp : p < n := by have := (List.getElem?_eq_some_iff.1 h).1; simpa using this
  rw [List.getElem?_range hp] at h
  obtain rfl := Option.some.inj h
  rw [Nat.sub_zero, Nat.mod_eq_of_lt (val_lt n bs p), List.drop_zero]

/-- The digits so far. -/
def top (n : Nat) (bs : List (Nat → Bool)) (k j o : Nat) : Nat := val n bs o / 2 ^ (k - j)
theorem top_start (n : Nat) (bs : List (Nat → Bool)) (o : Nat) : top n bs bs.length 0 o = 0 := Nat.div_eq_of_lt (val_lt n bs o)
theorem top_end (n : Nat) (bs : List (Nat → Bool)) (k o : Nat) : top n bs k k o = val n bs o := by unfold top; rw [Nat.sub_self, Nat.pow_zero, Nat.div_one]
theorem top_lt (n : Nat) (bs : List (Nat → Bool)) (k j o : Nat) (hk : bs.length ≤ 21) : top n bs k j o < 2097152 :=
  Nat.lt_of_le_of_lt (Nat.div_le_self _ _) (Nat.lt_of_lt_of_le (val_lt n bs o) (Nat.le_trans (Nat.pow_le_pow_right (n := 2) (j := 21) (by decide) hk) (by decide)))

theorem digit_step (v q d r : Nat) (hr : r < 2 ^ q) (h : v % 2 ^ (q + 1) = d * 2 ^ q + r) : v / 2 ^ q = 2 * (v / 2 ^ (q + 1)) + d ∧ v % 2 ^ q = r := by
  have h1 := Nat.div_add_mod v (2 ^ (q + 1))
  rw [h, Nat.pow_succ] at h1
  have e : v = 2 ^ q * (2 * (v / (2 ^ q * 2)) + d) + r := by
    rw [Nat.mul_add, ← Nat.mul_assoc]
    have : d * 2 ^ q = 2 ^ q * d := Nat.mul_comm _ _
    omega
  have hp : 0 < 2 ^ q := Nat.two_pow_pos q
  rw [Nat.pow_succ]
  generalize v / (2 ^ q * 2) = u at *
  rw [e]
  constructor
  · rw [Nat.mul_add_div hp, Nat.div_eq_of_lt hr]; rfl
  · rw [Nat.mul_add_mod, Nat.mod_eq_of_lt hr]

theorem OrdAt.digit {n : Nat} {bs : List (Nat → Bool)} {k j : Nat} {ord : List Nat} (h : OrdAt n bs k j ord) {b : Nat → Bool} (hk : bs.length = k) (hj : j < k) (hd : bs.drop j = b :: bs.drop (j + 1)) {p o : Nat} (hp : ord[p]? = some o) :
    top n bs k (j + 1) o = 2 * top n bs k j o + (b p).toNat ∧ val n bs o % 2 ^ (k - (j + 1)) = val n (bs.drop (j + 1)) (tos n b p) := by
  have h1 := h.rest p o hp
  have hl : (bs.drop (j + 1)).length = k - (j + 1) := by rw [List.length_drop, hk]
  have hlt := val_lt n (bs.drop (j + 1)) (tos n b p)
  rw [hd, val, hl, show k - j = k - (j + 1) + 1 by omega] at h1
  rw [hl] at hlt
  unfold top
  rw [show k - j = k - (j + 1) + 1 by omega]
  exact digit_step _ _ _ _ hlt h1

theorem OrdAt.step {n : Nat} {bs : List (Nat → Bool)} {k j : Nat} {ord : List Nat} (h : OrdAt n bs k j ord) {b : Nat → Bool} (hk : bs.length = k) (hj : j < k) (hd : bs.drop j = b :: bs.drop (j + 1)) : OrdAt n bs k (j + 1) (nxtO b ord) := by
  refine ⟨(nxtO_perm b ord).trans h.perm, fun p' o hp' => ?_⟩
  unfold nxtO at hp'
  rw [List.getElem?_map] at hp'
  cases hq : (PL ord.length b)[p']? with
  | none => rw [hq] at hp'; cases hp'
  | some p =>
    rw [hq] at hp'
    have hpn : p < ord.length := List.mem_range.1 ((PL_perm ord.length b).mem_iff.1 (List.mem_of_getElem? hq))
    have ho : ord[p]? = some o := by
      have : ord.getD p 0 = o := Option.some.inj hp'
      rw [List.getElem?_eq_getElem hpn]
      rw [List.getD, List.getElem?_eq_getElem hpn] at this
      exact congrArg some this
    have hat := PL_at ord.length b p hpn
    have hnd : (PL ord.length b).Nodup := (PL_perm ord.length b).nodup_iff.2 List.nodup_range
    obtain ⟨g1, e1⟩ := List.getElem?_eq_some_iff.1 hq
    obtain ⟨g2, e2⟩ := List.getElem?_eq_some_iff.1 hat
    have e : p' = tos ord.length b p := (List.getElem_inj hnd).1 (e1.trans e2.symm)
    rw [e, h.length]
    exact (h.digit hk hj hd ho).2

/-- The numbers' digits while a level is read: those of the first i places are longer by one. -/
structure MidL (n : Nat) (bs : List (Nat → Bool)) (k j : Nat) (ord : List Nat) (i : Nat) (L : List Int) : Prop where
  len : L.length = n
  at_ : ∀ p o, ord[p]? = some o → L[o]? = some (if p < i then (top n bs k (j + 1) o : Int) else (top n bs k j o : Int))
/-- .. when it has been read. -/
structure OutL (n : Nat) (bs : List (Nat → Bool)) (k j : Nat) (L : List Int) : Prop where
  len : L.length = n
  at_ : ∀ o, o < n → L[o]? = some (top n bs k j o : Int)
theorem OutL.mid {n : Nat} {bs : List (Nat → Bool)} {k j : Nat} {ord : List Nat} {L : List Int} (h : OutL n bs k j L) (ho : OrdAt n bs k j ord) : MidL n bs k j ord 0 L :=
  ⟨h.len, fun p o hp => by rw [if_neg (Nat.not_lt_zero _)]; exact h.at_ o (ho.lt hp)⟩
theorem MidL.out {n : Nat} {bs : List (Nat → Bool)} {k j : Nat} {ord : List Nat} {L : List Int} (h : MidL n bs k j ord n L) (ho : OrdAt n bs k j ord) : OutL n bs k (j + 1) L :=
  ⟨h.len, fun o hlt => by
    obtain ⟨p, hp⟩ := ho.has hlt
    have := h.at_ p o hp
    rwa [if_pos (by have := (List.getElem?_eq_some_iff.1 hp).1; rw [ho.length] at this; exact this)] at this⟩
theorem MidL.step {n : Nat} {bs : List (Nat → Bool)} {k j : Nat} {ord : List Nat} {i : Nat} {L : List Int} (h : MidL n bs k j ord i L) (ho : OrdAt n bs k j ord) {o : Nat} (hi : ord[i]? = some o) : MidL n bs k j ord (i + 1) (L.set o (top n bs k (j + 1) o : Int)) := by
  refine ⟨by rw [List.length_set]; exact h.len, fun p u hp => ?_⟩
  rw [List.getElem?_set]
  by_cases e : o = u
  · subst e
    obtain rfl := ho.inj hi hp
    rw [if_pos rfl, if_pos (by rw [h.len]; exact ho.lt hi), if_pos (Nat.lt_succ_self _)]
  · rw [if_neg e, h.at_ p u hp]
    have hne : p ≠ i := fun e' => by subst e'; rw [hi] at hp; exact e (Option.some.inj hp)
    by_cases hlt : p < i
    · rw [if_pos hlt, if_pos (by omega)]
    · rw [if_neg hlt, if_neg (by omega)]
theorem OutL.start (n : Nat) (bs : List (Nat → Bool)) : OutL n bs bs.length 0 (List.replicate n 0) :=
  ⟨by simp, fun o ho => by rw [top_start, List.getElem?_replicate, if_pos ho]; rfl⟩
theorem OutL.done {n : Nat} {bs : List (Nat → Bool)} {k : Nat} {L : List Int} (h : OutL n bs k k L) : L = lsI n bs := by
  apply List.ext_getElem?
  intro o
  by_cases ho : o < n
  · rw [h.at_ o ho, top_end, lsI_at n bs o ho]
  · rw [List.getElem?_eq_none (by rw [h.len]; omega), List.getElem?_eq_none (by rw [lsI_length]; omega)]

/-- The zeros and the ones of a level so far. -/
def zsO (b : Nat → Bool) (ord : List Nat) (i : Nat) : List Nat := (zI b i).map fun p => ord.getD p 0
def osO (b : Nat → Bool) (ord : List Nat) (i : Nat) : List Nat := (oI b i).map fun p => ord.getD p 0
theorem zsO_one (b : Nat → Bool) (ord : List Nat) (i o : Nat) (h : ord[i]? = some o) (hb : b i = true) : zsO b ord (i + 1) = zsO b ord i ∧ osO b ord (i + 1) = osO b ord i ++ [o] := by
  unfold zsO osO
  rw [zI_succ, oI_succ, if_pos hb, if_pos hb]
  simp [h]
theorem zsO_zero (b : Nat → Bool) (ord : List Nat) (i o : Nat) (h : ord[i]? = some o) (hb : b i = false) : zsO b ord (i + 1) = zsO b ord i ++ [o] ∧ osO b ord (i + 1) = osO b ord i := by
  unfold zsO osO
  rw [zI_succ, oI_succ, if_neg (by simp [hb]), if_neg (by simp [hb])]
  simp [h]
theorem zsO_all (b : Nat → Bool) (ord : List Nat) : zsO b ord ord.length ++ osO b ord ord.length = nxtO b ord := by
  unfold zsO osO nxtO PL
  rw [List.map_append]
theorem zsO_length (b : Nat → Bool) (ord : List Nat) (i : Nat) : (zsO b ord i).length = i - tally b i := by unfold zsO; rw [List.length_map, zI_length]
theorem osO_length (b : Nat → Bool) (ord : List Nat) (i : Nat) : (osO b ord i).length = tally b i := by unfold osO; rw [List.length_map, oI_length]
end Go.Proofs.Ytjgibbccjijpaaa.Words
