/-
  Plain mathematics of lists of operations, of no program: what one list of operations behind another comes to, for the ninth chapter's statements. No condition but what each theorem names.
-/
import Derived.Test.YtnjpehgmlfenbaaKeep9
import Derived.Test.YtnjpehgmlfenbaaKeepOps
namespace Go.Proofs.Ytnjpehgmlfenbaa
open Go.RowKit Words

theorem runL_app (L : List Int) (os t : List Op9) : ∀ i, i ≤ os.length → runL L (os ++ t) i = runL L os i
  | 0, _ => rfl
  | i + 1, h => by
    unfold runL
    rw [List.getElem?_append_left (by omega), runL_app L os t i (by omega)]
theorem runL_more (L : List Int) (os t : List Op9) : ∀ i, runL L (os ++ t) (os.length + i) = runL (runL L os os.length) t i
  | 0 => runL_app L os t _ (Nat.le_refl _)
  | i + 1 => by
    rw [← Nat.add_assoc]
    unfold runL
    rw [List.getElem?_append_right (by omega), runL_more L os t i, show os.length + i - os.length = i by omega]
theorem runL_all (L : List Int) (os t : List Op9) : runL L (os ++ t) (os ++ t).length = runL (runL L os os.length) t t.length := by
  rw [List.length_append]
  exact runL_more L os t t.length

/-- An operation within a list of n numbers. -/
structure Op9.In (o : Op9) (n : Nat) : Prop where
  k1 : 1 ≤ o.k
  k4 : o.k ≤ 4
  lo : 0 ≤ o.lo
  lh : o.lo ≤ o.hi
  hi : o.hi < n
  co : -1000 ≤ o.by_ ∧ o.by_ ≤ 1000
theorem Op9.In.err {o : Op9} {n : Nat} (h : o.In n) : o.err n = 0 := by
  have h1 := h.k1
  have h2 := h.k4
  have h3 := h.lo
  have h4 := h.lh
  have h5 := h.hi
  have h6 := h.co
  unfold Op9.err chk
  rw [if_neg (by omega), if_neg (by omega), if_neg (fun e => e.2 (by unfold Co; omega))]
theorem opOf_in (places : Nat) (hp : 0 < places) (x : Op9) : (opOf places x).In places := by
  have h1 := pick_lt (n := 4) (by decide) x.k
  have h2 := pick_lt hp x.lo
  have h3 := pick_lt (n := places - pick places x.lo) (by omega) x.hi
  have h4 := pick_lt (n := 2001) (by decide) x.by_
  unfold opOf
  refine ⟨?_, ?_, ?_, ?_, ?_, ?_⟩
  all_goals
    dsimp only
    omega

/-- Questions for the sum and the least behind operations. -/
theorem told (L : List Int) (os : List Op9) (lo hi : Int) (h0 : 0 ≤ lo) (h1 : lo ≤ hi) (h2 : hi < L.length) :
    reps L (os ++ [⟨4, lo, hi, 0⟩, ⟨3, lo, hi, 0⟩]) (os.length * 2) = 0 ∧ reps L (os ++ [⟨4, lo, hi, 0⟩, ⟨3, lo, hi, 0⟩]) (os.length * 2 + 1) = sm (prt (runL L os os.length) lo hi) ∧
    reps L (os ++ [⟨4, lo, hi, 0⟩, ⟨3, lo, hi, 0⟩]) ((os.length + 1) * 2) = 0 ∧ reps L (os ++ [⟨4, lo, hi, 0⟩, ⟨3, lo, hi, 0⟩]) ((os.length + 1) * 2 + 1) = mn (prt (runL L os os.length) lo hi) := by
  have g0 : (os ++ [(⟨4, lo, hi, 0⟩ : Op9), ⟨3, lo, hi, 0⟩])[os.length]? = some ⟨4, lo, hi, 0⟩ := by rw [List.getElem?_append_right (Nat.le_refl _), Nat.sub_self]; rfl
  have g1 : (os ++ [(⟨4, lo, hi, 0⟩ : Op9), ⟨3, lo, hi, 0⟩])[os.length + 1]? = some ⟨3, lo, hi, 0⟩ := by rw [List.getElem?_append_right (by omega), show os.length + 1 - os.length = 1 by omega]; rfl
  have i4 : (⟨4, lo, hi, 0⟩ : Op9).In L.length := ⟨by dsimp only; omega, by dsimp only; omega, h0, h1, h2, by dsimp only; omega⟩
  have i3 : (⟨3, lo, hi, 0⟩ : Op9).In L.length := ⟨by dsimp only; omega, by dsimp only; omega, h0, h1, h2, by dsimp only; omega⟩
  have hE : runL L (os ++ [(⟨4, lo, hi, 0⟩ : Op9), ⟨3, lo, hi, 0⟩]) os.length = runL L os os.length := runL_app L os _ _ (Nat.le_refl _)
  refine ⟨by rw [reps_even g0, i4.err], ?_, by rw [reps_even g1, i3.err], ?_⟩
  · rw [reps_odd g0, hE]
    unfold stepV
    rw [runL_length, i4.err, if_pos rfl, if_neg (by show ¬ (4 : Int) = 3; decide), if_pos rfl]
  · rw [reps_odd g1, runL_some g0, hE]
    have e : stepL (runL L os os.length) ⟨4, lo, hi, 0⟩ = runL L os os.length := by
      unfold stepL
      rw [if_neg (fun e => absurd e.2 (by show ¬ (4 : Int) ≤ 2; decide))]
    rw [e]
    unfold stepV
    rw [runL_length, i3.err, if_pos rfl, if_pos rfl]

theorem opsC_two (a b : Op9) : opsC [a, b] = [.int .i64 a.k, .int .i64 a.lo, .int .i64 a.hi, .int .i64 a.by_, .int .i64 b.k, .int .i64 b.lo, .int .i64 b.hi, .int .i64 b.by_] := rfl
theorem opsC_sing (a : Op9) : opsC [a] = [.int .i64 a.k, .int .i64 a.lo, .int .i64 a.hi, .int .i64 a.by_] := rfl

/-- A change of two parts is the change of both. -/
theorem mapR_parts (f : Int → Int) (E : List Int) (lo m hi : Int) (h1 : lo ≤ m) (h2 : m ≤ hi) : mapR f (mapR f E lo m) (m + 1) hi = mapR f E lo hi := by
  apply List.ext_getElem?
  intro i
  rw [mapR_get, mapR_get, mapR_get]
  cases E[i]? with
  | none => rfl
  | some z =>
    simp only [Option.map_some]
    by_cases c1 : lo ≤ (i : Int) ∧ (i : Int) ≤ m
    · rw [if_pos c1, if_neg (by omega), if_pos (by omega)]
    · rw [if_neg c1]
      by_cases c2 : m + 1 ≤ (i : Int) ∧ (i : Int) ≤ hi
      · rw [if_pos c2, if_pos (by omega)]
      · rw [if_neg c2, if_neg (by omega)]
theorem stepL_change {E : List Int} {o : Op9} (h : o.In E.length) (hk : o.k ≤ 2) : stepL E o = mapR (app (decide (o.k = 2)) o.by_) E o.lo o.hi := by
  unfold stepL
  rw [if_pos ⟨h.err, hk⟩]
/-- .. as operations. -/
theorem split_eq (L : List Int) (os : List Op9) (k lo m hi b : Int) (hk : k = 1 ∨ k = 2) (h0 : 0 ≤ lo) (h1 : lo ≤ m) (h2 : m < hi) (h3 : hi < L.length) (hb : -1000 ≤ b ∧ b ≤ 1000) :
    runL L (os ++ [(⟨k, lo, m, b⟩ : Op9)] ++ [(⟨k, m + 1, hi, b⟩ : Op9)]) (os ++ [(⟨k, lo, m, b⟩ : Op9)] ++ [(⟨k, m + 1, hi, b⟩ : Op9)]).length = runL L (os ++ [(⟨k, lo, hi, b⟩ : Op9)]) (os ++ [(⟨k, lo, hi, b⟩ : Op9)]).length := by
  rw [List.append_assoc, runL_all L os ([(⟨k, lo, m, b⟩ : Op9)] ++ [(⟨k, m + 1, hi, b⟩ : Op9)]), runL_all L os [(⟨k, lo, hi, b⟩ : Op9)]]
  have hl := runL_length L os os.length
  generalize runL L os os.length = E at *
  show stepL (stepL E ⟨k, lo, m, b⟩) ⟨k, m + 1, hi, b⟩ = stepL E ⟨k, lo, hi, b⟩
  have i1 : (⟨k, lo, m, b⟩ : Op9).In E.length := ⟨by dsimp only; omega, by dsimp only; omega, h0, h1, by dsimp only; omega, hb⟩
  have i3 : (⟨k, lo, hi, b⟩ : Op9).In E.length := ⟨by dsimp only; omega, by dsimp only; omega, h0, by dsimp only; omega, by dsimp only; omega, hb⟩
  have hk2 : k ≤ 2 := by omega
  rw [stepL_change i1 hk2, stepL_change i3 hk2]
  have i2 : (⟨k, m + 1, hi, b⟩ : Op9).In (mapR (app (decide (k = 2)) b) E lo m).length := ⟨by dsimp only; omega, by dsimp only; omega, by dsimp only; omega, by dsimp only; omega, by rw [mapR_length]; dsimp only; omega, hb⟩
  rw [stepL_change i2 hk2]
  exact mapR_parts _ E lo m hi h1 (by omega)

/-- What additions add to the number at a place. -/
def adds (os : List Op9) (i : Nat) : Int := match os with
  | [] => 0
  | o :: r => (if o.lo ≤ (i : Int) ∧ (i : Int) ≤ o.hi then o.by_ else 0) + adds r i
theorem adds_append (a b : List Op9) (i : Nat) : adds (a ++ b) i = adds a i + adds b i := by
  induction a with
  | nil => show adds b i = 0 + adds b i; omega
  | cons o r ih =>
    show (if o.lo ≤ (i : Int) ∧ (i : Int) ≤ o.hi then o.by_ else 0) + adds (r ++ b) i = ((if o.lo ≤ (i : Int) ∧ (i : Int) ≤ o.hi then o.by_ else 0) + adds r i) + adds b i
    rw [ih]; omega
theorem adds_reverse (os : List Op9) (i : Nat) : adds os.reverse i = adds os i := by
  induction os with
  | nil => rfl
  | cons o r ih =>
    rw [List.reverse_cons, adds_append, ih]
    show adds r i + ((if o.lo ≤ (i : Int) ∧ (i : Int) ≤ o.hi then o.by_ else 0) + 0) = (if o.lo ≤ (i : Int) ∧ (i : Int) ≤ o.hi then o.by_ else 0) + adds r i
    omega
theorem runL_adds (L : List Int) (os : List Op9) (hk : ∀ o ∈ os, o.k = 1) (hi : ∀ o ∈ os, o.In L.length) : ∀ m, m ≤ os.length → ∀ i, (runL L os m)[i]? = L[i]?.map fun z => z + adds (os.take m) i
  | 0, _, i => by
    show L[i]? = _
    cases L[i]? with
    | none => rfl
    | some z => show some z = some (z + 0); rw [Int.add_zero]
  | m + 1, h, i => by
    have hg : os[m]? = some os[m] := List.getElem?_eq_getElem (by omega)
    have hm : os[m] ∈ os := List.getElem_mem _
    generalize os[m] = o at *
    have ih := runL_adds L os hk hi m (by omega) i
    have hin : o.In (runL L os m).length := by rw [runL_length]; exact hi o hm
    rw [runL_some hg, stepL_change hin (by rw [hk o hm]; decide), mapR_get, ih, List.take_add_one, hg]
    have e : decide (o.k = 2) = false := by rw [hk o hm]; rfl
    rw [e]
    cases L[i]? with
    | none => rfl
    | some z =>
      simp only [Option.map_some, Option.toList_some]
      rw [adds_append]
      show some (if o.lo ≤ (i : Int) ∧ (i : Int) ≤ o.hi then app false o.by_ (z + adds (os.take m) i) else z + adds (os.take m) i) = some (z + (adds (os.take m) i + ((if o.lo ≤ (i : Int) ∧ (i : Int) ≤ o.hi then o.by_ else 0) + 0)))
      rw [app_add]
      by_cases c : o.lo ≤ (i : Int) ∧ (i : Int) ≤ o.hi
      · rw [if_pos c, if_pos c]; congr 1; omega
      · rw [if_neg c, if_neg c]; congr 1; omega
/-- Additions in whatever order. -/
theorem turned_eq (L : List Int) (os : List Op9) (s : Op9) (hk : ∀ o ∈ os, o.k = 1) (hi : ∀ o ∈ os, o.In L.length) :
    runL L (os.reverse ++ [s]) (os.reverse ++ [s]).length = runL L (os ++ [s]) (os ++ [s]).length := by
  rw [runL_all L os.reverse [s], runL_all L os [s]]
  have e : runL L os.reverse os.reverse.length = runL L os os.length := by
    apply List.ext_getElem?
    intro i
    rw [runL_adds L os.reverse (fun o h => hk o (List.mem_reverse.1 h)) (fun o h => hi o (List.mem_reverse.1 h)) _ (Nat.le_refl _) i, runL_adds L os hk hi _ (Nat.le_refl _) i, List.take_of_length_le (Nat.le_refl _), List.take_of_length_le (Nat.le_refl _)]
    simp only [adds_reverse]
  rw [e]
/-- What is set last stays. -/
theorem set_stays (L : List Int) (os : List Op9) (s : Op9) (hk : s.k = 2) (hs : s.In L.length) (i : Nat) (h1 : s.lo ≤ (i : Int)) (h2 : (i : Int) ≤ s.hi) : (runL L (os ++ [s]) (os ++ [s]).length)[i]? = some s.by_ := by
  rw [runL_all]
  show (stepL (runL L os os.length) s)[i]? = some s.by_
  have hin : s.In (runL L os os.length).length := by rw [runL_length]; exact hs
  have hlt : i < (runL L os os.length).length := by have := hin.hi; omega
  rw [stepL_change hin (by rw [hk]; decide), mapR_get, List.getElem?_eq_getElem hlt]
  simp only [Option.map_some]
  rw [if_pos ⟨h1, h2⟩, hk]
  show some (app true s.by_ _) = _
  rw [app_set]
end Go.Proofs.Ytnjpehgmlfenbaa
