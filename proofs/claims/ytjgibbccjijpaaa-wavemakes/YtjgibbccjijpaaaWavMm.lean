/-
  Plain mathematics of the making of a matrix, of no program; the levels of a matrix that was made of a list. No condition but what each theorem names.
-/
import Derived.Test.YtjgibbccjijpaaaWavMy
namespace Go.Proofs.Ytjgibbccjijpaaa
open Go.RowKit Words

/-- The numbers in the order of the level i. -/
def lst : Nat → Nat → List Nat → List Nat
  | _, 0, l => l
  | 0, _ + 1, l => l
  | L + 1, i + 1, l => lst L i (nxt L l)
theorem lst_zero (L : Nat) (l : List Nat) : lst L 0 l = l := by cases L <;> rfl
theorem lst_length (L : Nat) : ∀ i l, (lst L i l).length = l.length := by
  induction L with
  | zero => intro i l; cases i <;> rfl
  | succ L ih =>
    intro i l
    cases i with
    | zero => rfl
    | succ i => rw [lst, ih, nxt_length]
theorem lst_succ (L : Nat) : ∀ i l, i < L → lst L (i + 1) l = nxt (L - 1 - i) (lst L i l) := by
  induction L with
  | zero => intro i l h; omega
  | succ L ih =>
    intro i l h
    cases i with
    | zero =>
      show lst L 0 (nxt L l) = nxt L l
      rw [lst_zero]
    | succ i =>
      rw [lst, ih i _ (by omega), lst]
      congr 1
      omega
theorem levs_at (L : Nat) : ∀ i l, i < L → (levs L l)[i]? = some (digs10 (L - 1 - i) (lst L i l)) := by
  induction L with
  | zero => intro i l h; omega
  | succ L ih =>
    intro i l h
    cases i with
    | zero => rfl
    | succ i =>
      rw [levs, List.getElem?_cons_succ, ih i _ (by omega), lst]
      congr 2
      omega
theorem nxt_mem (p : Nat) (l : List Nat) (x : Nat) (h : x ∈ nxt p l) : x ∈ l := by
  unfold nxt at h
  rcases List.mem_append.1 h with h | h
  · exact (List.mem_filter.1 h).1
  · exact (List.mem_filter.1 h).1
theorem lst_mem (L : Nat) : ∀ i l x, x ∈ lst L i l → x ∈ l := by
  induction L with
  | zero => intro i l x h; cases i <;> exact h
  | succ L ih =>
    intro i l x h
    cases i with
    | zero => exact h
    | succ i => exact nxt_mem L l x (ih i _ x h)

/-- The levels vs are those of these rows of n bits. -/
def MadeOf (n : Nat) (rs : List (List Bool)) (vs : List Lev) : Prop := vs.map (fun v => (v.n, v.ws)) = rs.map fun r => ((n : Int), rowOf r)
theorem MadeOf.length {n : Nat} {rs : List (List Bool)} {vs : List Lev} (h : MadeOf n rs vs) : vs.length = rs.length := by
  have := congrArg List.length h
  simpa using this
theorem MadeOf.at_ {n : Nat} {rs : List (List Bool)} {vs : List Lev} (h : MadeOf n rs vs) {i : Nat} {v : Lev} (hv : vs[i]? = some v) : ∃ r, rs[i]? = some r ∧ v.n = (n : Int) ∧ v.ws = rowOf r := by
  have h1 : (vs.map fun v => (v.n, v.ws))[i]? = some (v.n, v.ws) := by rw [List.getElem?_map, hv]; rfl
  rw [h, List.getElem?_map] at h1
  cases hr : rs[i]? with
  | none => rw [hr] at h1; cases h1
  | some r =>
    rw [hr] at h1
    have h2 := Option.some.inj h1
    simp only [Prod.mk.injEq] at h2
    exact ⟨r, rfl, h2.1.symm, h2.2.symm⟩
theorem MadeOf.fns {n : Nat} {rs : List (List Bool)} {vs : List Lev} (h : MadeOf n rs vs) : fns vs = rs.map lf := by
  have h1 := congrArg (List.map fun q : Int × List Nat => bit q.2) h
  rw [List.map_map, List.map_map] at h1
  unfold Go.Proofs.Ytjgibbccjijpaaa.fns
  rw [show (vs.map fun v => bit v.ws) = vs.map ((fun q : Int × List Nat => bit q.2) ∘ fun v => (v.n, v.ws)) from rfl, h1]
  exact List.map_congr_left fun r _ => bit_rowOf r
theorem rowOf_valid (r : List Bool) (h : r.length ≤ 4096) : Valid r.length (rowOf r) := by
  refine ⟨h, rowOf_length r, fun i h1 h2 => ?_⟩
  rw [bit_rowOf]
  unfold lf
  rw [List.getD_eq_getElem?_getD, List.getElem?_eq_none h1]
  rfl
/-- A matrix that was made of a list, of one level at least. -/
theorem made_wv {L : Nat} {ns : List Nat} {vs : List Lev} (h : MadeOf ns.length (levs L ns) vs) (h0 : 0 < L) (hL : L ≤ 21) (hn : ns.length ≤ 300) : WV ns.length vs := by
  have hl := h.length
  rw [levs_length] at hl
  refine ⟨by omega, hn, ?_, fun v hv => ?_⟩
  · cases vs with
    | nil => simp at hl; omega
    | cons v r =>
      obtain ⟨_, _, h1, _⟩ := h.at_ (i := 0) (v := v) rfl
      exact h1
  · obtain ⟨i, hi⟩ := List.getElem?_of_mem hv
    obtain ⟨r, hr, h1, h2⟩ := h.at_ hi
    have hrl := levs_each L ns r (List.mem_of_getElem? hr)
    refine ⟨h1, ?_⟩
    rw [h2, ← hrl]
    exact rowOf_valid r (by omega)
/-- Its numbers. -/
theorem made_val {L : Nat} {ns : List Nat} {vs : List Lev} (h : MadeOf ns.length (levs L ns) vs) (hx : ∀ x ∈ ns, x < 2 ^ L) (i x : Nat) (hi : ns[i]? = some x) : val ns.length (fns vs) i = x := by
  rw [h.fns, val_levs L ns i x hi]
  exact Nat.mod_eq_of_lt (hx x (List.mem_of_getElem? hi))
theorem made_lsI {L : Nat} {ns : List Nat} {vs : List Lev} (h : MadeOf ns.length (levs L ns) vs) (hx : ∀ x ∈ ns, x < 2 ^ L) : lsI ns.length (fns vs) = ns.map fun x : Nat => (x : Int) := by
  apply List.ext_getElem?
  intro i
  by_cases hi : i < ns.length
  · rw [lsI_at _ _ _ hi, List.getElem?_map, List.getElem?_eq_getElem hi, made_val h hx i _ (List.getElem?_eq_getElem hi)]
    rfl
  · rw [List.getElem?_eq_none (by rw [lsI_length]; omega), List.getElem?_eq_none (by simp; omega)]

/-- An empty level. -/
def lev0 : Lev := ⟨0, none, [], 0⟩
theorem made_levs (L : Nat) : madeCells #[.int .i64 0, .slice none 0 0] (L * 2) = (levC (List.replicate L lev0)).toArray := by
  apply Array.ext
  · simp [madeCells, levC_length]
  · intro i h1 h2
    have hi : i < L * 2 := by simpa [madeCells] using h1
    have hg := levC_get (List.replicate L lev0) (i / 2) lev0 (i % 2) (by rw [List.getElem?_replicate, if_pos (by omega)]) (Nat.mod_lt _ (by decide))
    rw [show i / 2 * 2 + i % 2 = i by omega] at hg
    have e : (levC (List.replicate L lev0)).toArray[i]? = lev0.cells[i % 2]? := by rw [List.getElem?_toArray]; exact hg
    have e2 : (madeCells #[.int .i64 0, .slice none 0 0] (L * 2))[i]? = lev0.cells[i % 2]? := by
      rw [Array.getElem?_eq_getElem h1]
      unfold madeCells
      have hp : i % 2 = 0 ∨ i % 2 = 1 := by omega
      rcases hp with e | e <;> simp [e, lev0, Lev.cells]
    have e3 := e2.trans e.symm
    rw [Array.getElem?_eq_getElem h1, Array.getElem?_eq_getElem h2] at e3
    exact Option.some.inj e3
theorem levC_set (xs : List Lev) (y y' : Lev) (zs : List Lev) (a b : Value) (h : y'.cells = [a, b]) : ((levC (xs ++ y :: zs)).set (xs.length * 2) a).set (xs.length * 2 + 1) b = levC (xs ++ y' :: zs) := by
  rw [levC_append, levC_append]
  have hl := levC_length xs
  rw [List.set_append, if_neg (by omega), List.set_append, if_neg (by omega), hl]
  congr 1
  show (((y.cells ++ levC zs).set (xs.length * 2 - xs.length * 2) a).set (xs.length * 2 + 1 - xs.length * 2) b) = y'.cells ++ levC zs
  rw [h, Nat.sub_self, show xs.length * 2 + 1 - xs.length * 2 = 1 by omega]
  rfl
end Go.Proofs.Ytjgibbccjijpaaa
