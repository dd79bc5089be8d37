/-
  Words for memory, of no program: a slice of structs of an integer and a slice of words (the levels of a wavelet matrix), what becomes of it where new memory is made; what the reading of such an argument comes to. No condition but what each theorem names.
-/
import Derived.Test.YtjgibbccjijpaaaFrame
import Derived.Test.YtjgibbccjijpaaaWaveLs
namespace Go.Proofs.Ytjgibbccjijpaaa
open Go.RowKit Go.ChangeShapes Go.WideShapes Go.Deep Words

/-- A level: its length, the address of its words, the words, their capacity. -/
structure Lev where
  n : Int
  adr : Option Addr
  ws : List Nat
  cap : Nat
instance : Inhabited Lev := ⟨⟨0, none, [], 0⟩⟩
/-- Its cells. -/
def Lev.cells (v : Lev) : List Value := [.int .i64 v.n, .slice v.adr v.ws.length v.cap]
def levC : List Lev → List Value
  | [] => []
  | o :: r => o.cells ++ levC r
theorem levC_length : ∀ os : List Lev, (levC os).length = os.length * 2
  | [] => rfl
  | o :: r => by
    unfold levC
    rw [List.length_append, levC_length r, List.length_cons]
    show 2 + r.length * 2 = _
    omega
theorem levC_get : ∀ (os : List Lev) (i : Nat) (o : Lev) (j : Nat), os[i]? = some o → j < 2 → (levC os)[i * 2 + j]? = o.cells[j]?
  | [], i, o, j, h, _ => by simp at h
  | a :: r, 0, o, j, h, hj => by
    obtain rfl : a = o := by simpa using h
    unfold levC
    rw [List.getElem?_append_left (by show 0 * 2 + j < 2; omega)]
    congr 1
    omega
  | a :: r, i + 1, o, j, h, hj => by
    unfold levC
    rw [List.getElem?_append_right (by show 2 ≤ (i + 1) * 2 + j; omega)]
    have e : (i + 1) * 2 + j - a.cells.length = i * 2 + j := by show (i + 1) * 2 + j - 2 = _; omega
    rw [e]
    exact levC_get r i o j (by simpa using h) hj
theorem levC_append (a b : List Lev) : levC (a ++ b) = levC a ++ levC b := by
  induction a with
  | nil => rfl
  | cons o r ih => show o.cells ++ levC (r ++ b) = (o.cells ++ levC r) ++ levC b; rw [ih, List.append_assoc]
theorem levC_one (os : List Lev) : ∀ u ∈ levC os, u.oneCell' = true := by
  induction os with
  | nil => intro u hu; cases hu
  | cons o r ih =>
    intro u hu
    unfold levC at hu
    rcases List.mem_append.1 hu with e | e
    · unfold Lev.cells at e
      simp only [List.mem_cons, List.not_mem_nil, or_false] at e
      rcases e with rfl | rfl <;> rfl
    · exact ih u e

/-- The slice with the address A holds the levels vs, all below block B. -/
structure Mat (w : World) (B : Nat) (A : Option Addr) (vs : List Lev) : Prop where
  heads : Lies w B A (levC vs)
  rows : ∀ v ∈ vs, Words64 w B v.adr v.ws
theorem Mat.nil {w : World} {B : Nat} {A : Option Addr} : Mat w B A [] := ⟨Lies.nil, fun _ h => by cases h⟩
theorem Mat.below {w w' : World} {B : Nat} {A : Option Addr} {rs : List Lev} (h : Mat w B A rs) (hb : Below B w w') : Mat w' B A rs := ⟨h.heads.below hb, fun r hr => (h.rows r hr).below hb⟩
theorem Mat.on {w w' : World} {A : Option Addr} {rs : List Lev} (h : Mat w w.heap.size A rs) (hb : Below w.heap.size w w') : Mat w' w'.heap.size A rs := ⟨h.heads.on hb, fun r hr => (h.rows r hr).on hb⟩
theorem Mat.alloc {w : World} {A : Option Addr} {rs : List Lev} (h : Mat w w.heap.size A rs) (o : Obj) : Mat (w.alloc o) (w.alloc o).heap.size A rs := ⟨h.heads.alloc o, fun r hr => (h.rows r hr).alloc o⟩
theorem Mat.drewN {w : World} {B : Nat} {A : Option Addr} {rs : List Lev} (h : Mat w B A rs) (n : Nat) : Mat (w.drewN n) B A rs := ⟨h.heads.drewN n, fun r hr => (h.rows r hr).drewN n⟩
theorem Mat.drew {w : World} {B : Nat} {A : Option Addr} {rs : List Lev} (h : Mat w B A rs) : Mat w.drew B A rs := ⟨h.heads.drew, fun r hr => (h.rows r hr).drew⟩
/-- A level, by its number. -/
theorem Mat.at_ {w : World} {B : Nat} {A : Option Addr} {vs : List Lev} (h : Mat w B A vs) {i : Nat} (hi : i < vs.length) :
    ∃ b p v, A = some ⟨b, p, none⟩ ∧ b < B ∧ vs[i]? = some v ∧ w.cell? ⟨b, p + i * 2, none⟩ = some (.int .i64 v.n) ∧ w.cell? ⟨b, p + i * 2 + 1, none⟩ = some (.slice v.adr v.ws.length v.cap) ∧ Words64 w B v.adr v.ws := by
  obtain ⟨b, p, e, hb, hc⟩ := h.heads (by
    intro e
    have := levC_length vs
    rw [e] at this
    simp at this
    omega)
  have hx : vs[i]? = some vs[i] := List.getElem?_eq_getElem hi
  refine ⟨b, p, vs[i], e, hb, hx, ?_, ?_, h.rows _ (List.getElem_mem hi)⟩
  · exact hc (i * 2) _ (levC_get vs i _ 0 hx (by decide))
  · rw [Nat.add_assoc]; exact hc (i * 2 + 1) _ (levC_get vs i _ 1 hx (by decide))

/-- What is known of a level that was handed in. -/
structure Lev.Fits (v : Lev) : Prop where
  wf : (Lit.int .i64 v.n).wf = true
  le : v.ws.length ≤ v.cap
  room : v.cap * 8 ≤ 140737488351232
  nil : v.adr = none → v.cap = 0

section
variable {H : Type} {enc : TypeId × Value → H} {P : Program} {w : World} {held : Bool}

/-- A slice of such structs. -/
theorem rd_levs {t e tw ew ti : TypeId} {f0 f1 : Field} {fuel : Nat} {cs : List Value} {x : DataW H × List MemPlace} (ht : P.underlying t = some (.slice e)) (hs : P.underlying e = some (.struct #[f0, f1])) (hC : P.cellsOf e = 2) (hby : P.bytesOf e = 32) (h0 : f0.type = ti) (h1 : f1.type = tw) (o0 : f0.offset = 0) (o1 : f1.offset = 1)
    (hi : P.underlying ti = some (.int .i64)) (ci : P.cellsOf ti = 1) (htw : P.underlying tw = some (.slice ew)) (ctw : P.cellsOf tw = 1) (hew : P.underlying ew = some (.int .u64)) (hcw : P.cellsOf ew = 1) (hbw : P.bytesOf ew = 8)
    (h : DataW.trod enc P w 0 (fun _ => true) held fuel t cs = some x) (hw : ∀ n ∈ x.1.weights P t, n ≤ reachBytes) :
    ∃ (A : Option Addr) (vs : List Lev) (c : Nat), cs = [.slice A vs.length c] ∧ vs.length ≤ c ∧ c * 32 ≤ 140737488351232 ∧ (A = none → c = 0) ∧ Mat w w.heap.size A vs ∧ ∀ v ∈ vs, v.Fits := by
  rcases open_slice ht h with ⟨rfl, rfl⟩ | ⟨a, len, cap, m, n, D, Pl, rfl, _, hl, _, hm, rfl, hx⟩
  · exact ⟨none, [], 0, rfl, Nat.le_refl _, by omega, fun _ => rfl, Mat.nil, fun o ho => by cases ho⟩
  · simp only [if_true] at hm
    subst hm
    rw [hC] at hx
    obtain ⟨B, hB⟩ := choose_lt (α := Lev) (n := len) (p := fun i o => o.Fits ∧ Words64 w w.heap.size o.adr o.ws ∧ ∀ j u, o.cells[j]? = some u → w.cell? ((a.add (i * 2)).add j) = some u) (fun i hlt => by
      obtain ⟨cs', hc, ht'⟩ := hx i (by omega)
      obtain ⟨z, A, ws, c, rfl, r0, r1, r2, r3, r4⟩ := rd_bits hs hC h0 h1 o0 o1 hi ci htw ctw hew hcw hbw ht' (fun k hk => hw k (by
        simp only [DataW.weights, ht, List.mem_cons, List.mem_append]
        right; left
        have hmem : D i ∈ (List.range len).map D := List.mem_map.2 ⟨i, List.mem_range.2 hlt, rfl⟩
        generalize (List.range len).map D = l at hmem
        induction l with
        | nil => cases hmem
        | cons d r ih =>
          rw [DataW.weightsAll, List.mem_append]
          rcases List.mem_cons.1 hmem with e | e
          · left; rw [← e]; exact hk
          · right; exact ih e))
      obtain ⟨_, hcl, hat⟩ := World.cells?_some hc
      refine ⟨⟨z, A, ws, c⟩, ⟨r0, r1, r2, r3⟩, r4, fun j u hu => ?_⟩
      have hj : j < 2 := (List.getElem?_eq_some_iff.1 hu).1
      rw [hat j hj]
      exact hu)
    have hlenB : ((List.range len).map B).length = len := by simp
    refine ⟨some a, (List.range len).map B, m, by rw [hlenB], by rw [hlenB]; exact hl, ?_, (fun e => by cases e), ⟨?_, ?_⟩, ?_⟩
    · have := hw ((((List.range len).map D).length + ((List.range (m - len)).map fun j => D (len + j)).length) * P.bytesOf e) (by simp [DataW.weights, ht])
      simp only [List.length_map, List.length_range, hby, reachBytes] at this
      rwa [show len + (m - len) = m by omega] at this
    · intro hne
      have hlp : 0 < len := by
        rcases Nat.eq_zero_or_pos len with e | e
        · subst e; exact absurd rfl hne
        · exact e
      obtain ⟨b, o, s⟩ := a
      have hc0 := (hB 0 hlp).2.2 0 _ rfl
      have hs0 : s = none := by simpa [Addr.add] using World.cell?_spot hc0
      subst hs0
      have hbl : b < w.heap.size := by simpa [Addr.add] using cell_lt hc0
      refine ⟨b, o, rfl, hbl, fun j v hv => ?_⟩
      have hj : j < len * 2 := by
        have h4 := (List.getElem?_eq_some_iff.1 hv).1
        rw [levC_length, hlenB] at h4
        exact h4
      have hq : j / 2 < len := by omega
      have hge : ((List.range len).map B)[j / 2]? = some (B (j / 2)) := by rw [List.getElem?_map, List.getElem?_range hq]; rfl
      have hg := levC_get _ (j / 2) _ (j % 2) hge (Nat.mod_lt _ (by decide))
      rw [show j / 2 * 2 + j % 2 = j by omega, hv] at hg
      have h5 := (hB (j / 2) hq).2.2 (j % 2) v hg.symm
      rw [Addr.add_lit, Addr.add_lit, show o + j / 2 * 2 + j % 2 = o + j by omega] at h5
      exact h5
    · intro o ho
      obtain ⟨i, hi2, rfl⟩ := List.mem_map.1 ho
      exact (hB i (List.mem_range.1 hi2)).2.1
    · intro o ho
      obtain ⟨i, hi2, rfl⟩ := List.mem_map.1 ho
      exact (hB i (List.mem_range.1 hi2)).1

/-- A struct of such a slice alone. -/
theorem rd_wave {t tl e tw ew ti : TypeId} {f0 f1 g : Field} {fuel : Nat} {cs : List Value} {x : DataW H × List MemPlace} (hst : P.underlying t = some (.struct #[g])) (hCt : P.cellsOf t = 1) (hg : g.type = tl) (og : g.offset = 0) (ctl : P.cellsOf tl = 1)
    (ht : P.underlying tl = some (.slice e)) (hs : P.underlying e = some (.struct #[f0, f1])) (hC : P.cellsOf e = 2) (hby : P.bytesOf e = 32) (h0 : f0.type = ti) (h1 : f1.type = tw) (o0 : f0.offset = 0) (o1 : f1.offset = 1)
    (hi : P.underlying ti = some (.int .i64)) (ci : P.cellsOf ti = 1) (htw : P.underlying tw = some (.slice ew)) (ctw : P.cellsOf tw = 1) (hew : P.underlying ew = some (.int .u64)) (hcw : P.cellsOf ew = 1) (hbw : P.bytesOf ew = 8)
    (h : DataW.trod enc P w 0 (fun _ => true) held fuel t cs = some x) (hw : ∀ n ∈ x.1.weights P t, n ≤ reachBytes) :
    ∃ (A : Option Addr) (vs : List Lev) (c : Nat), cs = [.slice A vs.length c] ∧ vs.length ≤ c ∧ c * 32 ≤ 140737488351232 ∧ (A = none → c = 0) ∧ Mat w w.heap.size A vs ∧ ∀ v ∈ vs, v.Fits := by
  obtain ⟨hl, hf⟩ := rd_struct hst h hw
  rw [hCt] at hl
  match cs, hl with
  | [c0], _ =>
    obtain ⟨m0, y0, g0, w0⟩ := hf 0 g rfl
    rw [hg, og, ctl] at g0
    rw [hg] at w0
    exact rd_levs ht hs hC hby h0 h1 o0 o1 hi ci htw ctw hew hcw hbw g0 w0
end
end Go.Proofs.Ytjgibbccjijpaaa
