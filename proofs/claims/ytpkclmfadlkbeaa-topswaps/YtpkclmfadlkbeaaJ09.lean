/-
  Words for memory, of no program: a slice of structs of an integer and a slice of words (the levels of a wavelet matrix), what becomes of it where new memory is made; what the reading of such an argument comes to. Plain mathematics of a stable sort by whatever order is asked: rows as functions, exchanged and turned ranges, merging in place. A part of a slice, for every world. Points and rectangles: plain mathematics (valid, in a rectangle, the places of those that are) and memory. The orders of points that the document's grid answers go by. Plain mathematics of packed arrays, of no program: numbers of a fixed number of bits laid in words of 64 bits, what makes an array valid, reading and laying a number over a word's end, the number of bits that a number needs. Plain mathematics of points in an order: their keys, their places, which of them come in a range. 'append' of structs, of no program; a row of structs as a slice. No condition but what each theorem names.
-/
import Derived.Test.YtpkclmfadlkbeaaJ03
import Derived.Test.YtpkclmfadlkbeaaJ05
import Derived.Sort.LotA
import Derived.Test.YtpkclmfadlkbeaaJ01
import Derived.Test.YtpkclmfadlkbeaaJ02
import Derived.IntWalk
import Derived.Lib.BitFns
import Derived.Deep.AppendLies
namespace Go.Proofs.Ytpkclmfadlkbeaa
open Go.RowKit Go.ChangeShapes Go.WideShapes Go.Deep Words

/-- A level: its length, the address of its words, the words, their capacity. -/
structure Lev where
  n : Int
  adr : Option Addr
  ws : List Nat
  cap : Nat
instance : Inhabited Lev := ⟨⟨0, none, [], 0⟩⟩
/-- Its cells. -/
def Lev.cells (v : Lev) : List Value := [.int .i64 v.n, .slice v.adr v.ws.length v.cap]
def levC : List Lev → List Value
  | [] => []
  | o :: r => o.cells ++ levC r
theorem levC_length : ∀ os : List Lev, (levC os).length = os.length * 2
  | [] => rfl
  | o :: r => by
    unfold levC
    rw [List.length_append, levC_length r, List.length_cons]
    show 2 + r.length * 2 = _
    omega
theorem levC_get : ∀ (os : List Lev) (i : Nat) (o : Lev) (j : Nat), os[i]? = some o → j < 2 → (levC os)[i * 2 + j]? = o.cells[j]?
  | [], i, o, j, h, _ => by simp at h
  | a :: r, 0, o, j, h, hj => by
    obtain rfl : a = o := by simpa using h
    unfold levC
    rw [List.getElem?_append_left (by show 0 * 2 + j < 2; omega)]
    congr 1
    omega
  | a :: r, i + 1, o, j, h, hj => by
    unfold levC
    rw [List.getElem?_append_right (by show 2 ≤ (i + 1) * 2 + j; omega)]
    have e : (i + 1) * 2 + j - a.cells.length = i * 2 + j := by show (i + 1) * 2 + j - 2 = _; omega
    rw [e]
    exact levC_get r i o j (by simpa using h) hj
theorem levC_append (a b : List Lev) : levC (a ++ b) = levC a ++ levC b := by
  induction a with
  | nil => rfl
  | cons o r ih => show o.cells ++ levC (r ++ b) = (o.cells ++ levC r) ++ levC b; rw [ih, List.append_assoc]
theorem levC_one (os : List Lev) : ∀ u ∈ levC os, u.oneCell' = true := by
  induction os with
  | nil => intro u hu; cases hu
  | cons o r ih =>
    intro u hu
    unfold levC at hu
    rcases List.mem_append.1 hu with e | e
    · unfold Lev.cells at e
      simp only [List.mem_cons, List.not_mem_nil, or_false] at e
      rcases e with rfl | rfl <;> rfl
    · exact ih u e

/-- The slice with the address A holds the levels vs, all below block B. -/
structure Mat (w : World) (B : Nat) (A : Option Addr) (vs : List Lev) : Prop where
  heads : Lies w B A (levC vs)
  rows : ∀ v ∈ vs, Words64 w B v.adr v.ws
theorem Mat.nil {w : World} {B : Nat} {A : Option Addr} : Mat w B A [] := ⟨Lies.nil, fun _ h => by cases h⟩
theorem Mat.below {w w' : World} {B : Nat} {A : Option Addr} {rs : List Lev} (h : Mat w B A rs) (hb : Below B w w') : Mat w' B A rs := ⟨h.heads.below hb, fun r hr => (h.rows r hr).below hb⟩
theorem Mat.on {w w' : World} {A : Option Addr} {rs : List Lev} (h : Mat w w.heap.size A rs) (hb : Below w.heap.size w w') : Mat w' w'.heap.size A rs := ⟨h.heads.on hb, fun r hr => (h.rows r hr).on hb⟩
theorem Mat.alloc {w : World} {A : Option Addr} {rs : List Lev} (h : Mat w w.heap.size A rs) (o : Obj) : Mat (w.alloc o) (w.alloc o).heap.size A rs := ⟨h.heads.alloc o, fun r hr => (h.rows r hr).alloc o⟩
theorem Mat.drewN {w : World} {B : Nat} {A : Option Addr} {rs : List Lev} (h : Mat w B A rs) (n : Nat) : Mat (w.drewN n) B A rs := ⟨h.heads.drewN n, fun r hr => (h.rows r hr).drewN n⟩
theorem Mat.drew {w : World} {B : Nat} {A : Option Addr} {rs : List Lev} (h : Mat w B A rs) : Mat w.drew B A rs := ⟨h.heads.drew, fun r hr => (h.rows r hr).drew⟩
/-- A level, by its number. -/
theorem Mat.at_ {w : World} {B : Nat} {A : Option Addr} {vs : List Lev} (h : Mat w B A vs) {i : Nat} (hi : i < vs.length) :
    ∃ b p v, A = some ⟨b, p, none⟩ ∧ b < B ∧ vs[i]? = some v ∧ w.cell? ⟨b, p + i * 2, none⟩ = some (.int .i64 v.n) ∧ w.cell? ⟨b, p + i * 2 + 1, none⟩ = some (.slice v.adr v.ws.length v.cap) ∧ Words64 w B v.adr v.ws := by
  obtain ⟨b, p, e, hb, hc⟩ := h.heads (by
    intro e
    have := levC_length vs
    rw [e] at this
    simp at this
    omega)
  have hx : vs[i]? = some vs[i] := List.getElem?_eq_getElem hi
  refine ⟨b, p, vs[i], e, hb, hx, ?_, ?_, h.rows _ (List.getElem_mem hi)⟩
  · exact hc (i * 2) _ (levC_get vs i _ 0 hx (by decide))
  · rw [Nat.add_assoc]; exact hc (i * 2 + 1) _ (levC_get vs i _ 1 hx (by decide))

/-- What is known of a level that was handed in. -/
structure Lev.Fits (v : Lev) : Prop where
  wf : (Lit.int .i64 v.n).wf = true
  le : v.ws.length ≤ v.cap
  room : v.cap * 8 ≤ 140737488351232
  nil : v.adr = none → v.cap = 0

section
variable {H : Type} {enc : TypeId × Value → H} {P : Program} {w : World} {held : Bool}

/-- A slice of such structs. -/
theorem rd_levs {t e tw ew ti : TypeId} {f0 f1 : Field} {fuel : Nat} {cs : List Value} {x : DataW H × List MemPlace} (ht : P.underlying t = some (.slice e)) (hs : P.underlying e = some (.struct #[f0, f1])) (hC : P.cellsOf e = 2) (hby : P.bytesOf e = 32) (h0 : f0.type = ti) (h1 : f1.type = tw) (o0 : f0.offset = 0) (o1 : f1.offset = 1)
    (hi : P.underlying ti = some (.int .i64)) (ci : P.cellsOf ti = 1) (htw : P.underlying tw = some (.slice ew)) (ctw : P.cellsOf tw = 1) (hew : P.underlying ew = some (.int .u64)) (hcw : P.cellsOf ew = 1) (hbw : P.bytesOf ew = 8)
    (h : DataW.trod enc P w 0 (fun _ => true) held fuel t cs = some x) (hw : ∀ n ∈ x.1.weights P t, n ≤ reachBytes) :
    ∃ (A : Option Addr) (vs : List Lev) (c : Nat), cs = [.slice A vs.length c] ∧ vs.length ≤ c ∧ c * 32 ≤ 140737488351232 ∧ (A = none → c = 0) ∧ Mat w w.heap.size A vs ∧ ∀ v ∈ vs, v.Fits := by
  rcases open_slice ht h with ⟨rfl, rfl⟩ | ⟨a, len, cap, m, n, D, Pl, rfl, _, hl, _, hm, rfl, hx⟩
  · exact ⟨none, [], 0, rfl, Nat.le_refl _, by omega, fun _ => rfl, Mat.nil, fun o ho => by cases ho⟩
  · simp only [if_true] at hm
    subst hm
    rw [hC] at hx
    obtain ⟨B, hB⟩ := choose_lt (α := Lev) (n := len) (p := fun i o => o.Fits ∧ Words64 w w.heap.size o.adr o.ws ∧ ∀ j u, o.cells[j]? = some u → w.cell? ((a.add (i * 2)).add j) = some u) (fun i hlt => by
      obtain ⟨cs', hc, ht'⟩ := hx i (by omega)
      obtain ⟨z, A, ws, c, rfl, r0, r1, r2, r3, r4⟩ := rd_bits hs hC h0 h1 o0 o1 hi ci htw ctw hew hcw hbw ht' (fun k hk => hw k (by
        simp only [DataW.weights, ht, List.mem_cons, List.mem_append]
        right; left
        have hmem : D i ∈ (List.range len).map D := List.mem_map.2 ⟨i, List.mem_range.2 hlt, rfl⟩
        generalize (List.range len).map D = l at hmem
        induction l with
        | nil => cases hmem
        | cons d r ih =>
          rw [DataW.weightsAll, List.mem_append]
          rcases List.mem_cons.1 hmem with e | e
          · left; rw [← e]; exact hk
          · right; exact ih e))
      obtain ⟨_, hcl, hat⟩ := World.cells?_some hc
      refine ⟨⟨z, A, ws, c⟩, ⟨r0, r1, r2, r3⟩, r4, fun j u hu => ?_⟩
      have hj : j < 2 := (List.getElem?_eq_some_iff.1 hu).1
      rw [hat j hj]
      exact hu)
    have hlenB : ((List.range len).map B).length = len := by simp
    refine ⟨some a, (List.range len).map B, m, by rw [hlenB], by rw [hlenB]; exact hl, ?_, (fun e => by cases e), ⟨?_, ?_⟩, ?_⟩
    · have := hw ((((List.range len).map D).length + ((List.range (m - len)).map fun j => D (len + j)).length) * P.bytesOf e) (by simp [DataW.weights, ht])
      simp only [List.length_map, List.length_range, hby, reachBytes] at this
      rwa [show len + (m - len) = m by omega] at this
    · intro hne
      have hlp : 0 < len := by
        rcases Nat.eq_zero_or_pos len with e | e
        · subst e; exact absurd rfl hne
        · exact e
      obtain ⟨b, o, s⟩ := a
      have hc0 := (hB 0 hlp).2.2 0 _ rfl
      have hs0 : s = none := by simpa [Addr.add] using World.cell?_spot hc0
      subst hs0
      have hbl : b < w.heap.size := by simpa [Addr.add] using cell_lt hc0
      refine ⟨b, o, rfl, hbl, fun j v hv => ?_⟩
      have hj : j < len * 2 := by
        have h4 := (List.getElem?_eq_some_iff.1 hv).1
        rw [levC_length, hlenB] at h4
        exact h4
      have hq : j / 2 < len := by omega
      have hge : ((List.range len).map B)[j / 2]? = some (B (j / 2)) := by rw [List.getElem?_map, List.getElem?_range hq]; rfl
      have hg := levC_get _ (j / 2) _ (j % 2) hge (Nat.mod_lt _ (by decide))
      rw [show j / 2 * 2 + j % 2 = j by omega, hv] at hg
      have h5 := (hB (j / 2) hq).2.2 (j % 2) v hg.symm
      rw [Addr.add_lit, Addr.add_lit, show o + j / 2 * 2 + j % 2 = o + j by omega] at h5
      exact h5
    · intro o ho
      obtain ⟨i, hi2, rfl⟩ := List.mem_map.1 ho
      exact (hB i (List.mem_range.1 hi2)).2.1
    · intro o ho
      obtain ⟨i, hi2, rfl⟩ := List.mem_map.1 ho
      exact (hB i (List.mem_range.1 hi2)).1

/-- A struct of such a slice alone. -/
theorem rd_wave {t tl e tw ew ti : TypeId} {f0 f1 g : Field} {fuel : Nat} {cs : List Value} {x : DataW H × List MemPlace} (hst : P.underlying t = some (.struct #[g])) (hCt : P.cellsOf t = 1) (hg : g.type = tl) (og : g.offset = 0) (ctl : P.cellsOf tl = 1)
    (ht : P.underlying tl = some (.slice e)) (hs : P.underlying e = some (.struct #[f0, f1])) (hC : P.cellsOf e = 2) (hby : P.bytesOf e = 32) (h0 : f0.type = ti) (h1 : f1.type = tw) (o0 : f0.offset = 0) (o1 : f1.offset = 1)
    (hi : P.underlying ti = some (.int .i64)) (ci : P.cellsOf ti = 1) (htw : P.underlying tw = some (.slice ew)) (ctw : P.cellsOf tw = 1) (hew : P.underlying ew = some (.int .u64)) (hcw : P.cellsOf ew = 1) (hbw : P.bytesOf ew = 8)
    (h : DataW.trod enc P w 0 (fun _ => true) held fuel t cs = some x) (hw : ∀ n ∈ x.1.weights P t, n ≤ reachBytes) :
    ∃ (A : Option Addr) (vs : List Lev) (c : Nat), cs = [.slice A vs.length c] ∧ vs.length ≤ c ∧ c * 32 ≤ 140737488351232 ∧ (A = none → c = 0) ∧ Mat w w.heap.size A vs ∧ ∀ v ∈ vs, v.Fits := by
  obtain ⟨hl, hf⟩ := rd_struct hst h hw
  rw [hCt] at hl
  match cs, hl with
  | [c0], _ =>
    obtain ⟨m0, y0, g0, w0⟩ := hf 0 g rfl
    rw [hg, og, ctl] at g0
    rw [hg] at w0
    exact rd_levs ht hs hC hby h0 h1 o0 o1 hi ci htw ctw hew hcw hbw g0 w0
end
end Go.Proofs.Ytpkclmfadlkbeaa

namespace Go.Proofs.Ytpkclmfadlkbeaa
open Go.Sort
variable {α : Type}

/-- The n places from a and the n places from b change their values. -/
def swF (f : Nat → α) (a b n : Nat) : Nat → α := fun j => if a ≤ j ∧ j < a + n then f (j - a + b) else if b ≤ j ∧ j < b + n then f (j - b + a) else f j
/-- The values from m on come ahead of the values from a on. -/
def rotF (f : Nat → α) (a m b : Nat) : Nat → α := fun j => if a ≤ j ∧ j < a + (b - m) then f (j + (m - a)) else if a + (b - m) ≤ j ∧ j < b then f (j - (b - m)) else f j
/-- The values from a on, ahead of b. -/
def sgF (f : Nat → α) (a b : Nat) : List α := (List.range' a (b - a)).map f

theorem swF_zero (f : Nat → α) (a b : Nat) : swF f a b 0 = f := by
  funext j
  unfold swF
  rw [if_neg (by omega), if_neg (by omega)]
theorem swF_succ (f : Nat → α) (a b n : Nat) (h : a + (n + 1) ≤ b) : swF f a b (n + 1) = fun j => if j = b + n then swF f a b n (a + n) else if j = a + n then swF f a b n (b + n) else swF f a b n j := by
  funext j
  unfold swF
  have e1 : ¬ (a ≤ a + n ∧ a + n < a + n) := by omega
  have e2 : ¬ (b ≤ a + n ∧ a + n < b + n) := by omega
  have e3 : ¬ (a ≤ b + n ∧ b + n < a + n) := by omega
  have e4 : ¬ (b ≤ b + n ∧ b + n < b + n) := by omega
  rw [if_neg e1, if_neg e2, if_neg e3, if_neg e4]
  by_cases h1 : j = b + n
  · rw [if_neg (by omega), if_pos (by omega), if_pos h1]
    congr 1; omega
  · rw [if_neg h1]
    by_cases h2 : j = a + n
    · rw [if_pos (by omega), if_pos h2]
      congr 1; omega
    · rw [if_neg h2]
      by_cases h3 : a ≤ j ∧ j < a + n
      · rw [if_pos (by omega), if_pos h3]
      · rw [if_neg (by omega), if_neg h3]
        by_cases h4 : b ≤ j ∧ j < b + n
        · rw [if_pos (by omega), if_pos h4]
        · rw [if_neg (by omega), if_neg h4]

/-- The two steps of a turn by exchanges, and its end. -/
theorem rotF_left (f : Nat → α) (m i j : Nat) (hi : i ≤ m) (h : j < i) : rotF (swF f (m - i) m j) (m - (i - j)) m (m + j) = rotF f (m - i) m (m + j) := by
  funext k
  unfold rotF swF
  repeat' split
  all_goals first | rfl | (exfalso; omega) | (congr 1; omega)
theorem rotF_right (f : Nat → α) (m i j : Nat) (hi : i ≤ m) (h : i < j) : rotF (swF f (m - i) (m + j - i) i) (m - i) m (m + (j - i)) = rotF f (m - i) m (m + j) := by
  funext k
  unfold rotF swF
  repeat' split
  all_goals first | rfl | (exfalso; omega) | (congr 1; omega)
theorem rotF_even (f : Nat → α) (m i : Nat) (hi : i ≤ m) : swF f (m - i) m i = rotF f (m - i) m (m + i) := by
  funext k
  unfold rotF swF
  repeat' split
  all_goals first | rfl | (exfalso; omega) | (congr 1; omega)
/-- One value goes up, one goes down, step by step. -/
theorem rotF_up (f : Nat → α) (a i : Nat) (h : a ≤ i) : (fun j => if j = i + 1 then rotF f a (a + 1) (i + 1) i else if j = i then rotF f a (a + 1) (i + 1) (i + 1) else rotF f a (a + 1) (i + 1) j) = rotF f a (a + 1) (i + 2) := by
  funext k
  unfold rotF
  repeat' split
  all_goals first | rfl | (exfalso; omega) | (congr 1; omega)
theorem rotF_down (f : Nat → α) (m i : Nat) (h : i < m) : (fun j => if j = i then rotF f (i + 1) m (m + 1) (i + 1) else if j = i + 1 then rotF f (i + 1) m (m + 1) i else rotF f (i + 1) m (m + 1) j) = rotF f i m (m + 1) := by
  funext k
  unfold rotF
  repeat' split
  all_goals first | rfl | (exfalso; omega) | (congr 1; omega)
theorem rotF_none (f : Nat → α) (a b : Nat) : rotF f a a b = f := by
  funext k
  unfold rotF
  repeat' split
  all_goals first | rfl | (exfalso; omega) | (congr 1; omega)
theorem rotF_none' (f : Nat → α) (a b : Nat) : rotF f a b b = f := by
  funext k
  unfold rotF
  repeat' split
  all_goals first | rfl | (exfalso; omega) | (congr 1; omega)
theorem rotF_out (f : Nat → α) (a m b j : Nat) (hm : a ≤ m) (hb : m ≤ b) (h : j < a ∨ b ≤ j) : rotF f a m b j = f j := by
  unfold rotF
  rw [if_neg (by omega), if_neg (by omega)]
theorem rotF_low (f : Nat → α) (a m b j : Nat) (h1 : a ≤ j) (h2 : j < a + (b - m)) : rotF f a m b j = f (j + (m - a)) := by
  unfold rotF
  rw [if_pos ⟨h1, h2⟩]
theorem rotF_high (f : Nat → α) (a m b j : Nat) (h1 : a + (b - m) ≤ j) (h2 : j < b) : rotF f a m b j = f (j - (b - m)) := by
  unfold rotF
  rw [if_neg (by omega), if_pos ⟨h1, h2⟩]

theorem sgF_app (f : Nat → α) (a b c : Nat) (h1 : a ≤ b) (h2 : b ≤ c) : sgF f a b ++ sgF f b c = sgF f a c := by
  unfold sgF
  rw [← List.map_append]
  have := List.range'_append (s := a) (m := b - a) (n := c - b) (step := 1)
  rw [show a + 1 * (b - a) = b by omega, show b - a + (c - b) = c - a by omega] at this
  rw [this]
theorem sgF_eq {f g : Nat → α} {a b : Nat} (h : ∀ j, a ≤ j → j < b → f j = g j) : sgF f a b = sgF g a b := by
  unfold sgF
  exact List.map_congr_left fun j hj => by
    obtain ⟨h1, h2⟩ := List.mem_range'_1.1 hj
    exact h j h1 (by omega)
theorem sgF_off {f g : Nat → α} {a b a' b' : Nat} (hl : b' - a' = b - a) (h : ∀ k, k < b - a → f (a' + k) = g (a + k)) : sgF f a' b' = sgF g a b := by
  unfold sgF
  rw [hl]
  apply List.ext_getElem?
  intro k
  rw [List.getElem?_map, List.getElem?_map]
  rcases Nat.lt_or_ge k (b - a) with hk | hk
  · rw [List.getElem?_range' hk, List.getElem?_range' hk]
    simp only [Option.map_some, Nat.one_mul]
    rw [h k hk]
  · rw [List.getElem?_eq_none (by rw [List.length_range']; exact hk), List.getElem?_eq_none (by rw [List.length_range']; exact hk)]; rfl
theorem sgF_nil (f : Nat → α) (a : Nat) : sgF f a a = [] := by simp [sgF]
theorem mem_sgF {f : Nat → α} {a b : Nat} {x : α} : x ∈ sgF f a b ↔ ∃ j, a ≤ j ∧ j < b ∧ f j = x := by
  unfold sgF
  rw [List.mem_map]
  constructor
  · rintro ⟨j, hj, rfl⟩
    obtain ⟨h1, h2⟩ := List.mem_range'_1.1 hj
    exact ⟨j, h1, by omega, rfl⟩
  · rintro ⟨j, h1, h2, rfl⟩
    exact ⟨j, List.mem_range'_1.2 ⟨h1, by omega⟩, rfl⟩
theorem sgF_rot (f : Nat → α) (a m b : Nat) (hm : a ≤ m) (hb : m ≤ b) : sgF (rotF f a m b) a b = sgF f m b ++ sgF f a m := by
  rw [← sgF_app (rotF f a m b) a (a + (b - m)) b (by omega) (by omega)]
  congr 1
  · exact sgF_off (by omega) fun k hk => by rw [rotF_low f a m b _ (by omega) (by omega)]; congr 1; omega
  · exact sgF_off (by omega) fun k hk => by rw [rotF_high f a m b _ (by omega) (by omega)]; congr 1; omega

/-- No later value is less than an earlier one. -/
def Asc (lt : α → α → Bool) (f : Nat → α) (a b : Nat) : Prop := ∀ i j, a ≤ i → i < j → j < b → lt (f j) (f i) = false
/-- Neither is less. -/
def eqv (lt : α → α → Bool) (x y : α) : Bool := !lt x y && !lt y x
theorem eqv_iff {lt : α → α → Bool} {x y : α} : eqv lt x y = true ↔ lt x y = false ∧ lt y x = false := by
  unfold eqv
  cases lt x y <;> cases lt y x <;> simp
theorem eqv_self {lt : α → α → Bool} (hS : SWO lt) (x : α) : eqv lt x x = true := eqv_iff.2 ⟨hS.irrefl x, hS.irrefl x⟩
theorem asym {lt : α → α → Bool} (hS : SWO lt) {x y : α} (h : lt x y = true) : lt y x = false := by
  cases hy : lt y x with
  | false => rfl
  | true => have := hS.trans x y x h hy; rw [hS.irrefl] at this; cases this
/-- Not less, then less. -/
theorem le_lt {lt : α → α → Bool} (hS : SWO lt) {x y z : α} (h1 : lt y x = false) (h2 : lt y z = true) : lt x z = true := by
  cases h : lt x z with
  | true => rfl
  | false => rw [hS.ntrans y x z h1 h] at h2; cases h2
theorem lt_le {lt : α → α → Bool} (hS : SWO lt) {x y z : α} (h1 : lt x y = true) (h2 : lt z y = false) : lt x z = true := by
  cases h : lt x z with
  | true => rfl
  | false => rw [hS.ntrans x z y h h2] at h1; cases h1

/-- From a up to b the values have changed places, equals among themselves in their order; nothing else has changed. -/
structure Kept (lt : α → α → Bool) (f g : Nat → α) (a b : Nat) : Prop where
  out : ∀ j, (j < a ∨ b ≤ j) → g j = f j
  cls : ∀ x, (sgF g a b).filter (eqv lt x) = (sgF f a b).filter (eqv lt x)
theorem Kept.refl (lt : α → α → Bool) (f : Nat → α) (a b : Nat) : Kept lt f f a b := ⟨fun _ _ => rfl, fun _ => rfl⟩
theorem Kept.trans {lt : α → α → Bool} {f g h : Nat → α} {a b : Nat} (h1 : Kept lt f g a b) (h2 : Kept lt g h a b) : Kept lt f h a b := ⟨fun j hj => (h2.out j hj).trans (h1.out j hj), fun x => (h2.cls x).trans (h1.cls x)⟩
theorem Kept.wide {lt : α → α → Bool} {f g : Nat → α} {a b a' b' : Nat} (h : Kept lt f g a b) (h1 : a' ≤ a) (hab : a ≤ b) (h2 : b ≤ b') : Kept lt f g a' b' := by
  have e1 : sgF g a' a = sgF f a' a := sgF_eq fun j _ hj => h.out j (.inl hj)
  have e2 : sgF g b b' = sgF f b b' := sgF_eq fun j hj _ => h.out j (.inr hj)
  refine ⟨fun j hj => h.out j (by omega), fun x => ?_⟩
  rw [← sgF_app g a' a b' h1 (by omega), ← sgF_app g a b b' hab h2, ← sgF_app f a' a b' h1 (by omega), ← sgF_app f a b b' hab h2]
  simp only [List.filter_append]
  rw [h.cls, e1, e2]
/-- A value behind was there before. -/
theorem Kept.was {lt : α → α → Bool} (hS : SWO lt) {f g : Nat → α} {a b : Nat} (h : Kept lt f g a b) {j : Nat} (h1 : a ≤ j) (h2 : j < b) : ∃ i, a ≤ i ∧ i < b ∧ f i = g j := by
  have hm : g j ∈ (sgF g a b).filter (eqv lt (g j)) := List.mem_filter.2 ⟨mem_sgF.2 ⟨j, h1, h2, rfl⟩, eqv_self hS _⟩
  rw [h.cls] at hm
  obtain ⟨i, g1, g2, g3⟩ := mem_sgF.1 (List.mem_filter.1 hm).1
  exact ⟨i, g1, g2, g3⟩
/-- A turn of lesser ones ahead of greater ones. -/
theorem kept_rot {lt : α → α → Bool} (hS : SWO lt) {f : Nat → α} {a m b : Nat} (hm : a ≤ m) (hb : m ≤ b) (hl : ∀ i j, a ≤ i → i < m → m ≤ j → j < b → lt (f j) (f i) = true) : Kept lt f (rotF f a m b) a b := by
  refine ⟨fun j hj => rotF_out f a m b j hm hb hj, fun x => ?_⟩
  rw [sgF_rot f a m b hm hb, ← sgF_app f a m b hm hb]
  simp only [List.filter_append]
  by_cases h1 : (sgF f a m).filter (eqv lt x) = []
  · rw [h1]; simp
  · have h2 : (sgF f m b).filter (eqv lt x) = [] := by
      rw [List.filter_eq_nil_iff]
      intro y hy hxy
      obtain ⟨j, j1, j2, rfl⟩ := mem_sgF.1 hy
      obtain ⟨z, hz⟩ := List.exists_mem_of_ne_nil _ h1
      obtain ⟨hz1, hz2⟩ := List.mem_filter.1 hz
      obtain ⟨i, i1, i2, rfl⟩ := mem_sgF.1 hz1
      have e1 := eqv_iff.1 hxy
      have e2 := eqv_iff.1 hz2
      have := hl i j i1 i2 j1 j2
      rw [hS.ntrans _ _ _ e1.2 e2.1] at this
      cases this
    rw [h2]; simp
theorem Asc.sub {lt : α → α → Bool} {f : Nat → α} {a b a' b' : Nat} (h : Asc lt f a b) (h1 : a ≤ a') (h2 : b' ≤ b) : Asc lt f a' b' := fun i j hi hij hj => h i j (by omega) hij (by omega)
theorem Asc.le {lt : α → α → Bool} (hS : SWO lt) {f : Nat → α} {a b : Nat} (h : Asc lt f a b) {i j : Nat} (hi : a ≤ i) (hij : i ≤ j) (hj : j < b) : lt (f j) (f i) = false := by
  rcases Nat.lt_or_eq_of_le hij with g | g
  · exact h i j hi g hj
  · rw [← g]; exact hS.irrefl _
theorem Asc.eq {lt : α → α → Bool} {f g : Nat → α} {a b : Nat} (h : Asc lt f a b) (he : ∀ j, a ≤ j → j < b → g j = f j) : Asc lt g a b := fun i j hi hij hj => by
  rw [he j (by omega) hj, he i hi (by omega)]
  exact h i j hi hij hj
theorem Asc.off {lt : α → α → Bool} {f g : Nat → α} {a b a' b' : Nat} (h : Asc lt f a b) (hl : b' - a' = b - a) (hb : a' ≤ b') (he : ∀ k, k < b - a → g (a' + k) = f (a + k)) : Asc lt g a' b' := fun i j hi hij hj => by
  rw [show j = a' + (j - a') by omega, he _ (by omega), show i = a' + (i - a') by omega, he _ (by omega)]
  exact h _ _ (by omega) (by omega) (by omega)

/-- One value ahead of a sorted range. -/
theorem merge_one {lt : α → α → Bool} (hS : SWO lt) {f : Nat → α} {a i b : Nat} (hs : Asc lt f (a + 1) b) (h1 : a + 1 ≤ i) (h2 : i ≤ b) (hlo : i = a + 1 ∨ lt (f (i - 1)) (f a) = true) (hhi : i = b ∨ lt (f i) (f a) = false) :
    Kept lt f (rotF f a (a + 1) i) a b ∧ Asc lt (rotF f a (a + 1) i) a b := by
  have hless : ∀ j, a + 1 ≤ j → j < i → lt (f j) (f a) = true := fun j g1 g2 => by
    rcases hlo with h | h
    · omega
    · exact le_lt hS (hs.le hS g1 (show j ≤ i - 1 by omega) (by omega)) h
  constructor
  · exact (kept_rot hS (by omega) h1 (fun p j g1 g2 g3 g4 => by rw [show p = a by omega]; exact hless j g3 g4)).wide (Nat.le_refl _) (by omega) h2
  · intro p q g1 g2 g3
    have hge : ∀ j, i ≤ j → j < b → lt (f j) (f a) = false := fun j k1 k2 => by
      rcases hhi with h | h
      · omega
      · exact hS.ntrans _ _ _ (hs.le hS (by omega) k1 k2) h
    rcases Nat.lt_or_ge p (i - 1) with c | c
    · rw [rotF_low f a (a + 1) i p g1 (by omega)]
      rcases Nat.lt_or_ge q (i - 1) with d | d
      · rw [rotF_low f a (a + 1) i q (by omega) (by omega)]
        exact hs.le hS (by omega) (by omega) (by omega)
      · rcases Nat.lt_or_ge q i with d2 | d2
        · rw [rotF_high f a (a + 1) i q (by omega) d2, show q - (i - (a + 1)) = a by omega]
          exact asym hS (hless _ (by omega) (by omega))
        · rw [rotF_out f a (a + 1) i q (by omega) h1 (.inr d2)]
          exact hs.le hS (by omega) (by omega) g3
    · rw [rotF_out f a (a + 1) i q (by omega) h1 (.inr (by omega))]
      rcases Nat.lt_or_ge p i with c2 | c2
      · rw [rotF_high f a (a + 1) i p (by omega) c2, show p - (i - (a + 1)) = a by omega]
        exact hge q (by omega) g3
      · rw [rotF_out f a (a + 1) i p (by omega) h1 (.inr c2)]
        exact hs.le hS (by omega) (by omega) g3
/-- One value behind a sorted range. -/
theorem merge_last {lt : α → α → Bool} (hS : SWO lt) {f : Nat → α} {a i m : Nat} (hs : Asc lt f a m) (h1 : a ≤ i) (h2 : i ≤ m) (hlo : i = a ∨ lt (f m) (f (i - 1)) = false) (hhi : i = m ∨ lt (f m) (f i) = true) :
    Kept lt f (rotF f i m (m + 1)) a (m + 1) ∧ Asc lt (rotF f i m (m + 1)) a (m + 1) := by
  have hless : ∀ j, i ≤ j → j < m → lt (f m) (f j) = true := fun j g1 g2 => by
    rcases hhi with h | h
    · omega
    · exact lt_le hS h (hs.le hS h1 g1 g2)
  have hge : ∀ j, a ≤ j → j < i → lt (f m) (f j) = false := fun j g1 g2 => by
    rcases hlo with h | h
    · omega
    · exact hS.ntrans _ _ _ h (hs.le hS g1 (show j ≤ i - 1 by omega) (by omega))
  constructor
  · exact (kept_rot hS h2 (by omega) (fun p j g1 g2 g3 g4 => by rw [show j = m by omega]; exact hless p g1 g2)).wide h1 (by omega) (Nat.le_refl _)
  · intro p q g1 g2 g3
    rcases Nat.lt_or_ge i q with c | c
    · rw [rotF_high f i m (m + 1) q (by omega) g3, show q - (m + 1 - m) = q - 1 by omega]
      rcases Nat.lt_or_ge p i with d | d
      · rw [rotF_out f i m (m + 1) p h2 (by omega) (.inl d)]
        exact hs.le hS g1 (by omega) (by omega)
      · rcases Nat.lt_or_eq_of_le d with d2 | rfl
        · rw [rotF_high f i m (m + 1) p (by omega) (by omega), show p - (m + 1 - m) = p - 1 by omega]
          exact hs.le hS (by omega) (by omega) (by omega)
        · rw [rotF_low f i m (m + 1) i (by omega) (by omega), show i + (m - i) = m by omega]
          exact asym hS (hless _ (by omega) (by omega))
    · rw [rotF_out f i m (m + 1) p h2 (by omega) (.inl (by omega))]
      rcases Nat.lt_or_eq_of_le c with c2 | rfl
      · rw [rotF_out f i m (m + 1) q h2 (by omega) (.inl c2)]
        exact hs p q g1 g2 (by omega)
      · rw [rotF_low f q m (m + 1) q (by omega) (by omega), show q + (m - q) = m by omega]
        exact hge p g1 g2
/-- The turn about the middle: both halves hold what belongs there. -/
theorem merge_mid {lt : α → α → Bool} (hS : SWO lt) {f : Nat → α} {a s m e b : Nat} (ha : Asc lt f a m) (hb : Asc lt f m b) (h1 : a ≤ s) (h2 : s ≤ m) (h3 : m ≤ e) (h4 : e ≤ b)
    (hlo : s = a ∨ e = b ∨ lt (f e) (f (s - 1)) = false) (hhi : s = m ∨ e = m ∨ lt (f (e - 1)) (f s) = true) :
    Kept lt f (rotF f s m e) a b ∧ (∀ i j, a ≤ i → i < s + (e - m) → s + (e - m) ≤ j → j < b → lt (rotF f s m e j) (rotF f s m e i) = false) := by
  have hless : ∀ i j, s ≤ i → i < m → m ≤ j → j < e → lt (f j) (f i) = true := fun i j g1 g2 g3 g4 => by
    rcases hhi with h | h | h
    · omega
    · omega
    · exact lt_le hS (le_lt hS (hb.le hS g3 (show j ≤ e - 1 by omega) (by omega)) h) (ha.le hS h1 g1 g2)
  constructor
  · exact (kept_rot hS h2 h3 hless).wide h1 (by omega) h4
  · intro i j g1 g2 g3 g4
    rcases Nat.lt_or_ge i s with c | c
    · rw [rotF_out f s m e i h2 h3 (.inl c)]
      rcases Nat.lt_or_ge j e with d | d
      · rw [rotF_high f s m e j g3 d]
        exact ha.le hS g1 (show i ≤ j - (e - m) by omega) (by omega)
      · rw [rotF_out f s m e j h2 h3 (.inr d)]
        rcases hlo with h | h | h
        · omega
        · omega
        · exact hS.ntrans _ _ _ (hS.ntrans _ _ _ (hb.le hS h3 d g4) h) (ha.le hS g1 (show i ≤ s - 1 by omega) (by omega))
    · rw [rotF_low f s m e i c g2]
      rcases Nat.lt_or_ge j e with d | d
      · rw [rotF_high f s m e j g3 d]
        exact asym hS (hless _ _ (by omega) (by omega) (by omega) (by omega))
      · rw [rotF_out f s m e j h2 h3 (.inr d)]
        exact hb.le hS (show m ≤ i + (m - s) by omega) (by omega) g4
/-- Both halves merged: all is. -/
theorem merge_done {lt : α → α → Bool} (hS : SWO lt) {f g h k : Nat → α} {a c b : Nat} (hac : a ≤ c) (hcb : c ≤ b) (h0 : Kept lt f g a b) (hx : ∀ i j, a ≤ i → i < c → c ≤ j → j < b → lt (g j) (g i) = false) (h1 : Kept lt g h a c) (s1 : Asc lt h a c) (h2 : Kept lt h k c b) (s2 : Asc lt k c b) :
    Kept lt f k a b ∧ Asc lt k a b := by
  refine ⟨(h0.trans (h1.wide (Nat.le_refl _) hac hcb)).trans (h2.wide hac hcb (Nat.le_refl _)), fun i j g1 g2 g3 => ?_⟩
  rcases Nat.lt_or_ge j c with d | d
  · rw [h2.out j (.inl d), h2.out i (.inl (by omega))]
    exact s1 i j g1 g2 d
  · rcases Nat.lt_or_ge i c with d' | d'
    · rw [h2.out i (.inl d')]
      obtain ⟨i0, e1, e2, e3⟩ := h1.was hS g1 d'
      obtain ⟨j0, e4, e5, e6⟩ := h2.was hS d g3
      rw [h1.out j0 (.inr e4)] at e6
      rw [← e3, ← e6]
      exact hx i0 j0 e1 e2 e4 e5
    · exact s2 i j d' g2 g3
/-- The pieces of the turned row are sorted. -/
theorem asc_left {lt : α → α → Bool} {f : Nat → α} {a s m e b : Nat} (ha : Asc lt f a m) (hb : Asc lt f m b) (h1 : a ≤ s) (h2 : s ≤ m) (h3 : m ≤ e) (h4 : e ≤ b) : Asc lt (rotF f s m e) a s ∧ Asc lt (rotF f s m e) s (s + (e - m)) ∧ Asc lt (rotF f s m e) (s + (e - m)) e ∧ Asc lt (rotF f s m e) e b := by
  refine ⟨(ha.sub (Nat.le_refl _) h2).eq fun j _ g => rotF_out f s m e j h2 h3 (.inl g), (hb.sub (Nat.le_refl _) h4).off (by omega) (by omega) fun k hk => ?_, (ha.sub h1 (Nat.le_refl _)).off (by omega) (by omega) fun k hk => ?_, (hb.sub h3 (Nat.le_refl _)).eq fun j g _ => rotF_out f s m e j h2 h3 (.inr g)⟩
  · rw [rotF_low f s m e _ (by omega) (by omega)]; congr 1; omega
  · rw [rotF_high f s m e _ (by omega) (by omega)]; congr 1; omega

/-! ### There is one list sorted so -/
theorem sorted_one {lt : α → α → Bool} (hS : SWO lt) : ∀ (l k : List α), l.Pairwise (fun x y => lt y x = false) → k.Pairwise (fun x y => lt y x = false) → (∀ x, l.filter (eqv lt x) = k.filter (eqv lt x)) → l = k
  | [], [], _, _, _ => rfl
  | [], y :: k, _, _, h => by
    have := h y
    rw [List.filter_cons, if_pos (eqv_self hS y)] at this
    cases this
  | x :: l, [], _, _, h => by
    have := h x
    rw [List.filter_cons, if_pos (eqv_self hS x)] at this
    cases this
  | x :: l, y :: k, h1, h2, h => by
    have hx : x ∈ y :: k := by
      have : x ∈ (x :: l).filter (eqv lt x) := List.mem_filter.2 ⟨List.mem_cons_self .., eqv_self hS x⟩
      rw [h] at this
      exact (List.mem_filter.1 this).1
    have hy : y ∈ x :: l := by
      have : y ∈ (y :: k).filter (eqv lt y) := List.mem_filter.2 ⟨List.mem_cons_self .., eqv_self hS y⟩
      rw [← h] at this
      exact (List.mem_filter.1 this).1
    have l1 : lt y x = false := by
      rcases List.mem_cons.1 hy with rfl | hy
      · exact hS.irrefl _
      · exact (List.pairwise_cons.1 h1).1 y hy
    have l2 : lt x y = false := by
      rcases List.mem_cons.1 hx with rfl | hx
      · exact hS.irrefl _
      · exact (List.pairwise_cons.1 h2).1 x hx
    have e := h x
    rw [List.filter_cons, if_pos (eqv_self hS x), List.filter_cons, if_pos (eqv_iff.2 ⟨l2, l1⟩)] at e
    obtain rfl : x = y := (List.cons.inj e).1
    refine congrArg (x :: ·) (sorted_one hS l k (List.pairwise_cons.1 h1).2 (List.pairwise_cons.1 h2).2 fun z => ?_)
    have e2 := h z
    rw [List.filter_cons, List.filter_cons] at e2
    split at e2
    · exact (List.cons.inj e2).2
    · exact e2
/-- The list, sorted: each put ahead of the first that is not less. -/
def sins (lt : α → α → Bool) (x : α) : List α → List α
  | [] => [x]
  | y :: l => if lt y x then y :: sins lt x l else x :: y :: l
def ssort (lt : α → α → Bool) : List α → List α
  | [] => []
  | x :: l => sins lt x (ssort lt l)
theorem sins_mem {lt : α → α → Bool} {x z : α} : ∀ {l : List α}, z ∈ sins lt x l ↔ z = x ∨ z ∈ l
  | [] => by simp [sins]
  | y :: l => by
    unfold sins
    split
    · rw [List.mem_cons, sins_mem, List.mem_cons]
      constructor
      · rintro (h | h | h) <;> simp [h]
      · rintro (h | h | h) <;> simp [h]
    · simp
theorem sins_sorted {lt : α → α → Bool} (hS : SWO lt) (x : α) : ∀ (l : List α), l.Pairwise (fun x y => lt y x = false) → (sins lt x l).Pairwise (fun x y => lt y x = false)
  | [], _ => by simp [sins]
  | y :: l, h => by
    obtain ⟨h1, h2⟩ := List.pairwise_cons.1 h
    unfold sins
    split
    · rename_i hc
      refine List.pairwise_cons.2 ⟨fun z hz => ?_, sins_sorted hS x l h2⟩
      rcases sins_mem.1 hz with rfl | hz
      · exact asym hS hc
      · exact h1 z hz
    · rename_i hc
      have hc2 : lt y x = false := by simpa using hc
      refine List.pairwise_cons.2 ⟨fun z hz => ?_, h⟩
      rcases List.mem_cons.1 hz with rfl | hz
      · exact hc2
      · exact hS.ntrans _ _ _ (h1 z hz) hc2
theorem sins_filter {lt : α → α → Bool} (hS : SWO lt) (x z : α) : ∀ (l : List α), (sins lt x l).filter (eqv lt z) = (x :: l).filter (eqv lt z)
  | [] => rfl
  | y :: l => by
    unfold sins
    split
    · rename_i hc
      rw [List.filter_cons, sins_filter hS x z l, List.filter_cons, List.filter_cons (x := x), List.filter_cons (x := y)]
      cases h1 : eqv lt z x <;> cases h2 : eqv lt z y <;> simp
      have e1 := eqv_iff.1 h1
      have e2 := eqv_iff.1 h2
      rw [hS.ntrans _ _ _ e2.2 e1.1] at hc
      cases hc
    · rfl
theorem ssort_sorted {lt : α → α → Bool} (hS : SWO lt) : ∀ (l : List α), (ssort lt l).Pairwise (fun x y => lt y x = false)
  | [] => List.Pairwise.nil
  | x :: l => sins_sorted hS x _ (ssort_sorted hS l)
theorem ssort_filter {lt : α → α → Bool} (hS : SWO lt) (z : α) : ∀ (l : List α), (ssort lt l).filter (eqv lt z) = l.filter (eqv lt z)
  | [] => rfl
  | x :: l => by
    unfold ssort
    rw [sins_filter hS, List.filter_cons, ssort_filter hS z l, List.filter_cons]
theorem ssort_perm (lt : α → α → Bool) : ∀ (l : List α), (ssort lt l).Perm l
  | [] => .nil
  | x :: l => by
    have hp : ∀ k : List α, (sins lt x k).Perm (x :: k) := fun k => by
      induction k with
      | nil => exact .refl _
      | cons y k ih =>
        unfold sins
        split
        · exact (List.Perm.cons y ih).trans (.swap ..)
        · exact .refl _
    exact (hp _).trans (List.Perm.cons x (ssort_perm lt l))
theorem ssort_length (lt : α → α → Bool) (l : List α) : (ssort lt l).length = l.length := (ssort_perm lt l).length_eq
theorem sgF_sorted {lt : α → α → Bool} {g : Nat → α} {a b : Nat} (h : Asc lt g a b) : (sgF g a b).Pairwise (fun x y => lt y x = false) := by
  unfold sgF
  rw [List.pairwise_map]
  have : ∀ n s, a ≤ s → s + n ≤ b → (List.range' s n).Pairwise (fun x y => lt (g y) (g x) = false) := by
    intro n
    induction n with
    | zero => intro s _ _; exact List.Pairwise.nil
    | succ n ih =>
      intro s h1 h2
      rw [List.range'_succ]
      refine List.pairwise_cons.2 ⟨fun y hy => ?_, ih (s + 1) (by omega) (by omega)⟩
      obtain ⟨y1, y2⟩ := List.mem_range'_1.1 hy
      exact h s y h1 (by omega) (by omega)
  rcases Nat.lt_or_ge a b with hab | hab
  · exact this (b - a) a (Nat.le_refl _) (by omega)
  · rw [show b - a = 0 by omega]; exact List.Pairwise.nil
/-- What has been sorted so is the list sorted. -/
theorem Kept.is {lt : α → α → Bool} (hS : SWO lt) {f g : Nat → α} {a b : Nat} (h : Kept lt f g a b) (hs : Asc lt g a b) : sgF g a b = ssort lt (sgF f a b) :=
  sorted_one hS _ _ (sgF_sorted hs) (ssort_sorted hS _) fun x => (h.cls x).trans (ssort_filter hS x _).symm

/-! ### What the walks lean on -/
theorem asc_or {lt : α → α → Bool} {f : Nat → α} {a s c : Nat} (h1 : a ≤ s) (h2 : s ≤ c) (h : ¬ (a < s ∧ s < c)) (p1 : Asc lt f a s) (p2 : Asc lt f s c) : Asc lt f a c := by
  rcases Nat.lt_or_eq_of_le h1 with c1 | rfl
  · rcases Nat.lt_or_eq_of_le h2 with c2 | rfl
    · exact absurd ⟨c1, c2⟩ h
    · exact p1
  · exact p2

/-- In blocks of B, each sorted. -/
def Blks (lt : α → α → Bool) (f : Nat → α) (B n : Nat) : Prop := ∀ k, Asc lt f (k * B) (min (k * B + B) n)
theorem blks_end {lt : α → α → Bool} {f : Nat → α} {B n q : Nat} (h1 : ∀ k, k < q → Asc lt f (k * B) (k * B + B)) (h2 : Asc lt f (q * B) n) (h3 : n < q * B + B) : Blks lt f B n := fun k => by
  rcases Nat.lt_trichotomy k q with h | rfl | h
  · exact (h1 k h).sub (Nat.le_refl _) (Nat.min_le_left _ _)
  · exact h2.sub (Nat.le_refl _) (Nat.min_le_right _ _)
  · have : (q + 1) * B ≤ k * B := Nat.mul_le_mul_right B h
    rw [Nat.add_mul, Nat.one_mul] at this
    intro i j g1 g2 g3
    have := Nat.min_le_right (k * B + B) n
    omega
theorem Kept.ahead {lt : α → α → Bool} {f g : Nat → α} {a b a' b' : Nat} (h : Kept lt f g a b) (hs : Asc lt f a' b') (hd : b' ≤ a ∨ b ≤ a') : Asc lt g a' b' := hs.eq fun j g1 g2 => h.out j (by omega)
end Go.Proofs.Ytpkclmfadlkbeaa

namespace Go.Proofs.Ytpkclmfadlkbeaa
open Go.RowKit

/-- A part of a slice. -/
theorem slice_row {P : Program} (t : TypeId) (ht : P.underlying t = some (.slice (P.elem t))) (hsz : ∀ W, (sizeOf (P.elem t)).run P W = .ok 1 W) {w : World} {B : Nat} {A : Option Addr} {n c a b : Nat} {xs : List Value} (h1 : a ≤ b) (h2 : b ≤ n) (hnc : n ≤ c) (hL : Lies w B A xs) (hn : xs.length = n) (hnone : A = none → c = 0) :
    ∃ A3, (∀ W, (Instr.slice t (.slice A n c) (some (.int .i64 (a : Int))) (some (.int .i64 (b : Int))) none).run P W = .ok (.slice A3 (b - a) (c - a)) W) ∧ Lies w B A3 ((xs.drop a).take (b - a)) ∧ (A3 = none → c - a = 0) := by
  refine ⟨if c = a then A else A.map (·.add (a * 1)), fun W => ?_, ?_, ?_⟩
  · rw [run_slice_lh W t A n c ht .i64 .i64 (a : Int) (b : Int) (by omega) (by omega) (by omega), hsz]
    rfl
  · intro hne
    have hab : a < b := by
      rcases Nat.lt_or_ge a b with h | h
      · exact h
      · exact absurd (by rw [show b - a = 0 by omega, List.take_zero]) hne
    obtain ⟨bk, o, e, hb, hc⟩ := hL (by intro e; subst e; simp at hn; omega)
    subst e
    rw [if_neg (by omega)]
    refine ⟨bk, o + a * 1, by rw [Option.map_some, Addr.add_lit], hb, fun j v hv => ?_⟩
    rw [List.getElem?_take] at hv
    split at hv
    · rw [List.getElem?_drop] at hv
      have := hc (a + j) v hv
      rwa [show o + a * 1 + j = o + (a + j) by omega]
    · cases hv
  · intro e
    by_cases hca : c = a
    · omega
    · rw [if_neg hca] at e
      cases A with
      | none => have := hnone rfl; omega
      | some ad => cases e
/-- s[:a]. -/
theorem slice_upto {P : Program} (t : TypeId) (ht : P.underlying t = some (.slice (P.elem t))) (hsz : ∀ W, (sizeOf (P.elem t)).run P W = .ok 1 W) {A : Option Addr} {n c a : Nat} (h1 : a ≤ c) (hA : A = none → c = 0) (hf : ∀ ad, A = some ad → ∃ b o, ad = ⟨b, o, none⟩) (W : World) :
    (Instr.slice t (.slice A n c) none (some (.int .i64 (a : Int))) none).run P W = .ok (.slice A a c) W := by
  rw [run_slice_h W t _ n c ht .i64 (a : Int) (by omega) (by omega), hsz]
  cases A with
  | none =>
    obtain rfl := hA rfl
    obtain rfl : a = 0 := by omega
    simp [Result.andThen, sliced]
  | some ad =>
    obtain ⟨b, o, rfl⟩ := hf ad rfl
    by_cases hc : c = 0
    · subst hc
      obtain rfl : a = 0 := by omega
      simp [Result.andThen, sliced]
    · simp [Result.andThen, sliced, hc, Addr.add_lit]
end Go.Proofs.Ytpkclmfadlkbeaa

namespace Go.Proofs.Ytpkclmfadlkbeaa
open Go.RowKit

structure Pt3 where
  x : Int
  y : Int
  w : Int
  deriving DecidableEq, Inhabited
def Pt3.cells (p : Pt3) : List Value := [.int .i64 p.x, .int .i64 p.y, .int .i64 p.w]
def Pt3.Fits (p : Pt3) : Prop := (Lit.int .i64 p.x).wf = true ∧ (Lit.int .i64 p.y).wf = true ∧ (Lit.int .i64 p.w).wf = true
structure Rc4 where
  x0 : Int
  y0 : Int
  x1 : Int
  y1 : Int
def Rc4.Fits (r : Rc4) : Prop := (Lit.int .i64 r.x0).wf = true ∧ (Lit.int .i64 r.y0).wf = true ∧ (Lit.int .i64 r.x1).wf = true ∧ (Lit.int .i64 r.y1).wf = true

/-- Points, cell by cell. -/
def ptC : List Pt3 → List Value
  | [] => []
  | o :: r => o.cells ++ ptC r
theorem ptC_length : ∀ ps : List Pt3, (ptC ps).length = ps.length * 3
  | [] => rfl
  | o :: r => by
    unfold ptC
    rw [List.length_append, ptC_length r, List.length_cons]
    show 3 + r.length * 3 = _
    omega
theorem ptC_get : ∀ (ps : List Pt3) (i : Nat) (o : Pt3) (j : Nat), ps[i]? = some o → j < 3 → (ptC ps)[i * 3 + j]? = o.cells[j]?
  | [], i, o, j, h, _ => by simp at h
  | a :: r, 0, o, j, h, hj => by
    obtain rfl : a = o := by simpa using h
    unfold ptC
    rw [List.getElem?_append_left (by show 0 * 3 + j < 3; omega)]
    congr 1
    omega
  | a :: r, i + 1, o, j, h, hj => by
    unfold ptC
    rw [List.getElem?_append_right (by show 3 ≤ (i + 1) * 3 + j; omega)]
    have e : (i + 1) * 3 + j - a.cells.length = i * 3 + j := by show (i + 1) * 3 + j - 3 = _; omega
    rw [e]
    exact ptC_get r i o j (by simpa using h) hj
theorem ptC_append (a b : List Pt3) : ptC (a ++ b) = ptC a ++ ptC b := by
  induction a with
  | nil => rfl
  | cons o r ih => show o.cells ++ ptC (r ++ b) = (o.cells ++ ptC r) ++ ptC b; rw [ih, List.append_assoc]
theorem ptC_one (ps : List Pt3) : ∀ u ∈ ptC ps, u.oneCell' = true := by
  induction ps with
  | nil => intro u hu; cases hu
  | cons o r ih =>
    intro u hu
    unfold ptC at hu
    rcases List.mem_append.1 hu with e | e
    · unfold Pt3.cells at e
      simp only [List.mem_cons, List.not_mem_nil, or_false] at e
      rcases e with rfl | rfl | rfl <;> rfl
    · exact ih u e
/-- A point's cells. -/
theorem pts_at {w : World} {B : Nat} {A : Option Addr} {ps : List Pt3} (h : Lies w B A (ptC ps)) {i : Nat} {o : Pt3} (hi : ps[i]? = some o) :
    ∃ b p, A = some ⟨b, p, none⟩ ∧ b < B ∧ w.cell? ⟨b, p + i * 3, none⟩ = some (.int .i64 o.x) ∧ w.cell? ⟨b, p + i * 3 + 1, none⟩ = some (.int .i64 o.y) ∧ w.cell? ⟨b, p + i * 3 + 2, none⟩ = some (.int .i64 o.w) := by
  have hlt : i < ps.length := (List.getElem?_eq_some_iff.1 hi).1
  obtain ⟨b, p, e, hb, hc⟩ := h (by
    intro e
    have := ptC_length ps
    rw [e] at this
    simp at this
    omega)
  refine ⟨b, p, e, hb, ?_, ?_, ?_⟩
  · exact hc (i * 3) _ (ptC_get ps i o 0 hi (by decide))
  · rw [Nat.add_assoc]; exact hc (i * 3 + 1) _ (ptC_get ps i o 1 hi (by decide))
  · rw [Nat.add_assoc]; exact hc (i * 3 + 2) _ (ptC_get ps i o 2 hi (by decide))

/-- A coordinate or a weight that may be. -/
def coOk (x : Int) : Bool := decide (-1048576 ≤ x) && decide (x ≤ 1048576)
def ptOk (p : Pt3) : Bool := coOk p.x && coOk p.y && coOk p.w
/-- What is refused of points: the error's number. -/
def ptsF (ps : List Pt3) : Int := if 150 < ps.length then 1 else if ps.all ptOk then 0 else 2
theorem ptsF_zero {ps : List Pt3} (h : ptsF ps = 0) : ps.length ≤ 150 ∧ ∀ p ∈ ps, ptOk p = true := by
  unfold ptsF at h
  split at h
  · omega
  · split at h
    · rename_i h1 h2
      exact ⟨by omega, List.all_eq_true.1 h2⟩
    · omega
theorem ptsF_cases (ps : List Pt3) : ptsF ps = 0 ∨ ptsF ps = 1 ∨ ptsF ps = 2 := by
  unfold ptsF
  split
  · exact .inr (.inl rfl)
  · split
    · exact .inl rfl
    · exact .inr (.inr rfl)
/-- In a rectangle. -/
def inR (r : Rc4) (p : Pt3) : Bool := decide (r.x0 ≤ p.x) && decide (p.x ≤ r.x1) && decide (r.y0 ≤ p.y) && decide (p.y ≤ r.y1)
/-- The places of the first points that are in a rectangle, and of all. -/
def ptAt (ps : List Pt3) (i : Nat) : Pt3 := ps.getD i ⟨0, 0, 0⟩
theorem ptAt_get {ps : List Pt3} {i : Nat} (h : i < ps.length) : ps[i]? = some (ptAt ps i) := by unfold ptAt; rw [List.getD_eq_getElem?_getD, List.getElem?_eq_getElem h]; rfl
theorem ptAt_of {ps : List Pt3} {i : Nat} {p : Pt3} (h : ps[i]? = some p) : ptAt ps i = p := by unfold ptAt; rw [List.getD_eq_getElem?_getD, h]; rfl
def insTo (ps : List Pt3) (r : Rc4) (i : Nat) : List Nat := (List.range i).filter fun j => inR r (ptAt ps j)
def insR (ps : List Pt3) (r : Rc4) : List Nat := insTo ps r ps.length
theorem insTo_zero (ps : List Pt3) (r : Rc4) : insTo ps r 0 = [] := rfl
theorem insTo_yes {ps : List Pt3} {r : Rc4} {i : Nat} {p : Pt3} (hp : ps[i]? = some p) (h : inR r p = true) : insTo ps r (i + 1) = insTo ps r i ++ [i] := by
  unfold insTo
  rw [List.range_succ, List.filter_append]
  simp [ptAt_of hp, h]
theorem insTo_no {ps : List Pt3} {r : Rc4} {i : Nat} {p : Pt3} (hp : ps[i]? = some p) (h : inR r p = false) : insTo ps r (i + 1) = insTo ps r i := by
  unfold insTo
  rw [List.range_succ, List.filter_append]
  simp [ptAt_of hp, h]
theorem insTo_length (ps : List Pt3) (r : Rc4) (i : Nat) : (insTo ps r i).length ≤ i := by
  unfold insTo
  exact Nat.le_trans (List.length_filter_le _ _) (by simp)
theorem insTo_lt {ps : List Pt3} {r : Rc4} {i : Nat} : ∀ x ∈ insTo ps r i, x < i := fun x hx => by
  unfold insTo at hx
  exact List.mem_range.1 (List.mem_filter.1 hx).1
theorem insR_mem {ps : List Pt3} {r : Rc4} {x : Nat} : x ∈ insR ps r ↔ x < ps.length ∧ inR r (ptAt ps x) = true := by
  unfold insR insTo
  rw [List.mem_filter, List.mem_range]
theorem insR_sorted (ps : List Pt3) (r : Rc4) : (insR ps r).Pairwise (· < ·) := List.pairwise_lt_range.filter _

/-- A number and an error. -/
def TellsG (w : World) (x r : Int) (e : Ending) (w' : World) : Prop := e = .returned (.tuple #[.int .i64 x, .int .i64 r]) ∧ Below w.heap.size w w'
/-- A list of numbers and OK; no list and an error. -/
def GivesGL (w : World) (l : List Nat) (e : Ending) (w' : World) : Prop := ∃ A c, e = .returned (.tuple #[.slice A l.length c, .int .i64 0]) ∧ l.length ≤ c ∧ Lies w' w'.heap.size A (natC l) ∧ (A = none → c = 0) ∧ New w.heap.size A ∧ Below w.heap.size w w'
def NoGL (w : World) (r : Int) (e : Ending) (w' : World) : Prop := e = .returned (.tuple #[.slice none 0 0, .int .i64 r]) ∧ Below w.heap.size w w'
/-- What the kth of a list comes to: the error; the number. -/
def kthE (m : Nat) (k : Int) : Int := if k < 0 then 2 else if (m : Int) ≤ k then 7 else 0
def kthV (L : List Nat) (k : Int) : Int := if 0 ≤ k ∧ k < (L.length : Int) then ((L.getD k.toNat 0 : Nat) : Int) else 0
/-- The first of a list, as many as are asked. -/
def topN (L : List Nat) (k : Int) : List Nat := L.take k.toNat
/-- A point, a rectangle as a value. -/
def Pt3.val (p : Pt3) : Value := .agg #[.int .i64 p.x, .int .i64 p.y, .int .i64 p.w]
def Rc4.val (r : Rc4) : Value := .agg #[.int .i64 r.x0, .int .i64 r.y0, .int .i64 r.x1, .int .i64 r.y1]
end Go.Proofs.Ytpkclmfadlkbeaa

namespace Go.Proofs.Ytpkclmfadlkbeaa
open Go.Sort

/-- The four orders. -/
def ltN (_ _ : Pt3) : Bool := false
def ltX (p q : Pt3) : Bool := decide (p.x < q.x) || (decide (p.x = q.x) && decide (p.y < q.y))
def ltY (p q : Pt3) : Bool := decide (p.y < q.y) || (decide (p.y = q.y) && decide (p.x < q.x))
def ltW (p q : Pt3) : Bool := decide (q.w < p.w)
theorem ltX_iff {p q : Pt3} : ltX p q = true ↔ p.x < q.x ∨ (p.x = q.x ∧ p.y < q.y) := by simp [ltX]
theorem ltY_iff {p q : Pt3} : ltY p q = true ↔ p.y < q.y ∨ (p.y = q.y ∧ p.x < q.x) := by simp [ltY]
theorem ltW_iff {p q : Pt3} : ltW p q = true ↔ q.w < p.w := by simp [ltW]
theorem ltN_swo : SWO ltN where
  irrefl := fun _ => rfl
  trans := fun _ _ _ h => by cases h
  ntrans := fun _ _ _ _ _ => rfl
theorem ltX_swo : SWO ltX := ⟨fun x => by rw [Bool.eq_false_iff, ne_eq, ltX_iff]; omega, fun x y z h1 h2 => by rw [ltX_iff] at *; omega, fun x y z h1 h2 => by rw [Bool.eq_false_iff, ne_eq, ltX_iff] at *; omega⟩
theorem ltY_swo : SWO ltY := ⟨fun x => by rw [Bool.eq_false_iff, ne_eq, ltY_iff]; omega, fun x y z h1 h2 => by rw [ltY_iff] at *; omega, fun x y z h1 h2 => by rw [Bool.eq_false_iff, ne_eq, ltY_iff] at *; omega⟩
theorem ltW_swo : SWO ltW := ⟨fun x => by rw [Bool.eq_false_iff, ne_eq, ltW_iff]; omega, fun x y z h1 h2 => by rw [ltW_iff] at *; omega, fun x y z h1 h2 => by rw [Bool.eq_false_iff, ne_eq, ltW_iff] at *; omega⟩
/-- An order of points, told of places. -/
def ltP (ps : List Pt3) (lt : Pt3 → Pt3 → Bool) (i j : Nat) : Bool := lt (ptAt ps i) (ptAt ps j)
theorem ltP_swo {ps : List Pt3} {lt : Pt3 → Pt3 → Bool} (h : SWO lt) : SWO (ltP ps lt) := ⟨fun _ => h.irrefl _, fun _ _ _ => h.trans _ _ _, fun _ _ _ => h.ntrans _ _ _⟩
end Go.Proofs.Ytpkclmfadlkbeaa

namespace Go.Proofs.Ytpkclmfadlkbeaa.Words
open Go Go.RowKit

/-- What makes a packed array of n numbers with d bits each valid. -/
structure PValid (n d : Nat) (ws : List Nat) : Prop where
  hi : n ≤ 300
  wide : d ≤ 62
  len : ws.length = (n * d + 63) / 64
  top : ∀ i, n * d ≤ i → i < 64 * ws.length → bit ws i = false

theorem mul_bound {n d : Nat} (hn : n ≤ 300) (hd : d ≤ 62) : n * d ≤ 18600 := Nat.mul_le_mul hn hd

/-- Nothing beyond m, bit by bit. -/
theorem high_zero2 (x m : Nat) (hx : x < 18446744073709551616) : x / 2 ^ m = 0 ↔ ∀ i, m ≤ i → i < 64 → x.testBit i = false := by
  rw [← high_zero x m hx]
  constructor
  · intro h; rw [h]; simp
  · intro h
    rcases Nat.mul_eq_zero.1 h with h | h
    · exact h
    · have := Nat.two_pow_pos m; omega

/-- The test of the last word. -/
theorem pvalid_last (n d : Nat) (ws : List Nat) (j x : Nat) (hn : n ≤ 300) (hd : d ≤ 62) (hl : ws.length = (n * d + 63) / 64) (hj : ws.length = j + 1) (hx : ws[j]? = some x) (hlt : x < 18446744073709551616) :
    PValid n d ws ↔ x / 2 ^ (n * d - 64 * j) = 0 := by
  have hg : ws.getD j 0 = x := by simp [List.getD, hx]
  rw [high_zero2 x _ hlt]
  generalize hu : n * d = u at *
  constructor
  · intro h i hi hi2
    have := h.top (64 * j + i) (by omega) (by omega)
    rwa [bit_word ws j i hi2, hg] at this
  · intro h
    refine ⟨hn, hd, by rw [hu]; exact hl, fun i h1 h2 => ?_⟩
    have e : i = 64 * j + (i - 64 * j) := by omega
    rw [e, bit_word ws j _ (by omega), hg]
    exact h _ (by omega) (by omega)

theorem pvalid_nil (n d : Nat) (hn : n ≤ 300) (hd : d ≤ 62) (h : n * d = 0) : PValid n d [] := ⟨hn, hd, by rw [h]; rfl, fun i _ h => by simp at h⟩

/-- Number i of an array. -/
def numAt (ws : List Nat) (d i : Nat) : Nat := packTo (fun k => bit ws (i * d + k)) d

theorem numAt_lt (ws : List Nat) (d i : Nat) : numAt ws d i < 2 ^ d := packTo_lt _ _
theorem pow62 {d : Nat} (h : d ≤ 62) : 2 ^ d ≤ 4611686018427387904 := Nat.pow_le_pow_right (n := 2) (j := 62) (by decide) h

/-- Reading a number over a word's end. -/
theorem num_two (ws : List Nat) (d s j a b : Nat) (hd : d ≤ 62) (ha : ws.getD j 0 = a) (hb : ws.getD (j + 1) 0 = b) (hal : a < 18446744073709551616) (hs : s < 64) :
    (a / 2 ^ s ||| b * 2 ^ (64 - s) % 2 ^ 64) % 2 ^ d = packTo (fun k => bit ws (64 * j + s + k)) d := by
  apply Nat.eq_of_testBit_eq
  intro k
  rw [Nat.testBit_mod_two_pow, packTo_bit]
  by_cases hk : k < d
  · simp only [hk, decide_true, Bool.true_and]
    rw [Nat.testBit_or, Nat.testBit_div_two_pow, Nat.testBit_mod_two_pow, Nat.testBit_mul_two_pow]
    by_cases hl : s + k < 64
    · rw [Nat.add_assoc, bit_word ws j (s + k) hl, ha, Nat.add_comm s k]
      simp [show ¬ 64 - s ≤ k by omega]
    · rw [show 64 * j + s + k = 64 * (j + 1) + (k - (64 - s)) by omega, bit_word ws (j + 1) _ (by omega), hb]
      have hz : a.testBit (k + s) = false := Nat.testBit_lt_two_pow (Nat.lt_of_lt_of_le (show a < 2 ^ 64 from hal) (Nat.pow_le_pow_right (by decide) (by omega)))
      rw [hz]
      simp [show k < 64 by omega, show 64 - s ≤ k by omega]
  · simp [hk]

/-- Reading a number inside a word. -/
theorem num_one (ws : List Nat) (d s j a : Nat) (ha : ws.getD j 0 = a) (hs : s + d ≤ 64) :
    a / 2 ^ s % 2 ^ d = packTo (fun k => bit ws (64 * j + s + k)) d := by
  apply Nat.eq_of_testBit_eq
  intro k
  rw [Nat.testBit_mod_two_pow, packTo_bit]
  by_cases hk : k < d
  · simp only [hk, decide_true, Bool.true_and]
    rw [Nat.testBit_div_two_pow, Nat.add_assoc, bit_word ws j (s + k) (by omega), ha, Nat.add_comm s k]
  · simp [hk]

/-- The bits of numbers with d bits each, one behind the other. -/
def bitsOf (d : Nat) (l : List Nat) : List Bool := (List.range (l.length * d)).map fun p => (l.getD (p / d) 0).testBit (p % d)

/-- The words of a packed array. -/
def packWords (d : Nat) (l : List Nat) : List Nat := rowOf (bitsOf d l)

theorem bitsOf_length (d : Nat) (l : List Nat) : (bitsOf d l).length = l.length * d := by simp [bitsOf]

theorem place_lt {i n d k : Nat} (hi : i < n) (hk : k < d) : i * d + k < n * d := by
  have h1 : (i + 1) * d ≤ n * d := Nat.mul_le_mul_right d hi
  rw [Nat.add_mul, Nat.one_mul] at h1
  omega

theorem bitsOf_get (d : Nat) (l : List Nat) (i k : Nat) (hi : i < l.length) (hk : k < d) : (bitsOf d l).getD (i * d + k) false = (l.getD i 0).testBit k := by
  have hlt := place_lt hi hk
  unfold bitsOf
  rw [List.getD, List.getElem?_map, List.getElem?_range hlt]
  have e1 : (i * d + k) / d = i := by rw [Nat.mul_comm, Nat.mul_add_div (by omega), Nat.div_eq_of_lt hk]; rfl
  have e2 : (i * d + k) % d = k := by rw [Nat.mul_comm, Nat.mul_add_mod, Nat.mod_eq_of_lt hk]
  simp only [Option.map_some, Option.getD_some]
  rw [e1, e2]

theorem packWords_length (d : Nat) (l : List Nat) : (packWords d l).length = (l.length * d + 63) / 64 := by
  unfold packWords; rw [rowOf_length, bitsOf_length]
theorem packWords_word (d : Nat) (l : List Nat) : ∀ x ∈ packWords d l, x < 18446744073709551616 := rowOf_word _

theorem packWords_valid (d : Nat) (l : List Nat) (hn : l.length ≤ 300) (hd : d ≤ 62) : PValid l.length d (packWords d l) :=
  ⟨hn, hd, packWords_length d l, fun i h1 h2 => by
    rw [packWords_length] at h2
    unfold packWords
    rw [rowOf_bit _ i (by rw [bitsOf_length]; exact h2), List.getD, List.getElem?_eq_none (by rw [bitsOf_length]; exact h1)]; rfl⟩

/-- Every number comes back. -/
theorem packWords_num (d : Nat) (l : List Nat) (i : Nat) (hi : i < l.length) (hx : l.getD i 0 < 2 ^ d) : numAt (packWords d l) d i = l.getD i 0 := by
  unfold numAt
  apply Nat.eq_of_testBit_eq
  intro k
  rw [packTo_bit]
  by_cases hk : k < d
  · have hp := place_lt hi hk
    simp only [hk, decide_true, Bool.true_and]
    unfold packWords
    rw [rowOf_bit _ _ (by rw [bitsOf_length]; generalize l.length * d = u at *; omega), bitsOf_get d l i k hi hk]
  · simp only [hk, decide_false, Bool.false_and]
    exact (Nat.testBit_lt_two_pow (Nat.lt_of_lt_of_le hx (Nat.pow_le_pow_right (by decide) (by omega)))).symm

/-- The bits of a laid word. -/
theorem laid_bit (l : List Bool) (i j b : Nat) (hb : b < 64) : (packTo (fun b => l.getD (64 * j + b) false) (min 64 (i - 64 * j))).testBit b = (decide (64 * j + b < i) && l.getD (64 * j + b) false) := by
  rw [packTo_bit]
  congr 1
  simp only [decide_eq_decide]
  omega

/-- A number more, word by word. -/
def addAt (s j v p : Nat) : Nat := if p = j then v * 2 ^ s % 2 ^ 64 else if p = j + 1 then v / 2 ^ (64 - s) else 0

theorem addAt_bit (s j v p b : Nat) (hs : s < 64) (hv : v < 2 ^ 62) (hb : b < 64) : (addAt s j v p).testBit b = (decide (64 * j + s ≤ 64 * p + b) && v.testBit (64 * p + b - (64 * j + s))) := by
  unfold addAt
  by_cases h1 : p = j
  · rw [if_pos h1, Nat.testBit_mod_two_pow, Nat.testBit_mul_two_pow, h1, show 64 * j + b - (64 * j + s) = b - s by omega]
    simp [hb]
  · rw [if_neg h1]
    by_cases h2 : p = j + 1
    · rw [if_pos h2, Nat.testBit_div_two_pow, h2, show 64 * (j + 1) + b - (64 * j + s) = b + (64 - s) by omega, show decide (64 * j + s ≤ 64 * (j + 1) + b) = true by simp; omega]
      rfl
    · rw [if_neg h2, Nat.zero_testBit]
      by_cases h3 : 64 * j + s ≤ 64 * p + b
      · rw [Nat.testBit_lt_two_pow (Nat.lt_of_lt_of_le hv (Nat.pow_le_pow_right (by decide) (by omega)))]; simp
      · simp [h3]

/-- The words behind number i, out of those ahead of it. -/
theorem laid_num (d : Nat) (l : List Nat) (i p m : Nat) (hi : i < l.length) (hd : d ≤ 62) (hv : l.getD i 0 < 2 ^ d) (hp : p < m) :
    (laid (bitsOf d l) ((i + 1) * d) m).getD p 0 = (laid (bitsOf d l) (i * d) m).getD p 0 ||| addAt (i * d % 64) (i * d / 64) (l.getD i 0) p := by
  rw [List.getD, List.getD, laid_get _ _ _ _ hp, laid_get _ _ _ _ hp]
  simp only [Option.getD_some]
  have hv2 : l.getD i 0 < 2 ^ 62 := Nat.lt_of_lt_of_le hv (Nat.pow_le_pow_right (by decide) hd)
  apply Nat.eq_of_testBit_eq
  intro b
  rw [Nat.testBit_or]
  by_cases hb : b < 64
  · rw [laid_bit _ _ _ _ hb, laid_bit _ _ _ _ hb, addAt_bit _ _ _ _ _ (by omega) hv2 hb, show 64 * (i * d / 64) + i * d % 64 = i * d by omega]
    by_cases h1 : 64 * p + b < i * d
    · have h2 : 64 * p + b < (i + 1) * d := by rw [Nat.add_mul]; omega
      simp [h1, h2, show ¬ i * d ≤ 64 * p + b by omega]
    · obtain ⟨k, hk⟩ : ∃ k, 64 * p + b = i * d + k := ⟨64 * p + b - i * d, by omega⟩
      rw [hk, show i * d + k - i * d = k by omega]
      by_cases h2 : k < d
      · rw [bitsOf_get d l i k hi h2]
        have h3 : i * d + k < (i + 1) * d := by rw [Nat.add_mul]; omega
        simp [h3]
      · have h3 : ¬ i * d + k < (i + 1) * d := by rw [Nat.add_mul]; omega
        rw [Nat.testBit_lt_two_pow (Nat.lt_of_lt_of_le hv (Nat.pow_le_pow_right (by decide) (by omega)))]
        simp [h3, show ¬ i * d + k < i * d by omega]
  · have hz : ∀ y : Nat, y < 2 ^ 64 → y.testBit b = false := fun y hy => Nat.testBit_lt_two_pow (Nat.lt_of_lt_of_le hy (Nat.pow_le_pow_right (by decide) (by omega)))
    rw [hz _ (pack_word _ _ (by omega)), hz _ (pack_word _ _ (by omega)), hz]
    · rfl
    · unfold addAt
      split
      · exact Nat.mod_lt _ (by decide)
      · split
        · exact Nat.lt_of_le_of_lt (Nat.div_le_self _ _) (Nat.lt_of_lt_of_le hv2 (by decide))
        · decide

/-- What the words become where v is or'ed in at place s of word j. -/
def laidOn (ws : List Nat) (s j v : Nat) : List Nat :=
  if v = 0 then ws
  else if v / 2 ^ (64 - s) = 0 then ws.set j (ws.getD j 0 ||| v * 2 ^ s % 2 ^ 64)
  else (ws.set j (ws.getD j 0 ||| v * 2 ^ s % 2 ^ 64)).set (j + 1) (ws.getD (j + 1) 0 ||| v / 2 ^ (64 - s))

theorem getD_set (ws : List Nat) (j p x : Nat) (hj : j < ws.length) : (ws.set j x).getD p 0 = if p = j then x else ws.getD p 0 := by
  rw [List.getD, List.getD]
  by_cases e : p = j
  · subst e; rw [if_pos rfl, List.getElem?_set_self hj]; rfl
  · rw [if_neg e, List.getElem?_set_ne (fun h => e h.symm)]

/-- The place of a number's words. -/
theorem words_room (d n i v m : Nat) (hi : i < n) (hm : n * d ≤ 64 * m) (hv : v < 2 ^ d) (h0 : v ≠ 0) : i * d / 64 < m ∧ (v / 2 ^ (64 - i * d % 64) ≠ 0 → i * d / 64 + 1 < m) := by
  have h1 : (i + 1) * d ≤ n * d := Nat.mul_le_mul_right d hi
  rw [Nat.add_mul, Nat.one_mul] at h1
  have hd : 0 < d := by
    rcases Nat.eq_zero_or_pos d with e | e
    · subst e; simp at hv; omega
    · exact e
  refine ⟨by omega, fun h => ?_⟩
  have h2 : 64 - i * d % 64 < d := by
    rcases Nat.lt_or_ge (64 - i * d % 64) d with h3 | h3
    · exact h3
    · exact absurd (Nat.div_eq_of_lt (Nat.lt_of_lt_of_le hv (Nat.pow_le_pow_right (by decide) h3))) h
  omega

/-- One number more. -/
theorem laid_put (d : Nat) (l : List Nat) (i m : Nat) (hi : i < l.length) (hd : d ≤ 62) (hv : l.getD i 0 < 2 ^ d) (hm : l.length * d ≤ 64 * m) :
    laid (bitsOf d l) ((i + 1) * d) m = laidOn (laid (bitsOf d l) (i * d) m) (i * d % 64) (i * d / 64) (l.getD i 0) := by
  have key := fun p (hp : p < m) => laid_num d l i p m hi hd hv hp
  have hroom := words_room d l.length i (l.getD i 0) m hi hm hv
  have hlen := laid_length (bitsOf d l) (i * d) m
  have hlen2 := laid_length (bitsOf d l) ((i + 1) * d) m
  generalize laid (bitsOf d l) ((i + 1) * d) m = new at *
  generalize laid (bitsOf d l) (i * d) m = old at *
  generalize l.getD i 0 = v at *
  generalize i * d % 64 = s at *
  generalize i * d / 64 = j at *
  have hext : ∀ ys : List Nat, ys.length = m → (∀ p, p < m → new.getD p 0 = ys.getD p 0) → new = ys := by
    intro ys hy h
    apply List.ext_getElem?
    intro p
    by_cases hp : p < m
    · have := h p hp
      rw [List.getD, List.getD, List.getElem?_eq_getElem (by omega), List.getElem?_eq_getElem (by omega)] at this
      rw [List.getElem?_eq_getElem (by omega), List.getElem?_eq_getElem (by omega)]
      exact congrArg some this
    · rw [List.getElem?_eq_none (by omega), List.getElem?_eq_none (by omega)]
  unfold laidOn
  by_cases h0 : v = 0
  · rw [if_pos h0]
    refine hext _ hlen fun p hp => ?_
    rw [key p hp, h0]
    simp [addAt]
  · rw [if_neg h0]
    obtain ⟨r1, r2⟩ := hroom h0
    by_cases hz : v / 2 ^ (64 - s) = 0
    · rw [if_pos hz]
      refine hext _ (by rw [List.length_set]; exact hlen) fun p hp => ?_
      rw [key p hp, getD_set _ _ _ _ (by omega)]
      unfold addAt
      by_cases h1 : p = j
      · rw [if_pos h1, if_pos h1, h1]
      · rw [if_neg h1, if_neg h1, hz]; simp
    · rw [if_neg hz]
      have r3 := r2 hz
      refine hext _ (by rw [List.length_set, List.length_set]; exact hlen) fun p hp => ?_
      rw [key p hp, getD_set _ _ _ _ (by rw [List.length_set]; omega), getD_set _ _ _ _ (by omega)]
      unfold addAt
      by_cases h1 : p = j
      · rw [if_pos h1, if_pos h1, if_neg (by omega), h1]
      · rw [if_neg h1, if_neg h1]
        by_cases h2 : p = j + 1
        · rw [if_pos h2, if_pos h2, h2]
        · rw [if_neg h2, if_neg h2]; simp

theorem laidOn_length (ws : List Nat) (s j v : Nat) : (laidOn ws s j v).length = ws.length := by
  unfold laidOn
  split
  · rfl
  · split <;> simp

/-- How many bits a number needs. -/
theorem bitLen_lt (x : Nat) (hx : x < 18446744073709551616) (k : Nat) : Lib.bitLen x ≤ k ↔ x < 2 ^ k := by
  have aux : ∀ f x k, x < 2 ^ f → (Lib.bitLenAux f x ≤ k ↔ x < 2 ^ k) := by
    intro f
    induction f with
    | zero => intro x k h; have : x = 0 := by simpa using h
              subst this; simp [Lib.bitLenAux, Nat.two_pow_pos]
    | succ f ih =>
      intro x k h
      rw [Lib.bitLenAux]
      by_cases h0 : x = 0
      · subst h0; simp [Nat.two_pow_pos]
      · rw [if_neg h0]
        cases k with
        | zero => simp; omega
        | succ k =>
          rw [show 1 + Lib.bitLenAux f (x / 2) ≤ k + 1 ↔ Lib.bitLenAux f (x / 2) ≤ k by omega, ih (x / 2) k (by rw [Nat.pow_succ] at h; omega), Nat.pow_succ]
          omega
  exact aux 64 x k hx
end Go.Proofs.Ytpkclmfadlkbeaa.Words

namespace Go.Proofs.Ytpkclmfadlkbeaa
open Go.Sort

/-- A number that may be a coordinate. -/
def InC (x : Int) : Prop := -1048576 ≤ x ∧ x ≤ 1048576
/-- The key of a point. -/
def keyI (a b i : Int) : Int := ((a + 1048576) * 2097153 + b + 1048576) * 150 + i
theorem keyI_lt {a b a' b' : Int} {i j : Nat} (hb : InC b) (hb' : InC b') (hi : i < 150) (hj : j < 150) : keyI a b i < keyI a' b' j ↔ a < a' ∨ (a = a' ∧ (b < b' ∨ (b = b' ∧ i < j))) := by
  unfold keyI InC at *
  omega
theorem keyI_mod {a b : Int} {i : Nat} (hi : i < 150) : (keyI a b i % 150).toNat = i := by
  unfold keyI
  omega
theorem keyI_cut {a b c : Int} {i : Nat} (hb : InC b) (hi : i < 150) : keyI a b i < keyI c (-1048576) 0 ↔ a < c := by
  unfold keyI InC at *
  omega

section
variable (ps : List Pt3) (f g : Pt3 → Int)
/-- The points may be. -/
structure InV : Prop where
  few : ps.length ≤ 150
  fst : ∀ i, i < ps.length → InC (f (ptAt ps i))
  snd : ∀ i, i < ps.length → InC (g (ptAt ps i))
def kyI (i : Nat) : Int := keyI (f (ptAt ps i)) (g (ptAt ps i)) i
def keyL : List Int := (List.range ps.length).map (kyI ps f g)
/-- The place of a point in the order; the order. -/
def plc (i : Nat) : Nat := cntL (dst (keyL ps f g)) (kyI ps f g i)
def ordL : List Nat := (dst (keyL ps f g)).map fun k => (k % 150).toNat
end
variable {ps : List Pt3} {f g : Pt3 → Int}

theorem keyL_length : (keyL ps f g).length = ps.length := by simp [keyL]
theorem keyL_get {i : Nat} (h : i < ps.length) : (keyL ps f g)[i]? = some (kyI ps f g i) := by unfold keyL; rw [List.getElem?_map, List.getElem?_range h]; rfl
theorem kyI_mod (hV : InV ps f g) {i : Nat} (hi : i < ps.length) : (kyI ps f g i % 150).toNat = i := keyI_mod (by have := hV.few; omega)
theorem kyI_lt (hV : InV ps f g) {i j : Nat} (hi : i < ps.length) (hj : j < ps.length) : kyI ps f g i < kyI ps f g j ↔ f (ptAt ps i) < f (ptAt ps j) ∨ (f (ptAt ps i) = f (ptAt ps j) ∧ (g (ptAt ps i) < g (ptAt ps j) ∨ (g (ptAt ps i) = g (ptAt ps j) ∧ i < j))) :=
  keyI_lt (hV.snd i hi) (hV.snd j hj) (by have := hV.few; omega) (by have := hV.few; omega)
theorem kyI_cut (hV : InV ps f g) {i : Nat} (hi : i < ps.length) (c : Int) : kyI ps f g i < keyI c (-1048576) 0 ↔ f (ptAt ps i) < c := keyI_cut (hV.snd i hi) (by have := hV.few; omega)
theorem keyL_nodup (hV : InV ps f g) : (keyL ps f g).Nodup := by
  unfold keyL
  rw [List.Nodup, List.pairwise_map]
  refine List.Pairwise.imp_of_mem (fun {a b} ha hb hab => ?_) (List.pairwise_lt_range (n := ps.length))
  intro e
  have h1 := kyI_mod hV (List.mem_range.1 ha)
  have h2 := kyI_mod hV (List.mem_range.1 hb)
  rw [e] at h1
  omega
theorem dstK_perm (hV : InV ps f g) : (dst (keyL ps f g)).Perm (keyL ps f g) := (List.perm_ext_iff_of_nodup (lt_nodup (dst_lt _)) (keyL_nodup hV)).2 fun x => dst_mem _ x
theorem dstK_length (hV : InV ps f g) : (dst (keyL ps f g)).length = ps.length := (dstK_perm hV).length_eq.trans keyL_length
theorem kyI_mem {i : Nat} (hi : i < ps.length) : kyI ps f g i ∈ dst (keyL ps f g) := (dst_mem _ _).2 (List.mem_of_getElem? (keyL_get hi))
theorem keyL_mods (hV : InV ps f g) : (keyL ps f g).map (fun k => (k % 150).toNat) = List.range ps.length := by
  unfold keyL
  rw [List.map_map]
  conv => rhs; rw [← List.map_id (List.range ps.length)]
  exact List.map_congr_left fun i hi => kyI_mod hV (List.mem_range.1 hi)
theorem ordL_perm (hV : InV ps f g) : (ordL ps f g).Perm (List.range ps.length) := by
  have h := (dstK_perm hV).map fun k => (k % 150).toNat
  rwa [keyL_mods hV] at h
theorem ordL_length (hV : InV ps f g) : (ordL ps f g).length = ps.length := by rw [(ordL_perm hV).length_eq, List.length_range]
theorem ordL_mem (hV : InV ps f g) {i : Nat} : i ∈ ordL ps f g ↔ i < ps.length := (ordL_perm hV).mem_iff.trans List.mem_range
theorem ordL_nodup (hV : InV ps f g) : (ordL ps f g).Nodup := (ordL_perm hV).nodup_iff.2 List.nodup_range
theorem ordL_keys (hV : InV ps f g) : (ordL ps f g).map (kyI ps f g) = dst (keyL ps f g) := by
  unfold ordL
  rw [List.map_map]
  conv => rhs; rw [← List.map_id (dst (keyL ps f g))]
  refine List.map_congr_left fun k hk => ?_
  obtain ⟨i, hi, rfl⟩ := List.mem_map.1 ((dst_mem _ k).1 hk)
  show kyI ps f g ((kyI ps f g i % 150).toNat) = kyI ps f g i
  rw [kyI_mod hV (List.mem_range.1 hi)]
theorem ordL_sorted (hV : InV ps f g) : (ordL ps f g).Pairwise fun i j => kyI ps f g i < kyI ps f g j := by
  have h := dst_lt (keyL ps f g)
  rw [← ordL_keys hV, List.pairwise_map] at h
  exact h
theorem plc_lt (hV : InV ps f g) {i : Nat} (hi : i < ps.length) : plc ps f g i < ps.length := by
  have := cnt_lt (dst_lt (keyL ps f g)) (kyI_mem hi)
  rwa [dstK_length hV] at this
theorem ordL_at (hV : InV ps f g) {i : Nat} (hi : i < ps.length) : (ordL ps f g)[plc ps f g i]? = some i := by
  have h := at_cnt (dst_lt (keyL ps f g)) (kyI_mem hi)
  unfold ordL plc
  rw [List.getElem?_map, h]
  exact congrArg some (kyI_mod hV hi)
theorem plc_at (hV : InV ps f g) {p i : Nat} (h : (ordL ps f g)[p]? = some i) : plc ps f g i = p := by
  have hi := (ordL_mem hV).1 (List.mem_of_getElem? h)
  have h2 : (dst (keyL ps f g))[p]? = some (kyI ps f g i) := by rw [← ordL_keys hV, List.getElem?_map, h]; rfl
  exact cnt_at (dst_lt _) h2
/-- Counting in a strictly increasing list keeps the order. -/
theorem cnt_iff {s : List Int} (hs : s.Pairwise (· < ·)) {x : Int} (h : x ∈ s) (y : Int) : cntL s x < cntL s y ↔ x < y := by
  have mono : ∀ a b : Int, a ≤ b → cntL s a ≤ cntL s b := fun a b hab => List.countP_mono_left fun z _ hz => by simp only [decide_eq_true_eq] at hz ⊢; omega
  constructor
  · intro hl
    rcases Int.lt_or_le x y with g | g
    · exact g
    · have := mono y x g; omega
  · intro hl
    have h1 := cnt_next hs h
    have h2 := mono (x + 1) y (by omega)
    omega
theorem plc_iff {i j : Nat} (hi : i < ps.length) : plc ps f g i < plc ps f g j ↔ kyI ps f g i < kyI ps f g j := cnt_iff (dst_lt _) (kyI_mem hi) _
theorem plc_cut (hV : InV ps f g) {i : Nat} (hi : i < ps.length) (c : Int) : plc ps f g i < cntL (dst (keyL ps f g)) (keyI c (-1048576) 0) ↔ f (ptAt ps i) < c := (cnt_iff (dst_lt _) (kyI_mem hi) _).trans (kyI_cut hV hi c)
theorem plc_inj (hV : InV ps f g) {i j : Nat} (hi : i < ps.length) (hj : j < ps.length) (h : plc ps f g i = plc ps f g j) : i = j := by
  have h1 := ordL_at hV hi
  rw [h, ordL_at hV hj] at h1
  exact (Option.some.inj h1).symm

/-! ### A range of an order -/
def clampC (c : Int) : Int := min (max c (-1048576)) 1048577
def loS (ps : List Pt3) (f g : Pt3 → Int) (low : Int) : Nat := cntL (dst (keyL ps f g)) (keyI (clampC low) (-1048576) 0)
def hiS (ps : List Pt3) (f g : Pt3 → Int) (low high : Int) : Nat := max (loS ps f g low) (loS ps f g (min high 1048576 + 1))
theorem loS_le (hV : InV ps f g) (low : Int) : loS ps f g low ≤ ps.length := by
  have := cntL_le (dst (keyL ps f g)) (keyI (clampC low) (-1048576) 0)
  rwa [dstK_length hV] at this
theorem hiS_le (hV : InV ps f g) (low high : Int) : hiS ps f g low high ≤ ps.length := Nat.max_le.2 ⟨loS_le hV _, loS_le hV _⟩
theorem loS_hiS (low high : Int) : loS ps f g low ≤ hiS ps f g low high := Nat.le_max_left _ _
theorem loS_iff (hV : InV ps f g) {i : Nat} (hi : i < ps.length) (low : Int) : plc ps f g i < loS ps f g low ↔ f (ptAt ps i) < low := by
  have h1 := plc_cut hV hi (clampC low)
  have h2 := hV.fst i hi
  unfold loS
  rw [h1]
  unfold clampC InC at *
  omega
theorem span_iff (hV : InV ps f g) {i : Nat} (hi : i < ps.length) (low high : Int) : (loS ps f g low ≤ plc ps f g i ∧ plc ps f g i < hiS ps f g low high) ↔ (low ≤ f (ptAt ps i) ∧ f (ptAt ps i) ≤ high) := by
  have h1 := loS_iff hV hi low
  have h2 := loS_iff hV hi (min high 1048576 + 1)
  have h3 := hV.fst i hi
  unfold hiS
  unfold InC at h3
  generalize loS ps f g low = a at *
  generalize loS ps f g (min high 1048576 + 1) = b at *
  generalize plc ps f g i = p at *
  generalize f (ptAt ps i) = x at *
  constructor
  · rintro ⟨e1, e2⟩
    have h4 : ¬ x < low := fun h => by have := h1.2 h; omega
    have h5 : p < b := by omega
    have := h2.1 h5
    omega
  · rintro ⟨e1, e2⟩
    have h4 : ¬ p < a := fun h => by have := h1.1 h; omega
    have h5 : p < b := h2.2 (by omega)
    omega

/-- A part of a list, told by places. -/
theorem part_filter {l : List Nat} {pos : Nat → Nat} (hp : ∀ (p i : Nat), l[p]? = some i → pos i = p) (a b : Nat) (hab : a ≤ b) :
    (l.drop a).take (b - a) = l.filter fun i => decide (a ≤ pos i) && decide (pos i < b) := by
  have sp : l = l.take a ++ ((l.drop a).take (b - a) ++ (l.drop a).drop (b - a)) := by rw [List.take_append_drop, List.take_append_drop]
  conv => rhs; rw [sp, List.filter_append, List.filter_append]
  have h1 : (l.take a).filter (fun i => decide (a ≤ pos i) && decide (pos i < b)) = [] := List.filter_eq_nil_iff.2 fun i hi => by
    obtain ⟨q, hq⟩ := List.getElem?_of_mem hi
    rw [List.getElem?_take] at hq
    split at hq
    · have := hp q i hq
      simp only [Bool.and_eq_true, decide_eq_true_eq]
      omega
    · cases hq
  have h2 : ((l.drop a).take (b - a)).filter (fun i => decide (a ≤ pos i) && decide (pos i < b)) = (l.drop a).take (b - a) := List.filter_eq_self.2 fun i hi => by
    obtain ⟨q, hq⟩ := List.getElem?_of_mem hi
    rw [List.getElem?_take] at hq
    split at hq
    · rw [List.getElem?_drop] at hq
      have := hp _ i hq
      simp only [Bool.and_eq_true, decide_eq_true_eq]
      omega
    · cases hq
  have h3 : ((l.drop a).drop (b - a)).filter (fun i => decide (a ≤ pos i) && decide (pos i < b)) = [] := List.filter_eq_nil_iff.2 fun i hi => by
    obtain ⟨q, hq⟩ := List.getElem?_of_mem hi
    rw [List.getElem?_drop, List.getElem?_drop] at hq
    have := hp _ i hq
    simp only [Bool.and_eq_true, decide_eq_true_eq]
    omega
  rw [h1, h2, h3, List.nil_append, List.append_nil]

/-! ### One list sorted so, places of equals rising -/
theorem stable_is {lt : Nat → Nat → Bool} (hS : SWO lt) {l k : List Nat} (hl : l.Pairwise (· < ·)) (hp : k.Perm l) (hk : k.Pairwise fun x y => lt y x = false ∧ (lt x y = false → x < y)) : k = ssort lt l := by
  refine sorted_one hS k (ssort lt l) (hk.imp fun h => h.1) (ssort_sorted hS l) fun x => ?_
  rw [ssort_filter hS]
  have h1 : (k.filter (eqv lt x)).Pairwise (· < ·) := by
    refine List.Pairwise.imp_of_mem (fun {a b} ha hb hab => ?_) (hk.filter (eqv lt x))
    have ea := eqv_iff.1 (List.mem_filter.1 ha).2
    have eb := eqv_iff.1 (List.mem_filter.1 hb).2
    exact hab.2 (hS.ntrans _ _ _ ea.2 eb.1)
  have h2 : (l.filter (eqv lt x)).Pairwise (· < ·) := hl.filter _
  exact List.Perm.eq_of_pairwise (le := (· < ·)) (fun a b _ _ h1 h2 => by omega) h1 h2 (hp.filter _)
/-- A count parted. -/
theorem countP_part {l : List Nat} {p q s : Nat → Bool} (h : ∀ i ∈ l, (q i = true ∧ s i = false ∧ p i = true) ∨ (q i = false ∧ s i = true ∧ p i = true) ∨ (q i = false ∧ s i = false ∧ p i = false)) : l.countP p = l.countP q + l.countP s := by
  induction l with
  | nil => rfl
  | cons i l ih =>
    rw [List.countP_cons, List.countP_cons, List.countP_cons, ih fun j hj => h j (List.mem_cons_of_mem _ hj)]
    rcases h i (List.mem_cons_self ..) with ⟨a, b, c⟩ | ⟨a, b, c⟩ | ⟨a, b, c⟩ <;> rw [a, b, c] <;> simp <;> omega

/-- An order goes by the first coordinate, then by the second. -/
def Lex (lt : Pt3 → Pt3 → Bool) (f g : Pt3 → Int) : Prop := ∀ p q, lt p q = true ↔ f p < f q ∨ (f p = f q ∧ g p < g q)
theorem lexX : Lex ltX Pt3.x Pt3.y := fun _ _ => ltX_iff
theorem lexY : Lex ltY Pt3.y Pt3.x := fun _ _ => ltY_iff
theorem ord_filter {lt : Pt3 → Pt3 → Bool} (hS : SWO lt) (hL : Lex lt f g) (hV : InV ps f g) (P : Nat → Bool) : (ordL ps f g).filter P = ssort (ltP ps lt) ((List.range ps.length).filter P) := by
  refine stable_is (ltP_swo hS) (List.pairwise_lt_range.filter _) ((ordL_perm hV).filter P) ?_
  refine List.Pairwise.imp_of_mem (fun {i j} hi hj hij => ?_) ((ordL_sorted hV).filter P)
  have ai := (ordL_mem hV).1 (List.mem_filter.1 hi).1
  have aj := (ordL_mem hV).1 (List.mem_filter.1 hj).1
  have h := (kyI_lt hV ai aj).1 hij
  have h1 := hL (ptAt ps i) (ptAt ps j)
  have h2 := hL (ptAt ps j) (ptAt ps i)
  unfold ltP
  refine ⟨?_, fun e => ?_⟩
  · rw [Bool.eq_false_iff, ne_eq, h2]; omega
  · rw [Bool.eq_false_iff, ne_eq, h1] at e; omega
end Go.Proofs.Ytpkclmfadlkbeaa

namespace Go.Proofs.Ytpkclmfadlkbeaa
open Go.RowKit

/-- 'append(out, xs...)', sz cells an element, out nil or the call's own, xs nil or in memory. -/
theorem append_recs {P : Program} (w : World) {ops : Array Oper} {rest : List Oper} {o : Oper} {a : Act} {Q : Exit → Act → World → Prop} (hgd : o.guard = none) (s x : Operand) (t : TypeId)
    (ho : o.op = .call { callee := .builtin .append, args := #[s, x], argTypes := #[t, t] }) (base : Nat) (e : TypeId) (z : Value) (sz bytes : Nat) (ht : P.underlying t = some (.slice e))
    (hinfo : (P.info? e).map (fun i => (i.zero, i.size, i.bytes)) = some (some z, sz, bytes)) (hz : z.cells.size = sz) (hsz : 0 < sz) (v : Value) (n : Nat) (xs : List Value) (hs : a.eval s = v) (hown : w.ownsRow base e sz v n xs)
    (A : Option Addr) (m c : Nat) (news : List Value) (hx : a.eval x = .slice A m c) (hm : news.length = m * sz) (hnone : A = none → c = 0) (hl : Lies w w.heap.size A news) (h1 : ∀ u ∈ news, u.oneCell' = true) (h63 : n + m ≤ maxLen) (hbytes : (n + m) * bytes ≤ 140737488355328) (hbase : base ≤ w.heap.size)
    (h : ∀ v' w', w'.ownsRow base e sz v' (n + m) (xs ++ news) → w.grownBy w' v.ownBlock → wpList P ops Q rest (a.put o.dst v') w') : wpList P ops Q (o :: rest) a w := by
  obtain ⟨i, hi, hz0, hz1, hz2⟩ := info_parts hinfo
  cases A with
  | none =>
    have hc := hnone rfl
    have hn : news = [] := by
      by_cases hne : news = []
      · exact hne
      · obtain ⟨b, o', e', _⟩ := hl hne
        cases e'
    subst hn
    have hm0 : m = 0 := by
      have h2 : m * sz = 0 := hm.symm
      rcases Nat.mul_eq_zero.1 h2 with e2 | e2
      · exact e2
      · omega
    subst hm0 hc
    exact wpList_append_own_none hgd s x t ho base e i sz ht hi v n xs hs hown hx (h v w (by simpa using hown) ⟨rfl, rfl, rfl, Nat.le_refl _, fun _ _ _ => rfl⟩)
  | some ad =>
    refine wpList_append_own w hgd s x t ho base e i z sz bytes ht hi hz0 hz1 hz2 hz hsz v n xs hs hown ad m c news hx hm ?_ h1 h63 hbytes hbase fun v' w' h2 h3 _ => h v' w' h2 h3
    intro j u hj
    obtain ⟨b, o', e', _, hc⟩ := hl (by intro e'; subst e'; simp at hj)
    obtain rfl := Option.some.inj e'
    rw [Addr.add_lit]
    exact hc j u hj

/-- .. at a step of a region that draws its order. -/
theorem step_append_recs {P : Program} (w : World) {ops : Array Oper} {o : Oper} {a : Act} {K : Act → World → Prop} {Q : Exit → Act → World → Prop} {E : Prop} (hgd : o.guard = none) (s x : Operand) (t : TypeId)
    (ho : o.op = .call { callee := .builtin .append, args := #[s, x], argTypes := #[t, t] }) (base : Nat) (e : TypeId) (z : Value) (sz bytes : Nat) (ht : P.underlying t = some (.slice e))
    (hinfo : (P.info? e).map (fun i => (i.zero, i.size, i.bytes)) = some (some z, sz, bytes)) (hz : z.cells.size = sz) (hsz : 0 < sz) (v : Value) (n : Nat) (xs : List Value) (hs : a.eval s = v) (hown : w.ownsRow base e sz v n xs)
    (A : Option Addr) (m c : Nat) (news : List Value) (hx : a.eval x = .slice A m c) (hm : news.length = m * sz) (hnone : A = none → c = 0) (hl : Lies w w.heap.size A news) (h1 : ∀ u ∈ news, u.oneCell' = true) (h63 : n + m ≤ maxLen) (hbytes : (n + m) * bytes ≤ 140737488355328) (hbase : base ≤ w.heap.size)
    (h : ∀ v' w', w'.ownsRow base e sz v' (n + m) (xs ++ news) → w.grownBy w' v.ownBlock → K (a.put o.dst v') w') : if Region.wanted o (yielded ops a.tmps) = true then Oper.wp P o a w K Q else E := by
  have hw : Region.wanted o (yielded ops a.tmps) = true := by simp [Region.wanted, hgd]
  rw [if_pos hw]
  obtain ⟨i, hi, hz0, hz1, hz2⟩ := info_parts hinfo
  cases A with
  | none =>
    have hc := hnone rfl
    have hn : news = [] := by
      by_cases hne : news = []
      · exact hne
      · obtain ⟨b, o', e', _⟩ := hl hne
        cases e'
    subst hn
    have hm0 : m = 0 := by
      have h2 : m * sz = 0 := hm.symm
      rcases Nat.mul_eq_zero.1 h2 with e2 | e2
      · exact e2
      · omega
    subst hm0 hc
    have hrun := run_append_owned_none (P := P) (w := w) base t o.type e i sz ht hi v n xs hown
    unfold Oper.wp
    simp [execOp, ho, resolve, invoke, builtin, hs, hx, hrun, Result.andThen]
    exact h v w (by simpa using hown) ⟨rfl, rfl, rfl, Nat.le_refl _, fun _ _ _ => rfl⟩
  | some ad =>
    refine wp_append_own w s x t ho base e i z sz bytes ht hi hz0 hz1 hz2 hz hsz v n xs hs hown ad m c news hx hm ?_ h1 h63 hbytes hbase fun v' w' h2 h3 _ => h v' w' h2 h3
    intro j u hj
    obtain ⟨b, o', e', _, hc⟩ := hl (by intro e'; subst e'; simp at hj)
    obtain rfl := Option.some.inj e'
    rw [Addr.add_lit]
    exact hc j u hj

/-- A row of a call's own, as a slice that lies in memory. -/
theorem own_slice_n {w : World} {base sz : Nat} {e : TypeId} {v : Value} {n : Nat} {xs : List Value} (h : w.ownsRow base e sz v n xs) : ∃ A c, v = .slice A n c ∧ Lies w w.heap.size A xs := by
  have h0 := h.1
  rcases h.2 with ⟨rfl, rfl⟩ | ⟨g, cap, cur, rfl, hg, hh, hn, _, hs, hx⟩
  · refine ⟨none, 0, rfl, ?_⟩
    have e : xs = [] := List.eq_nil_of_length_eq_zero (by simpa using h0)
    subst e
    exact Lies.nil
  · refine ⟨_, cap, rfl, fun _ => ⟨g, 0, rfl, ?_, fun j v hv => ?_⟩⟩
    · rcases Nat.lt_or_ge g w.heap.size with h1 | h1
      · exact h1
      · rw [Array.getElem?_eq_none h1] at hh; cases hh
    · have := h.cells (g := g) rfl j v hv
      rwa [Addr.add_lit, Nat.zero_add, ← Nat.zero_add j] at this
/-- A row of a call's own, as a slice; its capacity. -/
theorem own_slice_all {w : World} {base sz : Nat} {e : TypeId} {v : Value} {n : Nat} {xs : List Value} (h : w.ownsRow base e sz v n xs) : ∃ A c, v = .slice A n c ∧ Lies w w.heap.size A xs ∧ (A = none → c = 0) ∧ New base A := by
  obtain ⟨A, c, e1, hl⟩ := own_slice_n h
  refine ⟨A, c, e1, hl, fun e2 => ?_, fun ad e2 => ?_⟩
  · rcases h.2 with ⟨h3, _⟩ | ⟨g, cap, cur, h3, _⟩
    · rw [h3] at e1; injection e1 with _ _ e4; exact e4.symm
    · rw [h3] at e1; injection e1 with e4; rw [e2] at e4; cases e4
  · rcases h.2 with ⟨h3, _⟩ | ⟨g, cap, cur, h3, hb, _⟩
    · rw [h3] at e1; injection e1 with e4; rw [e2] at e4; cases e4
    · rw [h3] at e1; injection e1 with e4; rw [e2] at e4; injection e4 with e4; rw [← e4]; exact hb
end Go.Proofs.Ytpkclmfadlkbeaa
