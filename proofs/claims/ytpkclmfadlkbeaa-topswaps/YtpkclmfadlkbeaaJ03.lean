/-
  What the readings of arguments come to, of no program: a slice of bools, of integers, of words; a struct field by field; with the reach of the form (no slice takes more than 2^47 - 4096 bytes). For the last step of each proof. Words for memory, of no program: a slice of slices of int, what becomes of it where new memory is made; what the reading of such an argument comes to. No condition but what each theorem names.
-/
import Derived.Test.YtpkclmfadlkbeaaJ01
import Derived.SizedLaws
import Derived.Deep.Slices
import Derived.OpenShut
import Derived.WideShapes
import Derived.Carry
namespace Go.Proofs.Ytpkclmfadlkbeaa
open Go.RowKit Go.ChangeShapes Go.WideShapes Go.Deep

theorem lies_of {w : World} {a : Addr} {n : Nat} {V : Nat → Value} (h : ∀ i, i < n → w.cell? (a.add i) = some (V i)) : Lies w w.heap.size (some a) ((List.range n).map V) := by
  intro hne
  have hn : 0 < n := by
    rcases Nat.eq_zero_or_pos n with e | e
    · subst e; exact absurd rfl hne
    · exact e
  obtain ⟨b, o, s⟩ := a
  have h0 := h 0 hn
  have hs : s = none := by simpa [Addr.add] using World.cell?_spot h0
  subst hs
  refine ⟨b, o, rfl, by simpa [Addr.add] using cell_lt h0, fun j v hv => ?_⟩
  rw [List.getElem?_map] at hv
  have hj : j < n := by
    rcases Nat.lt_or_ge j n with h1 | h1
    · exact h1
    · rw [List.getElem?_eq_none (by simpa using h1)] at hv; cases hv
  rw [List.getElem?_range hj] at hv
  have := h j hj
  rw [Addr.add_lit] at this
  rw [this]
  exact hv

section
variable {H : Type} {enc : TypeId × Value → H} {P : Program} {w : World} {held : Bool}

theorem weight_arg {ts : List TypeId} {ds : List (DataW H)} (h : (DataW.weightsEach P ts ds).all (· ≤ reachBytes) = true) {j : Nat} {t : TypeId} {d : DataW H} (ht : ts[j]? = some t) (hd : ds[j]? = some d) :
    ∀ n ∈ d.weights P t, n ≤ reachBytes := fun n hn => by
  have := List.all_eq_true.1 h n (DataW.weights_mem_each ht hd n hn)
  simpa using this

/-- A slice of one-cell elements. -/
theorem rd_vals {t e : TypeId} {bytes fuel : Nat} {cs : List Value} {x : DataW H × List MemPlace} (ht : P.underlying t = some (.slice e)) (hc : P.cellsOf e = 1) (hby : P.bytesOf e = bytes)
    (h : DataW.trod enc P w 0 (fun _ => true) held fuel t cs = some x) (hw : ∀ n ∈ x.1.weights P t, n ≤ reachBytes) :
    ∃ (A : Option Addr) (n c : Nat) (V : Nat → Value), cs = [.slice A n c] ∧ n ≤ c ∧ c * bytes ≤ 140737488351232 ∧ Lies w w.heap.size A ((List.range n).map V) ∧ (A = none → c = 0) ∧
      ∀ i, i < n → ∃ m y, DataW.trod enc P w 0 (fun _ => true) held m e [V i] = some y ∧ ∀ k ∈ y.1.weights P e, k ≤ reachBytes := by
  rcases open_slice1 ht hc h with ⟨rfl, rfl⟩ | ⟨a, len, cap, m, n, V, D, Pl, rfl, _, hl, _, hm, rfl, hx⟩
  · exact ⟨none, 0, 0, fun _ => .bool false, rfl, Nat.le_refl _, by omega, by simpa using Lies.nil, fun _ => rfl, fun i hi => by omega⟩
  · simp only [if_true] at hm
    subst hm
    refine ⟨some a, len, m, V, rfl, hl, ?_, lies_of fun i hi => (hx i (by omega)).1, (fun e => by cases e), fun i hi => ⟨n, _, (hx i (by omega)).2, fun k hk => hw k ?_⟩⟩
    · have := hw ((((List.range len).map D).length + ((List.range (m - len)).map fun j => D (len + j)).length) * P.bytesOf e) (by simp [DataW.weights, ht])
      simp only [List.length_map, List.length_range, hby, reachBytes] at this
      rwa [show len + (m - len) = m by omega] at this
    · simp only [DataW.weights, ht, List.mem_cons, List.mem_append]
      right; left
      have hmem : D i ∈ (List.range len).map D := List.mem_map.2 ⟨i, List.mem_range.2 hi, rfl⟩
      generalize (List.range len).map D = l at hmem
      induction l with
      | nil => cases hmem
      | cons d r ih =>
        rw [DataW.weightsAll, List.mem_append]
        rcases List.mem_cons.1 hmem with e | e
        · left; rw [← e]; exact hk
        · right; exact ih e

theorem range_map_length {α : Type} (n : Nat) (f : Nat → α) : ((List.range n).map f).length = n := by simp

/-- A slice of bools. -/
theorem rd_bools {t e : TypeId} {fuel : Nat} {cs : List Value} {x : DataW H × List MemPlace} (ht : P.underlying t = some (.slice e)) (he : P.underlying e = some .bool) (hc : P.cellsOf e = 1) (hby : P.bytesOf e = 1)
    (h : DataW.trod enc P w 0 (fun _ => true) held fuel t cs = some x) (hw : ∀ n ∈ x.1.weights P t, n ≤ reachBytes) :
    ∃ (A : Option Addr) (bs : List Bool) (c : Nat), cs = [.slice A bs.length c] ∧ bs.length ≤ c ∧ c ≤ 140737488351232 ∧ (A = none → c = 0) ∧ Lies w w.heap.size A (bs.map .bool) := by
  obtain ⟨A, n, c, V, rfl, hn, hb, hl, hA, hx⟩ := rd_vals ht hc hby h hw
  obtain ⟨B, hB⟩ := choose_lt (α := Bool) (p := fun i b => V i = .bool b) (fun i hi => by
    obtain ⟨m, y, hy, _⟩ := hx i hi
    obtain ⟨b, h1, _⟩ := DataW.trod_bool he hy
    exact ⟨b, by simpa using h1⟩)
  refine ⟨A, (List.range n).map B, c, by rw [range_map_length], by rw [range_map_length]; exact hn, by omega, hA, ?_⟩
  rw [List.map_map]
  rw [List.map_congr_left (fun i hi => hB i (List.mem_range.1 hi))] at hl
  exact hl

/-- A slice of integers of eight bytes. -/
theorem rd_ints {k : IntKind} {t e : TypeId} {fuel : Nat} {cs : List Value} {x : DataW H × List MemPlace} (ht : P.underlying t = some (.slice e)) (he : P.underlying e = some (.int k)) (hc : P.cellsOf e = 1) (hby : P.bytesOf e = 8)
    (h : DataW.trod enc P w 0 (fun _ => true) held fuel t cs = some x) (hw : ∀ n ∈ x.1.weights P t, n ≤ reachBytes) :
    ∃ (A : Option Addr) (zs : List Int) (c : Nat), cs = [.slice A zs.length c] ∧ zs.length ≤ c ∧ c * 8 ≤ 140737488351232 ∧ (A = none → c = 0) ∧ Lies w w.heap.size A (zs.map (.int k)) ∧ ∀ z ∈ zs, (Lit.int k z).wf = true := by
  obtain ⟨A, n, c, V, rfl, hn, hb, hl, hA, hx⟩ := rd_vals ht hc hby h hw
  obtain ⟨B, hB⟩ := choose_lt (α := Int) (p := fun i b => V i = .int k b ∧ (Lit.int k b).wf = true) (fun i hi => by
    obtain ⟨m, y, hy, _⟩ := hx i hi
    obtain ⟨b, h1, _, h2⟩ := DataW.trod_int he hy
    exact ⟨b, by simpa using h1, h2⟩)
  refine ⟨A, (List.range n).map B, c, by rw [range_map_length], by rw [range_map_length]; exact hn, hb, hA, ?_, ?_⟩
  · rw [List.map_map]
    rw [List.map_congr_left (fun i hi => (hB i (List.mem_range.1 hi)).1)] at hl
    exact hl
  · intro z hz
    obtain ⟨i, hi, rfl⟩ := List.mem_map.1 hz
    exact (hB i (List.mem_range.1 hi)).2

/-- A slice of words. -/
theorem rd_words {t e : TypeId} {fuel : Nat} {cs : List Value} {x : DataW H × List MemPlace} (ht : P.underlying t = some (.slice e)) (he : P.underlying e = some (.int .u64)) (hc : P.cellsOf e = 1) (hby : P.bytesOf e = 8)
    (h : DataW.trod enc P w 0 (fun _ => true) held fuel t cs = some x) (hw : ∀ n ∈ x.1.weights P t, n ≤ reachBytes) :
    ∃ (A : Option Addr) (ws : List Nat) (c : Nat), cs = [.slice A ws.length c] ∧ ws.length ≤ c ∧ c * 8 ≤ 140737488351232 ∧ (A = none → c = 0) ∧ Words64 w w.heap.size A ws := by
  obtain ⟨A, zs, c, rfl, hn, hb, hA, hl, hz⟩ := rd_ints ht he hc hby h hw
  have hz' : ∀ z ∈ zs, 0 ≤ z ∧ z < 18446744073709551616 := fun z h => by
    have hb := bounds_u64 (hz z h)
    exact ⟨by omega, by omega⟩
  refine ⟨A, zs.map Int.toNat, c, by rw [List.length_map], by rw [List.length_map]; exact hn, hb, hA, ?_, ?_⟩
  · rw [List.map_map]
    have e : zs.map (.int .u64) = zs.map ((fun x : Nat => Value.int .u64 (x : Int)) ∘ Int.toNat) := List.map_congr_left fun z h => by
      have := hz' z h
      show Value.int .u64 z = .int .u64 ((z.toNat : Nat) : Int)
      rw [Int.toNat_of_nonneg this.1]
    rw [← e]
    exact hl
  · intro x hx
    obtain ⟨z, h1, rfl⟩ := List.mem_map.1 hx
    have := hz' z h1
    omega

/-- A struct, field by field. -/
theorem rd_struct {t : TypeId} {fs : Array Field} {fuel : Nat} {cs : List Value} {x : DataW H × List MemPlace} (hs : P.underlying t = some (.struct fs))
    (h : DataW.trod enc P w 0 (fun _ => true) held fuel t cs = some x) (hw : ∀ n ∈ x.1.weights P t, n ≤ reachBytes) :
    cs.length = P.cellsOf t ∧ ∀ (j : Nat) (f : Field), fs[j]? = some f → ∃ m y, DataW.trod enc P w 0 (fun _ => true) held m f.type ((cs.drop f.offset).take (P.cellsOf f.type)) = some y ∧ ∀ n ∈ y.1.weights P f.type, n ≤ reachBytes := by
  obtain ⟨xs, m, _, hx, hl, hlen, hf⟩ := DataW.trod_struct hs h
  refine ⟨hl, fun j f hj => ?_⟩
  have hjl : j < xs.length := by rw [hlen]; exact (Array.getElem?_eq_some_iff.1 hj).1
  have hy : xs[j]? = some xs[j] := List.getElem?_eq_getElem hjl
  refine ⟨m, xs[j], (hf j f hj).trans hy, fun n hn => hw n ?_⟩
  subst hx
  simp only [DataW.weights, hs]
  refine DataW.weights_mem_each (j := j) (t := f.type) (d := xs[j].1) ?_ ?_ n hn
  · rw [List.getElem?_map, Array.getElem?_toList, hj]; rfl
  · rw [List.getElem?_map, hy]; rfl

/-- A struct of an integer and a slice of words (a bit vector). -/
theorem rd_bits {t tw e : TypeId} {f0 f1 : Field} {ti : TypeId} {fuel : Nat} {cs : List Value} {x : DataW H × List MemPlace} (hs : P.underlying t = some (.struct #[f0, f1])) (hC : P.cellsOf t = 2) (h0 : f0.type = ti) (h1 : f1.type = tw) (o0 : f0.offset = 0) (o1 : f1.offset = 1)
    (hi : P.underlying ti = some (.int .i64)) (ci : P.cellsOf ti = 1) (ht : P.underlying tw = some (.slice e)) (ct : P.cellsOf tw = 1) (he : P.underlying e = some (.int .u64)) (hc : P.cellsOf e = 1) (hby : P.bytesOf e = 8)
    (h : DataW.trod enc P w 0 (fun _ => true) held fuel t cs = some x) (hw : ∀ n ∈ x.1.weights P t, n ≤ reachBytes) :
    ∃ (n : Int) (A : Option Addr) (ws : List Nat) (c : Nat), cs = [.int .i64 n, .slice A ws.length c] ∧ (Lit.int .i64 n).wf = true ∧ ws.length ≤ c ∧ c * 8 ≤ 140737488351232 ∧ (A = none → c = 0) ∧ Words64 w w.heap.size A ws := by
  obtain ⟨hl, hf⟩ := rd_struct hs h hw
  rw [hC] at hl
  match cs, hl with
  | [c0, c1], _ =>
    obtain ⟨m0, y0, g0, _⟩ := hf 0 f0 rfl
    obtain ⟨m1, y1, g1, w1⟩ := hf 1 f1 rfl
    rw [h0, o0, ci] at g0
    rw [h1, o1, ct] at g1
    rw [h1] at w1
    obtain ⟨n, e0, _, wf⟩ := DataW.trod_int hi g0
    obtain ⟨A, ws, c, e1, r1, r2, r3, r4⟩ := rd_words ht he hc hby g1 w1
    have e0' : c0 = .int .i64 n := by simpa using e0
    have e1' : c1 = .slice A ws.length c := by simpa using e1
    subst e0' e1'
    exact ⟨n, A, ws, c, rfl, wf, r1, r2, r3, r4⟩

/-- A struct of two integers and a slice of words (a packed array). -/
theorem rd_packed {t tw e : TypeId} {f0 f1 f2 : Field} {ti : TypeId} {fuel : Nat} {cs : List Value} {x : DataW H × List MemPlace} (hs : P.underlying t = some (.struct #[f0, f1, f2])) (hC : P.cellsOf t = 3) (h0 : f0.type = ti) (h1 : f1.type = ti) (h2 : f2.type = tw) (o0 : f0.offset = 0) (o1 : f1.offset = 1) (o2 : f2.offset = 2)
    (hi : P.underlying ti = some (.int .i64)) (ci : P.cellsOf ti = 1) (ht : P.underlying tw = some (.slice e)) (ct : P.cellsOf tw = 1) (he : P.underlying e = some (.int .u64)) (hc : P.cellsOf e = 1) (hby : P.bytesOf e = 8)
    (h : DataW.trod enc P w 0 (fun _ => true) held fuel t cs = some x) (hw : ∀ n ∈ x.1.weights P t, n ≤ reachBytes) :
    ∃ (n d : Int) (A : Option Addr) (ws : List Nat) (c : Nat), cs = [.int .i64 n, .int .i64 d, .slice A ws.length c] ∧ (Lit.int .i64 n).wf = true ∧ (Lit.int .i64 d).wf = true ∧ ws.length ≤ c ∧ c * 8 ≤ 140737488351232 ∧ (A = none → c = 0) ∧ Words64 w w.heap.size A ws := by
  obtain ⟨hl, hf⟩ := rd_struct hs h hw
  rw [hC] at hl
  match cs, hl with
  | [c0, c1, c2], _ =>
    obtain ⟨m0, y0, g0, _⟩ := hf 0 f0 rfl
    obtain ⟨m1, y1, g1, _⟩ := hf 1 f1 rfl
    obtain ⟨m2, y2, g2, w2⟩ := hf 2 f2 rfl
    rw [h0, o0, ci] at g0
    rw [h1, o1, ci] at g1
    rw [h2, o2, ct] at g2
    rw [h2] at w2
    obtain ⟨n, e0, _, wf⟩ := DataW.trod_int hi g0
    obtain ⟨d, e1, _, wd⟩ := DataW.trod_int hi g1
    obtain ⟨A, ws, c, e2, r1, r2, r3, r4⟩ := rd_words ht he hc hby g2 w2
    have e0' : c0 = .int .i64 n := by simpa using e0
    have e1' : c1 = .int .i64 d := by simpa using e1
    have e2' : c2 = .slice A ws.length c := by simpa using e2
    subst e0' e1' e2'
    exact ⟨n, d, A, ws, c, rfl, wf, wd, r1, r2, r3, r4⟩
end
end Go.Proofs.Ytpkclmfadlkbeaa

namespace Go.Proofs.Ytpkclmfadlkbeaa
open Go.RowKit Go.ChangeShapes Go.WideShapes Go.Deep

/-- A slice of int: its address, its numbers, its capacity. -/
structure Row where
  adr : Option Addr
  nums : List Int
  cap : Nat
instance : Inhabited Row := ⟨⟨none, [], 0⟩⟩
/-- Its value. -/
def Row.val (r : Row) : Value := .slice r.adr r.nums.length r.cap

/-- The slice with the address A holds the rows rs, all below block B. -/
structure Grid (w : World) (B : Nat) (A : Option Addr) (rs : List Row) : Prop where
  heads : Lies w B A (rs.map Row.val)
  rows : ∀ r ∈ rs, Lies w B r.adr (r.nums.map (.int .i64))

theorem Grid.nil {w : World} {B : Nat} {A : Option Addr} : Grid w B A [] := ⟨Lies.nil, fun _ h => by cases h⟩
theorem Grid.below {w w' : World} {B : Nat} {A : Option Addr} {rs : List Row} (h : Grid w B A rs) (hb : Below B w w') : Grid w' B A rs := ⟨h.heads.below hb, fun r hr => (h.rows r hr).below hb⟩
theorem Grid.on {w w' : World} {A : Option Addr} {rs : List Row} (h : Grid w w.heap.size A rs) (hb : Below w.heap.size w w') : Grid w' w'.heap.size A rs := ⟨h.heads.on hb, fun r hr => (h.rows r hr).on hb⟩
theorem Grid.alloc {w : World} {A : Option Addr} {rs : List Row} (h : Grid w w.heap.size A rs) (o : Obj) : Grid (w.alloc o) (w.alloc o).heap.size A rs := ⟨h.heads.alloc o, fun r hr => (h.rows r hr).alloc o⟩
theorem Grid.drewN {w : World} {B : Nat} {A : Option Addr} {rs : List Row} (h : Grid w B A rs) (n : Nat) : Grid (w.drewN n) B A rs := ⟨h.heads.drewN n, fun r hr => (h.rows r hr).drewN n⟩
theorem Grid.drew {w : World} {B : Nat} {A : Option Addr} {rs : List Row} (h : Grid w B A rs) : Grid w.drew B A rs := ⟨h.heads.drew, fun r hr => (h.rows r hr).drew⟩

/-- A row, by its number. -/
theorem Grid.at_ {w : World} {B : Nat} {A : Option Addr} {rs : List Row} (h : Grid w B A rs) {k : Nat} (hk : k < rs.length) :
    ∃ b o r, A = some ⟨b, o, none⟩ ∧ b < B ∧ rs[k]? = some r ∧ w.cell? ⟨b, o + k, none⟩ = some (.slice r.adr r.nums.length r.cap) ∧ Lies w B r.adr (r.nums.map (.int .i64)) := by
  obtain ⟨b, o, r, e, hb, hx, hc⟩ := h.heads.at_ hk
  exact ⟨b, o, r, e, hb, hx, hc, h.rows r (List.mem_of_getElem? hx)⟩

section
variable {H : Type} {enc : TypeId × Value → H} {P : Program} {w : World} {held : Bool}

/-- What is known of a row that was handed in. -/
structure Row.Fits (r : Row) : Prop where
  le : r.nums.length ≤ r.cap
  room : r.cap * 8 ≤ 140737488351232
  nil : r.adr = none → r.cap = 0
  wf : ∀ z ∈ r.nums, (Lit.int .i64 z).wf = true

/-- A slice of slices of int. -/
theorem rd_rows {t e e2 : TypeId} {fuel : Nat} {cs : List Value} {x : DataW H × List MemPlace} (ht : P.underlying t = some (.slice e)) (hc : P.cellsOf e = 1) (hby : P.bytesOf e = 24) (he : P.underlying e = some (.slice e2)) (he2 : P.underlying e2 = some (.int .i64)) (hc2 : P.cellsOf e2 = 1) (hby2 : P.bytesOf e2 = 8)
    (h : DataW.trod enc P w 0 (fun _ => true) held fuel t cs = some x) (hw : ∀ n ∈ x.1.weights P t, n ≤ reachBytes) :
    ∃ (A : Option Addr) (rs : List Row) (c : Nat), cs = [.slice A rs.length c] ∧ rs.length ≤ c ∧ c * 24 ≤ 140737488351232 ∧ (A = none → c = 0) ∧ Grid w w.heap.size A rs ∧ ∀ r ∈ rs, r.Fits := by
  obtain ⟨A, n, c, V, rfl, hn, hb, hl, hA, hx⟩ := rd_vals ht hc hby h hw
  obtain ⟨R, hR⟩ := choose_lt (α := Row) (p := fun i r => V i = r.val ∧ Lies w w.heap.size r.adr (r.nums.map (.int .i64)) ∧ r.Fits) (fun i hi => by
    obtain ⟨m, y, hy, hwy⟩ := hx i hi
    obtain ⟨A2, zs, c2, e1, r1, r2, r3, r4, r5⟩ := rd_ints he he2 hc2 hby2 hy hwy
    exact ⟨⟨A2, zs, c2⟩, by show V i = .slice A2 zs.length c2; simpa using e1, r4, r1, r2, r3, r5⟩)
  refine ⟨A, (List.range n).map R, c, by rw [range_map_length], by rw [range_map_length]; exact hn, hb, hA, ⟨?_, ?_⟩, ?_⟩
  · rw [List.map_map]
    rw [List.map_congr_left (fun i hi => (hR i (List.mem_range.1 hi)).1)] at hl
    exact hl
  · intro r hr
    obtain ⟨i, hi, rfl⟩ := List.mem_map.1 hr
    exact (hR i (List.mem_range.1 hi)).2.1
  · intro r hr
    obtain ⟨i, hi, rfl⟩ := List.mem_map.1 hr
    exact (hR i (List.mem_range.1 hi)).2.2
end
end Go.Proofs.Ytpkclmfadlkbeaa
