/-
  Words for memory, of no program: a slice of slices of int, what becomes of it where new memory is made; what the reading of such an argument comes to. No condition but what each theorem names.
-/
import Derived.Test.YtjgibbccjijpaaaFrame
namespace Go.Proofs.Ytjgibbccjijpaaa
open Go.RowKit Go.ChangeShapes Go.WideShapes Go.Deep

/-- A slice of int: its address, its numbers, its capacity. -/
structure Row where
  adr : Option Addr
  nums : List Int
  cap : Nat
instance : Inhabited Row := ⟨⟨none, [], 0⟩⟩
/-- Its value. -/
def Row.val (r : Row) : Value := .slice r.adr r.nums.length r.cap

/-- The slice with the address A holds the rows rs, all below block B. -/
structure Grid (w : World) (B : Nat) (A : Option Addr) (rs : List Row) : Prop where
  heads : Lies w B A (rs.map Row.val)
  rows : ∀ r ∈ rs, Lies w B r.adr (r.nums.map (.int .i64))

theorem Grid.nil {w : World} {B : Nat} {A : Option Addr} : Grid w B A [] := ⟨Lies.nil, fun _ h => by cases h⟩
theorem Grid.below {w w' : World} {B : Nat} {A : Option Addr} {rs : List Row} (h : Grid w B A rs) (hb : Below B w w') : Grid w' B A rs := ⟨h.heads.below hb, fun r hr => (h.rows r hr).below hb⟩
theorem Grid.on {w w' : World} {A : Option Addr} {rs : List Row} (h : Grid w w.heap.size A rs) (hb : Below w.heap.size w w') : Grid w' w'.heap.size A rs := ⟨h.heads.on hb, fun r hr => (h.rows r hr).on hb⟩
theorem Grid.alloc {w : World} {A : Option Addr} {rs : List Row} (h : Grid w w.heap.size A rs) (o : Obj) : Grid (w.alloc o) (w.alloc o).heap.size A rs := ⟨h.heads.alloc o, fun r hr => (h.rows r hr).alloc o⟩
theorem Grid.drewN {w : World} {B : Nat} {A : Option Addr} {rs : List Row} (h : Grid w B A rs) (n : Nat) : Grid (w.drewN n) B A rs := ⟨h.heads.drewN n, fun r hr => (h.rows r hr).drewN n⟩
theorem Grid.drew {w : World} {B : Nat} {A : Option Addr} {rs : List Row} (h : Grid w B A rs) : Grid w.drew B A rs := ⟨h.heads.drew, fun r hr => (h.rows r hr).drew⟩

/-- A row, by its number. -/
theorem Grid.at_ {w : World} {B : Nat} {A : Option Addr} {rs : List Row} (h : Grid w B A rs) {k : Nat} (hk : k < rs.length) :
    ∃ b o r, A = some ⟨b, o, none⟩ ∧ b < B ∧ rs[k]? = some r ∧ w.cell? ⟨b, o + k, none⟩ = some (.slice r.adr r.nums.length r.cap) ∧ Lies w B r.adr (r.nums.map (.int .i64)) := by
  obtain ⟨b, o, r, e, hb, hx, hc⟩ := h.heads.at_ hk
  exact ⟨b, o, r, e, hb, hx, hc, h.rows r (List.mem_of_getElem? hx)⟩

section
variable {H : Type} {enc : TypeId × Value → H} {P : Program} {w : World} {held : Bool}

/-- What is known of a row that was handed in. -/
structure Row.Fits (r : Row) : Prop where
  le : r.nums.length ≤ r.cap
  room : r.cap * 8 ≤ 140737488351232
  nil : r.adr = none → r.cap = 0
  wf : ∀ z ∈ r.nums, (Lit.int .i64 z).wf = true

/-- A slice of slices of int. -/
theorem rd_rows {t e e2 : TypeId} {fuel : Nat} {cs : List Value} {x : DataW H × List MemPlace} (ht : P.underlying t = some (.slice e)) (hc : P.cellsOf e = 1) (hby : P.bytesOf e = 24) (he : P.underlying e = some (.slice e2)) (he2 : P.underlying e2 = some (.int .i64)) (hc2 : P.cellsOf e2 = 1) (hby2 : P.bytesOf e2 = 8)
    (h : DataW.trod enc P w 0 (fun _ => true) held fuel t cs = some x) (hw : ∀ n ∈ x.1.weights P t, n ≤ reachBytes) :
    ∃ (A : Option Addr) (rs : List Row) (c : Nat), cs = [.slice A rs.length c] ∧ rs.length ≤ c ∧ c * 24 ≤ 140737488351232 ∧ (A = none → c = 0) ∧ Grid w w.heap.size A rs ∧ ∀ r ∈ rs, r.Fits := by
  obtain ⟨A, n, c, V, rfl, hn, hb, hl, hA, hx⟩ := rd_vals ht hc hby h hw
  obtain ⟨R, hR⟩ := choose_lt (α := Row) (p := fun i r => V i = r.val ∧ Lies w w.heap.size r.adr (r.nums.map (.int .i64)) ∧ r.Fits) (fun i hi => by
    obtain ⟨m, y, hy, hwy⟩ := hx i hi
    obtain ⟨A2, zs, c2, e1, r1, r2, r3, r4, r5⟩ := rd_ints he he2 hc2 hby2 hy hwy
    exact ⟨⟨A2, zs, c2⟩, by show V i = .slice A2 zs.length c2; simpa using e1, r4, r1, r2, r3, r5⟩)
  refine ⟨A, (List.range n).map R, c, by rw [range_map_length], by rw [range_map_length]; exact hn, hb, hA, ⟨?_, ?_⟩, ?_⟩
  · rw [List.map_map]
    rw [List.map_congr_left (fun i hi => (hR i (List.mem_range.1 hi)).1)] at hl
    exact hl
  · intro r hr
    obtain ⟨i, hi, rfl⟩ := List.mem_map.1 hr
    exact (hR i (List.mem_range.1 hi)).2.1
  · intro r hr
    obtain ⟨i, hi, rfl⟩ := List.mem_map.1 hr
    exact (hR i (List.mem_range.1 hi)).2.2
end
end Go.Proofs.Ytjgibbccjijpaaa
