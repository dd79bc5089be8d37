/-
  A segment tree in memory, of no program but for its types: its nodes' blocks lie one behind the other. No condition but what each theorem names.
-/
import Derived.Test.YtefgfkicacbmeaaSegs
import Derived.Test.YtefgfkicacbmeaaMem
namespace Go.Proofs.Ytefgfkicacbmeaa
open Go.RowKit Words

/-- Nothing that was there has changed but blocks of S. -/
structure Keeps (S : Nat → Prop) (w w' : World) : Prop where
  os : w'.os = w.os
  tape : w'.tape = w.tape
  output : w'.output = w.output
  size : w.heap.size ≤ w'.heap.size
  block : ∀ k, k < w.heap.size → ¬ S k → w'.heap[k]? = w.heap[k]?

theorem Keeps.refl (S : Nat → Prop) (w : World) : Keeps S w w := ⟨rfl, rfl, rfl, Nat.le_refl _, fun _ _ _ => rfl⟩
theorem Keeps.trans {S : Nat → Prop} {a b c : World} (h : Keeps S a b) (k : Keeps S b c) : Keeps S a c :=
  ⟨k.os.trans h.os, k.tape.trans h.tape, k.output.trans h.output, Nat.le_trans h.size k.size, fun i hi hs => (k.block i (Nat.lt_of_lt_of_le hi h.size) hs).trans (h.block i hi hs)⟩
theorem Keeps.mono {S T : Nat → Prop} {a b : World} (h : Keeps S a b) (hs : ∀ k, S k → T k) : Keeps T a b := ⟨h.os, h.tape, h.output, h.size, fun i hi ht => h.block i hi fun e => ht (hs i e)⟩
theorem Keeps.drewN {S : Nat → Prop} {a b : World} (h : Keeps S a b) (n : Nat) : Keeps S a (b.drewN n) := ⟨h.os, h.tape, h.output, h.size, h.block⟩
theorem Keeps.drew {S : Nat → Prop} {a b : World} (h : Keeps S a b) : Keeps S a b.drew := ⟨h.os, h.tape, h.output, h.size, h.block⟩
theorem Keeps.alloc {S : Nat → Prop} {a b : World} (h : Keeps S a b) (o : Obj) : Keeps S a (b.alloc o) :=
  ⟨h.os, h.tape, h.output, Nat.le_trans h.size (by simp), fun i hi hs => (Below.heap_alloc b o i (Nat.lt_of_lt_of_le hi h.size)).trans (h.block i hi hs)⟩
theorem Keeps.setCell {S : Nat → Prop} {a b : World} (h : Keeps S a b) {p : Addr} (hp : S p.block ∨ a.heap.size ≤ p.block) (u : Value) : Keeps S a (b.setCell p u) :=
  ⟨h.os, h.tape, h.output, by rw [World.size_setCell]; exact h.size, fun i hi hs => (Below.heap_setCell b p u i (fun e => by subst e; rcases hp with hp | hp; exact hs hp; omega)).trans (h.block i hi hs)⟩
theorem Keeps.ofBelow {S : Nat → Prop} {a b : World} (h : Below a.heap.size a b) : Keeps S a b := ⟨h.os, h.tape, h.output, h.size, fun i hi _ => h.block i hi⟩
theorem Keeps.below {S : Nat → Prop} {a b : World} (h : Keeps S a b) {B : Nat} (hB : B ≤ a.heap.size) (hs : ∀ k, k < B → ¬ S k) : Below B a b := ⟨h.os, h.tape, h.output, h.size, fun i hi => h.block i (Nat.lt_of_lt_of_le hi hB) (hs i hi)⟩
theorem Blk.keeps {w w' : World} {g : Nat} {t : TypeId} {xs : List Value} (h : Blk w g t xs) {S : Nat → Prop} (hk : Keeps S w w') (hg : ¬ S g) : Blk w' g t xs := (hk.block g h.lt hg).trans h

/-- One block. -/
def Is (g k : Nat) : Prop := k = g
theorem Keeps.put1 {g : Nat} {a b : World} (h : Keeps (Is g) a b) (i : Nat) (u : Value) : Keeps (Is g) a (b.setCell ⟨g, i, none⟩ u) := h.setCell (p := ⟨g, i, none⟩) (.inl rfl) u

/-- The cells of a node. -/
def nodeC (n le su : Int) (s : Bool) (b : Int) (p q : Option Addr) : List Value := [.int .i64 n, .int .i64 le, .int .i64 su, .bool s, .int .i64 b, .pointer p, .pointer q]

/-- The tree with its root in block g stands for the numbers l: its blocks are g, g + 1, .. -/
inductive Tree (w : World) : Nat → List Int → Prop
  | leaf (g : Nat) (x : Int) (s : Bool) (b : Int) (hb : Blk w g 121 (nodeC 1 x x s b none none)) (hx : Bd x) : Tree w g [x]
  | node (g : Nat) (la lb l : List Int) (s : Bool) (b : Int) (hb : Blk w g 121 (nodeC l.length (mn l) (sm l) s b (some ⟨g + 1, 0, none⟩) (some ⟨g + 2 * la.length, 0, none⟩)))
      (ha : Tree w (g + 1) la) (hr : Tree w (g + 2 * la.length) lb) (hl : l = (la ++ lb).map (app s b)) (hd : Bds l) : Tree w g l

theorem Tree.pos {w : World} {g : Nat} {l : List Int} (h : Tree w g l) : 0 < l.length := by
  induction h with
  | leaf => simp
  | node g la lb l s b hb ha hr hl hd i1 i2 => subst hl; simp; omega
theorem Tree.ne {w : World} {g : Nat} {l : List Int} (h : Tree w g l) : l ≠ [] := by
  intro e
  have := h.pos
  rw [e] at this
  cases this
theorem Tree.bds {w : World} {g : Nat} {l : List Int} (h : Tree w g l) : Bds l := by
  cases h with
  | leaf g x s b hb hx =>
    intro z hz
    obtain rfl : z = x := by simpa using hz
    exact hx
  | node g la lb l s b hb ha hr hl hd => exact hd
theorem sm_one (x : Int) : sm [x] = x := by simp [sm]
/-- Its root's block. -/
theorem Tree.head {w : World} {g : Nat} {l : List Int} (h : Tree w g l) : ∃ s b p q, Blk w g 121 (nodeC l.length (mn l) (sm l) s b p q) := by
  cases h with
  | leaf g x s b hb hx =>
    refine ⟨s, b, none, none, ?_⟩
    rw [sm_one]
    exact hb
  | node g la lb l s b hb ha hr hl hd => exact ⟨s, b, _, _, hb⟩
/-- All blocks are there. -/
theorem Tree.lt {w : World} {g : Nat} {l : List Int} (h : Tree w g l) : g + 2 * l.length ≤ w.heap.size + 1 := by
  induction h with
  | leaf g x s b hb hx => have := hb.lt; simp; omega
  | node g la lb l s b hb ha hr hl hd i1 i2 =>
    subst hl
    rw [List.length_map, List.length_append]
    omega
/-- Where its blocks stay, it stays. -/
theorem Tree.keep {w w' : World} {g : Nat} {l : List Int} (h : Tree w g l) (hk : ∀ k, g ≤ k → k + 1 < g + 2 * l.length → w'.heap[k]? = w.heap[k]?) : Tree w' g l := by
  induction h with
  | leaf g x s b hb hx => exact .leaf g x s b ((hk g (Nat.le_refl _) (by simp)).trans hb) hx
  | node g la lb l s b hb ha hr hl hd i1 i2 =>
    have p1 := ha.pos
    have p2 := hr.pos
    have hlen : l.length = la.length + lb.length := by rw [hl, List.length_map, List.length_append]
    exact .node g la lb l s b ((hk g (Nat.le_refl _) (by omega)).trans hb) (i1 fun k h1 h2 => hk k (by omega) (by omega)) (i2 fun k h1 h2 => hk k (by omega) (by omega)) hl hd
theorem Tree.keeps {w w' : World} {g : Nat} {l : List Int} (h : Tree w g l) {S : Nat → Prop} (hk : Keeps S w w') (hs : ∀ k, g ≤ k → k + 1 < g + 2 * l.length → ¬ S k) : Tree w' g l :=
  h.keep fun k h1 h2 => hk.block k (by have := h.lt; omega) (hs k h1 h2)

/-- The blocks of a tree of n numbers. -/
def InT (g n k : Nat) : Prop := g ≤ k ∧ k + 1 < g + 2 * n

/-- A node whose change has been handed on, with its trees. -/
structure Pushed (w : World) (g : Nat) (le su : Int) (la lb : List Int) : Prop where
  blk : Blk w g 121 (nodeC ((la.length + lb.length : Nat) : Int) le su false 0 (some ⟨g + 1, 0, none⟩) (some ⟨g + 2 * la.length, 0, none⟩))
  left : Tree w (g + 1) la
  right : Tree w (g + 2 * la.length) lb
theorem Pushed.tree {w : World} {g : Nat} {la lb : List Int} (h : Pushed w g (min (mn la) (mn lb)) (sm la + sm lb) la lb) : Tree w g (la ++ lb) := by
  refine .node g la lb (la ++ lb) false 0 ?_ h.left h.right (map_id _).symm (h.left.bds.join h.right.bds)
  rw [mn_append h.left.ne h.right.ne, sm_append, List.length_append]
  exact h.blk
end Go.Proofs.Ytefgfkicacbmeaa
