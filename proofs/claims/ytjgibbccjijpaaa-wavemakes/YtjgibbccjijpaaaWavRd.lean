/-
  What the document's reading of a matrix returns: contracts, walked over the translated text. No condition but what each theorem names.
-/
import Derived.Test.YtjgibbccjijpaaaWavRm
import Derived.Test.YtjgibbccjijpaaaWavOr
import Derived.Test.YtjgibbccjijpaaaAppAt
import Derived.Test.YtjgibbccjijpaaaOwnRow
import Derived.Test.YtjgibbccjijpaaaNatC
import Derived.Test.YtjgibbccjijpaaaRefMk
import Derived.Deep.Cut
namespace Go.Proofs.Ytjgibbccjijpaaa
open Go.RowKit Words

theorem wint_info : (Try.prog.info? 3).map (fun i => (i.zero, i.size, i.bytes)) = some (some (.int .i64 0), 1, 8) := by kernel_rfl

/-- Memory while a matrix is read. -/
structure RdAt (w : World) (B n k c nz no : Nat) (A A2 : Option Addr) (L : List Int) (ord zs os : List Nat) (bl : List Value) (V Z O : Value) (W : World) : Prop where
  box : Blk W w.heap.size 25 [.slice A k c]
  out : Blk W (w.heap.size + 1) 3 (L.map (.int .i64))
  row : W.ownsRow (w.heap.size + 2) 3 1 V n (natC ord)
  zer : W.ownsRow B 3 1 Z nz (natC zs)
  one : W.ownsRow B 3 1 O no (natC os)
  vB : ∀ q, V.ownBlock = some q → q < B
  apart : ∀ q, Z.ownBlock = some q → O.ownBlock ≠ some q
  bits : Lies W B A2 bl
  bn : New (w.heap.size + 2) A2
  wB : w.heap.size + 2 ≤ B
  BW : B ≤ W.heap.size
  bel : Below w.heap.size w W

theorem cell_of_block {W W' : World} {p : Addr} (h : W'.heap[p.block]? = W.heap[p.block]?) : W'.cell? p = W.cell? p := by unfold World.cell?; rw [h]

theorem RdAt.zapp {w : World} {B n k c nz no : Nat} {A A2 : Option Addr} {L : List Int} {ord zs os : List Nat} {bl : List Value} {V Z O : Value} {W : World} (h : RdAt w B n k c nz no A A2 L ord zs os bl V Z O W) {o : Obj} {x : Nat} {Z' : Value} {W' : World}
    (hown : W'.ownsRow B 3 1 Z' (nz + 1) (natC zs ++ [.int .i64 (x : Int)])) (hg : (W.alloc o).grownBy W' Z.ownBlock) (hat : Z'.ownBlock = Z.ownBlock ∨ Z'.ownBlock = some (W.alloc o).heap.size) :
    RdAt w B n k c (nz + 1) no A A2 L ord (zs ++ [x]) os bl V Z' O W' := by
  have hk : ∀ q, q < W.heap.size → some q ≠ Z.ownBlock → W'.heap[q]? = W.heap[q]? := fun q hq hne => (hg.block q (by simp; omega) hne).trans (Below.heap_alloc W o q hq)
  have hz : ∀ q, q < B → some q ≠ Z.ownBlock := fun q hq e => by have := (h.zer.lt q e.symm).1; omega
  have hBW := h.BW
  have hwB := h.wB
  have hsz : W.heap.size ≤ W'.heap.size := by have := hg.size; simp at this; omega
  refine ⟨(hk _ (by omega) (hz _ (by omega))).trans h.box, (hk _ (by omega) (hz _ (by omega))).trans h.out, ?_, by rw [natC_append]; exact hown, ?_, h.vB, ?_, ?_, h.bn, hwB, by omega, ?_⟩
  · exact own_keep h.row fun q hq => hk q (own_lt h.row hq) (hz q (h.vB q hq))
  · exact own_keep h.one fun q hq => hk q (own_lt h.one hq) fun e => h.apart q e.symm hq
  · intro q hq e
    rcases hat with e2 | e2
    · exact h.apart q (by rw [← e2]; exact hq) e
    · rw [e2] at hq
      obtain rfl := Option.some.inj hq
      have := own_lt h.one e
      simp at this
      omega
  · exact h.bits.keep fun p hp => cell_of_block (hk p.block (by omega) (hz _ hp))
  · exact (h.bel.alloc h.bel.size o).grown hg (by simp; omega) (fun q hq => by have := (h.zer.lt q hq).1; omega)

theorem RdAt.oapp {w : World} {B n k c nz no : Nat} {A A2 : Option Addr} {L : List Int} {ord zs os : List Nat} {bl : List Value} {V Z O : Value} {W : World} (h : RdAt w B n k c nz no A A2 L ord zs os bl V Z O W) {o : Obj} {x : Nat} {O' : Value} {W' : World}
    (hown : W'.ownsRow B 3 1 O' (no + 1) (natC os ++ [.int .i64 (x : Int)])) (hg : (W.alloc o).grownBy W' O.ownBlock) (hat : O'.ownBlock = O.ownBlock ∨ O'.ownBlock = some (W.alloc o).heap.size) :
    RdAt w B n k c nz (no + 1) A A2 L ord zs (os ++ [x]) bl V Z O' W' := by
  have hk : ∀ q, q < W.heap.size → some q ≠ O.ownBlock → W'.heap[q]? = W.heap[q]? := fun q hq hne => (hg.block q (by simp; omega) hne).trans (Below.heap_alloc W o q hq)
  have hz : ∀ q, q < B → some q ≠ O.ownBlock := fun q hq e => by have := (h.one.lt q e.symm).1; omega
  have hBW := h.BW
  have hwB := h.wB
  have hsz : W.heap.size ≤ W'.heap.size := by have := hg.size; simp at this; omega
  refine ⟨(hk _ (by omega) (hz _ (by omega))).trans h.box, (hk _ (by omega) (hz _ (by omega))).trans h.out, ?_, ?_, by rw [natC_append]; exact hown, h.vB, ?_, ?_, h.bn, hwB, by omega, ?_⟩
  · exact own_keep h.row fun q hq => hk q (own_lt h.row hq) (hz q (h.vB q hq))
  · exact own_keep h.zer fun q hq => hk q (own_lt h.zer hq) fun e => h.apart q hq e.symm
  · intro q hq e
    rcases hat with e2 | e2
    · exact h.apart q hq (by rw [← e2]; exact e)
    · rw [e2] at e
      obtain rfl := Option.some.inj e
      have := own_lt h.zer hq
      simp at this
      omega
  · exact h.bits.keep fun p hp => cell_of_block (hk p.block (by omega) (hz _ hp))
  · exact (h.bel.alloc h.bel.size o).grown hg (by simp; omega) (fun q hq => by have := (h.one.lt q hq).1; omega)

theorem RdAt.put {w : World} {B n k c nz no : Nat} {A A2 : Option Addr} {L : List Int} {ord zs os : List Nat} {bl : List Value} {V Z O : Value} {W : World} (h : RdAt w B n k c nz no A A2 L ord zs os bl V Z O W) (o : Nat) (y : Int) :
    RdAt w B n k c nz no A A2 (L.set o y) ord zs os bl V Z O (W.setCell ⟨w.heap.size + 1, o, none⟩ (.int .i64 y)) := by
  have hk : ∀ q, q ≠ w.heap.size + 1 → (W.setCell ⟨w.heap.size + 1, o, none⟩ (.int .i64 y)).heap[q]? = W.heap[q]? := fun q hq => Below.heap_setCell W _ _ q hq
  have hwB := h.wB
  refine ⟨(hk _ (by omega)).trans h.box, ?_, ?_, ?_, ?_, h.vB, h.apart, ?_, h.bn, hwB, by simp; exact h.BW, h.bel.setCell (by simp) _⟩
  · have := h.out.put o (.int .i64 y)
    rwa [← List.map_set] at this
  · exact own_keep h.row fun q hq => hk q (by have := (h.row.lt q hq).1; omega)
  · exact own_keep h.zer fun q hq => hk q (by have := (h.zer.lt q hq).1; omega)
  · exact own_keep h.one fun q hq => hk q (by have := (h.one.lt q hq).1; omega)
  · exact h.bits.setCell h.bn (by simp) _
end Go.Proofs.Ytjgibbccjijpaaa
