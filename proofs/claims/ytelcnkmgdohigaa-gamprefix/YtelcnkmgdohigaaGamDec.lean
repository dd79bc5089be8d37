/-
  What gam.Decode and its reader return: contracts, walked over the translated text. A vector is '.agg #[.int .i64 m, .slice A ws.length c]', its words ws below 2^64 in memory. No condition but what each theorem names.
-/
import Derived.Test.YtelcnkmgdohigaaGamCst
import Derived.Test.YtelcnkmgdohigaaBitsAt
import Derived.Deep.RegionWith
namespace Go.Proofs.Ytelcnkmgdohigaa
open Go.RowKit Words

theorem num_info : (Try.prog.info? 3).map (fun i => (i.zero, i.size, i.bytes)) = some (some (.int .i64 0), 1, 8) := by kernel_rfl

theorem gb_below {w w' : World} {r : Option Nat} (h : Below w.heap.size w w') : w.grownBy w' r := ⟨h.os, h.tape, h.output, h.size, fun k hk _ => h.block k hk⟩
theorem gb_refl (w : World) (r : Option Nat) : w.grownBy w r := ⟨rfl, rfl, rfl, Nat.le_refl _, fun _ _ _ => rfl⟩
theorem gb_trans {a b c : World} {r : Option Nat} (h : a.grownBy b r) (k : b.grownBy c r) : a.grownBy c r :=
  ⟨k.os.trans h.os, k.tape.trans h.tape, k.output.trans h.output, Nat.le_trans h.size k.size, fun i hi hne => (k.block i (Nat.lt_of_lt_of_le hi h.size) hne).trans (h.block i hi hne)⟩
theorem gb_set (w : World) (p : Addr) (u : Value) : w.grownBy (w.setCell p u) (some p.block) :=
  ⟨rfl, rfl, rfl, by simp, fun k _ hne => Below.heap_setCell w p u k (fun e => hne (by rw [e]))⟩
theorem gb_words {w w' : World} {g : Nat} {A : Option Addr} {ws : List Nat} (h : Words64 w g A ws) (hg : w.grownBy w' (some g)) (hl : g ≤ w.heap.size) : Words64 w' g A ws :=
  ⟨h.1.keep fun p hp => World.cell?_of_block (hg.block p.block (by omega) (fun e => by have := Option.some.inj e; omega)), h.2⟩
theorem words_wide {w : World} {B B' : Nat} {A : Option Addr} {ws : List Nat} (h : Words64 w B A ws) (hB : B ≤ B') : Words64 w B' A ws := ⟨h.1.wide hB, h.2⟩

theorem Blk.grows {w w' : World} {g : Nat} {t : TypeId} {xs : List Value} {row : Option Nat} (h : Blk w g t xs) (hg : w.grownBy w' row) (hne : some g ≠ row) : Blk w' g t xs := (hg.block g h.lt hne).trans h

/-- A reader in memory: its vector, the number of the bit to be read. -/
def rbox (m : Nat) (A : Option Addr) (k c p : Nat) : List Value := [.int .i64 m, .slice A k c, .int .i64 p]

/-- The bits of a vector. -/
def rowBits (m : Nat) (ws : List Nat) : List Bool := (List.range m).map (bit ws)
theorem rowBits_length (m : Nat) (ws : List Nat) : (rowBits m ws).length = m := by simp [rowBits]
theorem rowBits_get (m : Nat) (ws : List Nat) (p : Nat) (h : p < m) : (rowBits m ws)[p]? = some (bit ws p) := by
  unfold rowBits
  rw [List.getElem?_map, List.getElem?_range h]; rfl
theorem rowBits_drop (m : Nat) (ws : List Nat) (p : Nat) (h : p < m) : (rowBits m ws).drop p = bit ws p :: (rowBits m ws).drop (p + 1) := by
  have hl := rowBits_length m ws
  rw [List.drop_eq_getElem_cons (by omega)]
  congr 1
  have := rowBits_get m ws p h
  rw [List.getElem?_eq_getElem (by omega)] at this
  exact Option.some.inj this

set_option maxHeartbeats 1000000 in
/-- reader.bit. -/
theorem rbit_in (g m p : Nat) (A : Option Addr) (ws : List Nat) (c : Nat) (w : World) (hV : Valid m ws) (hB : Blk w g 53 (rbox m A ws.length c p)) (hW : Words64 w g A ws) (hp : p < m) :
    Calls Try.prog 45 #[.pointer (some ⟨g, 0, none⟩)] w fun e w' => e = .returned (.tuple #[.bool (bit ws p), .int .i64 0]) ∧ Blk w' g 53 (rbox m A ws.length c (p + 1)) ∧ w.grownBy w' (some g) := by
  have hlt := hB.lt
  have HAt := Lib.hid (fun W (h : Words64 W W.heap.size A ws) => at_in m p A ws c W hV h hp)
  have HW := Lib.hid (words_wide hW (Nat.le_of_lt hlt))
  have hm := hV.hi
  have q0 : w.cell? ⟨g, 0, none⟩ = some (.int .i64 m) := hB.cell 0
  have q1 : w.cell? ⟨g, 1, none⟩ = some (.slice A ws.length c) := hB.cell 1
  have q2 : w.cell? ⟨g, 2, none⟩ = some (.int .i64 p) := hB.cell 2
  clear hV hW
  generalize ws.length = k at *
  generalize bit ws p = x at *
  go_enter Try.func45, Try.ntmps45
  go_wp2_with fail
  go_region_with (go_at_call 22; refine (HAt.out _ ?_).mono ?_; (first | exact HW.out | exact HW.out.drew); rintro e w1 ⟨rfl, hb1⟩)
  all_goals
    replace hb1 : Below w.heap.size w w1 := by first | exact hb1 | exact chain (Below.refl _ _).drew hb1
    have hB1 : Blk w1 g 53 (rbox m A k c p) := hB.below hb1 hlt
    have r2 : w1.cell? ⟨g, 2, none⟩ = some (.int .i64 p) := hB1.cell 2
    have f2 := hB1.frozen 2
    go_wp2
    go_ret2
    refine ⟨rfl, ?_, gb_trans (gb_below (by exact hb1)) (gb_set w1 ⟨g, 2, none⟩ _)⟩
    have := hB1.put 2 (.int .i64 (p + 1 : Nat))
    simpa [rbox] using this

set_option maxHeartbeats 1000000 in
/-- reader.bit at the end. -/
theorem rbit_end (g m : Nat) (A : Option Addr) (ws : List Nat) (c : Nat) (w : World) (hV : Valid m ws) (hB : Blk w g 53 (rbox m A ws.length c m)) (hW : Words64 w g A ws) :
    Calls Try.prog 45 #[.pointer (some ⟨g, 0, none⟩)] w fun e w' => e = .returned (.tuple #[.bool false, .int .i64 5]) ∧ Blk w' g 53 (rbox m A ws.length c m) ∧ w.grownBy w' (some g) := by
  have hlt := hB.lt
  have HAt := Lib.hid (fun W (h : Words64 W W.heap.size A ws) => at_out m m A ws c W hV h (.inr (Int.le_refl _)))
  have HW := Lib.hid (words_wide hW (Nat.le_of_lt hlt))
  have q0 : w.cell? ⟨g, 0, none⟩ = some (.int .i64 m) := hB.cell 0
  have q1 : w.cell? ⟨g, 1, none⟩ = some (.slice A ws.length c) := hB.cell 1
  have q2 : w.cell? ⟨g, 2, none⟩ = some (.int .i64 m) := hB.cell 2
  clear hV hW
  generalize ws.length = k at *
  go_enter Try.func45, Try.ntmps45
  go_wp2_with fail
  go_region_with (go_at_call 22; refine (HAt.out _ ?_).mono ?_; (first | exact HW.out | exact HW.out.drew); rintro e w1 ⟨rfl, hb1⟩)
  all_goals
    replace hb1 : Below w.heap.size w w1 := by first | exact hb1 | exact chain (Below.refl _ _).drew hb1
    go_wp2
    go_ret2
    exact ⟨rfl, hB.below hb1 hlt, gb_below (by exact hb1)⟩
end Go.Proofs.Ytelcnkmgdohigaa
