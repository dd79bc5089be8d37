/-
  Words for memory, of no program: a slice that holds a list of one-cell values (nil let in), what becomes of it where new memory is made. No condition but what each theorem names.
-/
import Derived.Below
import Derived.Laws.OwnMore
import Derived.Deep.Draws
import Derived.Lib.Hide
import Derived.Calls
import Derived.OwnWalk
import Derived.Laws.MakeOwn
import Derived.Laws.AppendOwnNone
import Derived.Deep.QuietTactic
namespace Go.Proofs.Ythmfcdefdbeefaa
open Go.RowKit

theorem cell_lt {w : World} {a : Addr} {v : Value} (h : w.cell? a = some v) : a.block < w.heap.size := by
  rcases Nat.lt_or_ge a.block w.heap.size with h1 | h1
  · exact h1
  · unfold World.cell? at h
    rw [Array.getElem?_eq_none h1] at h
    simp at h

/-- The slice with the address A holds the values xs, one a cell, in a block below B. -/
def Lies (w : World) (B : Nat) (A : Option Addr) (xs : List Value) : Prop :=
  xs ≠ [] → ∃ b o, A = some ⟨b, o, none⟩ ∧ b < B ∧ ∀ j v, xs[j]? = some v → w.cell? ⟨b, o + j, none⟩ = some v

theorem Lies.nil {w : World} {B : Nat} {A : Option Addr} : Lies w B A [] := fun h => absurd rfl h

theorem Lies.keep {w w' : World} {B : Nat} {A : Option Addr} {xs : List Value} (h : Lies w B A xs) (hk : ∀ p : Addr, p.block < B → w'.cell? p = w.cell? p) : Lies w' B A xs := fun hne => by
  obtain ⟨b, o, e, hb, hc⟩ := h hne
  exact ⟨b, o, e, hb, fun j v hv => (hk _ hb).trans (hc j v hv)⟩

theorem Lies.wide {w : World} {B B' : Nat} {A : Option Addr} {xs : List Value} (h : Lies w B A xs) (hB : B ≤ B') : Lies w B' A xs := fun hne => by
  obtain ⟨b, o, e, hb, hc⟩ := h hne
  exact ⟨b, o, e, Nat.lt_of_lt_of_le hb hB, hc⟩

theorem Lies.below {w w' : World} {B : Nat} {A : Option Addr} {xs : List Value} (h : Lies w B A xs) (hb : Below B w w') : Lies w' B A xs := h.keep fun _ hp => hb.cell hp

/-- A slice that lay in the world when a call began lies there behind it. -/
theorem Lies.on {w w' : World} {A : Option Addr} {xs : List Value} (h : Lies w w.heap.size A xs) (hb : Below w.heap.size w w') : Lies w' w'.heap.size A xs := (h.below hb).wide hb.size

theorem Lies.drewN {w : World} {B : Nat} {A : Option Addr} {xs : List Value} (h : Lies w B A xs) (n : Nat) : Lies (w.drewN n) B A xs := h

theorem Lies.alloc {w : World} {A : Option Addr} {xs : List Value} (h : Lies w w.heap.size A xs) (o : Obj) : Lies (w.alloc o) (w.alloc o).heap.size A xs :=
  (h.keep fun p hp => World.cell?_alloc_lt w o p hp).wide (by simp)

/-- An element, by its number. -/
theorem Lies.at_ {α : Type} {f : α → Value} {w : World} {B : Nat} {A : Option Addr} {l : List α} (h : Lies w B A (l.map f)) {k : Nat} (hk : k < l.length) :
    ∃ b o x, A = some ⟨b, o, none⟩ ∧ b < B ∧ l[k]? = some x ∧ w.cell? ⟨b, o + k, none⟩ = some (f x) := by
  obtain ⟨b, o, e, hb, hc⟩ := h (by intro e; rw [List.map_eq_nil_iff] at e; subst e; simp at hk)
  have hx : l[k]? = some l[k] := List.getElem?_eq_getElem hk
  exact ⟨b, o, l[k], e, hb, hx, hc k _ (by rw [List.getElem?_map, hx]; rfl)⟩

/-- A part from the front. -/
theorem Lies.take {w : World} {B : Nat} {A : Option Addr} {xs : List Value} (h : Lies w B A xs) (n : Nat) : Lies w B A (xs.take n) := fun hne => by
  obtain ⟨b, o, e, hb, hc⟩ := h (by intro e; subst e; simp at hne)
  refine ⟨b, o, e, hb, fun j v hv => hc j v ?_⟩
  rw [List.getElem?_take] at hv
  split at hv
  · exact hv
  · cases hv

theorem bdN {B : Nat} {a w : World} (h : Below B a w) (n : Nat) : Below B a (w.drewN n) := ⟨h.os, h.tape, h.output, h.size, h.block⟩

/-- A call that leaves the world alone, in a region that draws: the first of a walk, and a later one. -/
theorem quiet1 {P : Program} {f : FuncId} {args : Array Value} {w : World} {n : Nat} {v : Value} (h : Hid (∀ W : World, Calls P f args W fun e w' => e = .returned v ∧ W = w')) :
    Calls P f args (w.drewN n) fun e w'' => e = .returned v ∧ ∃ m, w'' = w.drewN m := (h.out _).mono fun _ _ ⟨he, hm⟩ => ⟨he, n, hm.symm⟩
theorem quiet2 {P : Program} {f : FuncId} {args : Array Value} {w : World} {a n : Nat} {v : Value} (h : Hid (∀ W : World, Calls P f args W fun e w' => e = .returned v ∧ W = w')) :
    Calls P f args (w.drewN (a + n)) fun e w'' => e = .returned v ∧ ∃ m, w'' = w.drewN (a + m) := (h.out _).mono fun _ _ ⟨he, hm⟩ => ⟨he, n, hm.symm⟩

/-- A call that only draws, in a region that draws: the first of a walk, and a later one. -/
theorem quietD1 {P : Program} {f : FuncId} {args : Array Value} {w : World} {n : Nat} {v : Value} (h : Hid (∀ d, Calls P f args (w.drewN d) fun e w' => e = .returned v ∧ ∃ m, w' = (w.drewN d).drewN m)) :
    Calls P f args (w.drewN n) fun e w'' => e = .returned v ∧ ∃ m, w'' = w.drewN m := (h.out n).mono fun _ _ ⟨he, m, hm⟩ => ⟨he, n + m, by rw [hm, World.drewN_drewN]⟩
theorem quietD2 {P : Program} {f : FuncId} {args : Array Value} {w : World} {a n : Nat} {v : Value} (h : Hid (∀ d, Calls P f args (w.drewN d) fun e w' => e = .returned v ∧ ∃ m, w' = (w.drewN d).drewN m)) :
    Calls P f args (w.drewN (a + n)) fun e w'' => e = .returned v ∧ ∃ m, w'' = w.drewN (a + m) := (h.out (a + n)).mono fun _ _ ⟨he, m, hm⟩ => ⟨he, n + m, by rw [hm, World.drewN_drewN, Nat.add_assoc]⟩

/-- Behind a call that made memory alone, all that was there reads as it did. -/
theorem bcell {B : Nat} {W w1 : World} (hb : Below B W w1) : ∀ b o, b < B → w1.cell? ⟨b, o, none⟩ = W.cell? ⟨b, o, none⟩ := fun b o h => hb.cell (p := ⟨b, o, none⟩) h

/-- 'append(out, u)', one cell an element, out nil or the call's own. -/
theorem append_one {P : Program} (w : World) {ops : Array Oper} {rest : List Oper} {o : Oper} {a : Act} {Q : Exit → Act → World → Prop} (hgd : o.guard = none) (s x : Operand) (t : TypeId)
    (ho : o.op = .call { callee := .builtin .append, args := #[s, x], argTypes := #[t, t] }) (base : Nat) (e : TypeId) (z : Value) (bytes : Nat) (ht : P.underlying t = some (.slice e))
    (hinfo : (P.info? e).map (fun i => (i.zero, i.size, i.bytes)) = some (some z, 1, bytes)) (hz : z.cells.size = 1) (v : Value) (n : Nat) (xs : List Value) (hs : a.eval s = v) (hown : w.ownsRow base e 1 v n xs)
    (g c : Nat) (u : Value) (hx : a.eval x = .slice (some ⟨g, 0, none⟩) 1 c) (hu : w.cell? ⟨g, 0, none⟩ = some u) (h1 : u.oneCell' = true) (h63 : n + 1 ≤ maxLen) (hbytes : (n + 1) * bytes ≤ 140737488355328) (hbase : base ≤ w.heap.size)
    (h : ∀ v' w', w'.ownsRow base e 1 v' (n + 1) (xs ++ [u]) → w.grownBy w' v.ownBlock → wpList P ops Q rest (a.put o.dst v') w') : wpList P ops Q (o :: rest) a w := by
  obtain ⟨i, hi, hz0, hz1, hz2⟩ := info_parts hinfo
  refine wpList_append_own w hgd s x t ho base e i z 1 bytes ht hi hz0 hz1 hz2 hz (by decide) v n xs hs hown ⟨g, 0, none⟩ 1 c [u] hx rfl ?_ ?_ h63 hbytes hbase fun v' w' h2 h3 _ => h v' w' h2 h3
  · intro j u' hj
    match j, hj with
    | 0, hj =>
      obtain rfl : u = u' := by simpa using hj
      exact hu
  · intro u' hu'
    obtain rfl : u' = u := by simpa using hu'
    exact h1

/-- 'append(out, xs...)', one cell an element, out nil or the call's own, xs nil or in memory. -/
theorem append_from {P : Program} (w : World) {ops : Array Oper} {rest : List Oper} {o : Oper} {a : Act} {Q : Exit → Act → World → Prop} (hgd : o.guard = none) (s x : Operand) (t : TypeId)
    (ho : o.op = .call { callee := .builtin .append, args := #[s, x], argTypes := #[t, t] }) (base : Nat) (e : TypeId) (z : Value) (bytes : Nat) (ht : P.underlying t = some (.slice e))
    (hinfo : (P.info? e).map (fun i => (i.zero, i.size, i.bytes)) = some (some z, 1, bytes)) (hz : z.cells.size = 1) (v : Value) (n : Nat) (xs : List Value) (hs : a.eval s = v) (hown : w.ownsRow base e 1 v n xs)
    (A : Option Addr) (m c : Nat) (news : List Value) (hx : a.eval x = .slice A m c) (hm : news.length = m) (hnone : A = none → c = 0) (hl : Lies w w.heap.size A news) (h1 : ∀ u ∈ news, u.oneCell' = true) (h63 : n + m ≤ maxLen) (hbytes : (n + m) * bytes ≤ 140737488355328) (hbase : base ≤ w.heap.size)
    (h : ∀ v' w', w'.ownsRow base e 1 v' (n + m) (xs ++ news) → w.grownBy w' v.ownBlock → wpList P ops Q rest (a.put o.dst v') w') : wpList P ops Q (o :: rest) a w := by
  obtain ⟨i, hi, hz0, hz1, hz2⟩ := info_parts hinfo
  cases A with
  | none =>
    have hc := hnone rfl
    have hn : news = [] := by
      by_cases hne : news = []
      · exact hne
      · obtain ⟨b, o', e', _⟩ := hl hne
        cases e'
    subst hn
    have hm0 : m = 0 := hm.symm
    subst hm0 hc
    exact wpList_append_own_none hgd s x t ho base e i 1 ht hi v n xs hs hown hx (h v w (by simpa using hown) ⟨rfl, rfl, rfl, Nat.le_refl _, fun _ _ _ => rfl⟩)
  | some ad =>
    refine wpList_append_own w hgd s x t ho base e i z 1 bytes ht hi hz0 hz1 hz2 hz (by decide) v n xs hs hown ad m c news hx (by omega) ?_ h1 h63 hbytes hbase fun v' w' h2 h3 _ => h v' w' h2 h3
    intro j u hj
    obtain ⟨b, o', e', _, hc⟩ := hl (by intro e'; subst e'; simp at hj)
    obtain rfl := Option.some.inj e'
    rw [Addr.add_lit]
    exact hc j u hj

theorem bools_one (l : List Bool) : ∀ u ∈ l.map Value.bool, u.oneCell' = true := by
  intro u hu
  obtain ⟨_, _, rfl⟩ := List.mem_map.1 hu
  rfl

/-- The address, if there is one, leads to a block from B on. -/
def New (B : Nat) (A : Option Addr) : Prop := ∀ ad, A = some ad → B ≤ ad.block

theorem New.mono {B B' : Nat} {A : Option Addr} (h : New B A) (hB : B' ≤ B) : New B' A := fun ad e => Nat.le_trans hB (h ad e)

/-- A store into another block. -/
theorem Lies.setCell {w : World} {B : Nat} {A : Option Addr} {xs : List Value} (h : Lies w B A xs) {p : Addr} {B' : Nat} (hn : New B' A) (hp : p.block < B') (u : Value) : Lies (w.setCell p u) B A xs := fun hne => by
  obtain ⟨b, o, e, hb, hc⟩ := h hne
  have hb' := hn _ e
  refine ⟨b, o, e, hb, fun j v hv => ?_⟩
  rw [World.cell?_setCell_other w p ⟨b, o + j, none⟩ u (fun e' => by subst e'; simp at hp hb'; omega)]
  exact hc j v hv

/-- What the call owns, as a slice that lies in memory. -/
theorem own_slice {w : World} {base : Nat} {e : TypeId} {v : Value} {n : Nat} {xs : List Value} (h : w.ownsRow base e 1 v n xs) : ∃ A c, v = .slice A n c ∧ n ≤ c ∧ xs.length = n ∧ Lies w w.heap.size A xs ∧ (A = none → c = 0) ∧ New base A := by
  have hlen : xs.length = n := by have := h.1; omega
  rcases h.2 with ⟨rfl, rfl⟩ | ⟨g, cap, cur, rfl, hg, hh, hn, _, hs, hx⟩
  · exact ⟨none, 0, rfl, Nat.le_refl _, hlen, by rw [List.eq_nil_of_length_eq_zero hlen]; exact Lies.nil, fun _ => rfl, (fun _ e => by cases e)⟩
  · refine ⟨_, cap, rfl, hn, hlen, fun _ => ⟨g, 0, rfl, ?_, fun j v hv => ?_⟩, (fun e => by cases e), fun ad e => by obtain rfl := Option.some.inj e; exact hg⟩
    · rcases Nat.lt_or_ge g w.heap.size with h1 | h1
      · exact h1
      · rw [Array.getElem?_eq_none h1] at hh; cases hh
    · have := h.cells (g := g) rfl j v hv
      rwa [Addr.add_lit, Nat.zero_add, ← Nat.zero_add j] at this

/-- What a call that returns a new slice of one-cell values leaves. -/
def GivesSlice (w : World) (xs : List Value) (e : Ending) (w' : World) : Prop := ∃ A c, e = .returned (.slice A xs.length c) ∧ xs.length ≤ c ∧ Lies w' w'.heap.size A xs ∧ (A = none → c = 0) ∧ New w.heap.size A ∧ Below w.heap.size w w'

/-- New memory, one step behind the other. -/
theorem bnew (w : World) (o : Obj) : Below w.heap.size w (w.alloc o) := (Below.refl _ _).alloc (Nat.le_refl _) _
theorem chain {w a b : World} (h : Below w.heap.size w a) (k : Below a.heap.size a b) : Below w.heap.size w b := h.trans (k.mono h.size)

/-- A block known whole. -/
def Blk (w : World) (g : Nat) (t : TypeId) (xs : List Value) : Prop := w.heap[g]? = some (.cells xs.toArray t (0, 0))

theorem Blk.lt {w : World} {g : Nat} {t : TypeId} {xs : List Value} (h : Blk w g t xs) : g < w.heap.size := by
  rcases Nat.lt_or_ge g w.heap.size with h1 | h1
  · exact h1
  · unfold Blk at h; rw [Array.getElem?_eq_none h1] at h; cases h
theorem Blk.cell {w : World} {g : Nat} {t : TypeId} {xs : List Value} (h : Blk w g t xs) (i : Nat) : w.cell? ⟨g, i, none⟩ = xs[i]? := by
  unfold Blk at h
  simp [World.cell?, h]
theorem Blk.frozen {w : World} {g : Nat} {t : TypeId} {xs : List Value} (h : Blk w g t xs) (i : Nat) : w.frozen? ⟨g, i, none⟩ = false := by
  unfold Blk at h
  simp [World.frozen?, h]
theorem Blk.new (w : World) (t : TypeId) (xs : List Value) : Blk (w.alloc (.cells xs.toArray t)) w.heap.size t xs := by
  show (w.heap.push _)[w.heap.size]? = _
  simp
theorem Blk.drew {w : World} {g : Nat} {t : TypeId} {xs : List Value} (h : Blk w g t xs) : Blk w.drew g t xs := h
theorem Blk.drewN {w : World} {g : Nat} {t : TypeId} {xs : List Value} (h : Blk w g t xs) (n : Nat) : Blk (w.drewN n) g t xs := h
theorem Blk.alloc {w : World} {g : Nat} {t : TypeId} {xs : List Value} (h : Blk w g t xs) (o : Obj) : Blk (w.alloc o) g t xs := (Below.heap_alloc w o g h.lt).trans h
theorem Blk.put {w : World} {g : Nat} {t : TypeId} {xs : List Value} (h : Blk w g t xs) (i : Nat) (u : Value) : Blk (w.setCell ⟨g, i, none⟩ u) g t (xs.set i u) := by
  unfold Blk at h ⊢
  simp [World.setCell, Array.getElem?_modify, h]
theorem Blk.far {w : World} {g : Nat} {t : TypeId} {xs : List Value} (h : Blk w g t xs) {p : Addr} (hp : g ≠ p.block) (u : Value) : Blk (w.setCell p u) g t xs := (Below.heap_setCell w p u g hp).trans h
theorem Blk.below {w w' : World} {B g : Nat} {t : TypeId} {xs : List Value} (h : Blk w g t xs) (hb : Below B w w') (hg : g < B) : Blk w' g t xs := (hb.block g hg).trans h
/-- A slice over the whole of a block. -/
theorem Blk.lies {w : World} {g : Nat} {t : TypeId} {xs : List Value} (h : Blk w g t xs) : Lies w w.heap.size (some ⟨g, 0, none⟩) xs :=
  fun _ => ⟨g, 0, rfl, h.lt, fun j v hv => by rw [Nat.zero_add, h.cell]; exact hv⟩

/-- The cells that 'make' lays, under one name. -/
def zeros (z : Value) (n : Nat) : Array Value := (List.replicate n z).toArray

theorem madeCells_one (z : Value) (hz : z.cells = #[z]) (n : Nat) : madeCells z.cells n = zeros z n := by
  unfold zeros madeCells
  rw [hz]
  apply Array.ext
  · simp
  · intro i h1 h2
    simp [Nat.mod_one]

/-- 'make([]T, n)', one cell an element. -/
theorem make_row {P : Program} (t e : TypeId) (z : Value) (bytes : Nat) (ht : P.underlying t = some (.slice e)) (hinfo : (P.info? e).map (fun i => (i.zero, i.size, i.bytes)) = some (some z, 1, bytes)) (hz : z.cells = #[z])
    (n : Nat) (hb : bytes * n ≤ 281474976710656) (h63 : n ≤ 9223372036854775807) (w : World) :
    (Instr.makeSlice t (.int .i64 (n : Int)) (.int .i64 (n : Int))).run P w = .ok (.slice (some ⟨w.heap.size, 0, none⟩) n n) (w.alloc (.cells (zeros z n) e)) := by
  obtain ⟨i, hi, hz0, hz1, hz2⟩ := info_parts hinfo
  have hb' : (i.bytes : Int) * (n : Int) ≤ 281474976710656 := by
    have h : ((bytes * n : Nat) : Int) ≤ 281474976710656 := by omega
    rw [Int.natCast_mul] at h
    rw [hz2]; exact h
  have hr := run_make (P := P) w t e i z ht hi hz0 .i64 .i64 n n (by omega) (Int.le_refl _) hb' (by omega)
  rw [hr, hz1, Int.toNat_natCast, Nat.mul_one, madeCells_one z hz]

theorem zeros_blk (w : World) (z : Value) (n : Nat) (e : TypeId) : Blk (w.alloc (.cells (zeros z n) e)) w.heap.size e (List.replicate n z) := Blk.new w e (List.replicate n z)

theorem bfrozen {B : Nat} {W w1 : World} (hb : Below B W w1) : ∀ b o, b < B → w1.frozen? ⟨b, o, none⟩ = W.frozen? ⟨b, o, none⟩ := fun b o h => hb.frozen (p := ⟨b, o, none⟩) h

/-- A slice of words: numbers below 2^64. -/
def Words64 (w : World) (B : Nat) (A : Option Addr) (ws : List Nat) : Prop := Lies w B A (ws.map fun x : Nat => .int .u64 (x : Int)) ∧ ∀ x ∈ ws, x < 18446744073709551616

theorem Words64.at_ {w : World} {B : Nat} {A : Option Addr} {ws : List Nat} (h : Words64 w B A ws) {k : Nat} (hk : k < ws.length) :
    ∃ b o x, A = some ⟨b, o, none⟩ ∧ b < B ∧ ws[k]? = some x ∧ x < 18446744073709551616 ∧ w.cell? ⟨b, o + k, none⟩ = some (.int .u64 (x : Int)) := by
  obtain ⟨b, o, x, e, hb, hx, hc⟩ := h.1.at_ hk
  exact ⟨b, o, x, e, hb, hx, h.2 x (List.mem_of_getElem? hx), hc⟩
theorem Words64.on {w w' : World} {A : Option Addr} {ws : List Nat} (h : Words64 w w.heap.size A ws) (hb : Below w.heap.size w w') : Words64 w' w'.heap.size A ws := ⟨h.1.on hb, h.2⟩
theorem Words64.alloc {w : World} {A : Option Addr} {ws : List Nat} (h : Words64 w w.heap.size A ws) (o : Obj) : Words64 (w.alloc o) (w.alloc o).heap.size A ws := ⟨h.1.alloc o, h.2⟩
theorem Words64.drewN {w : World} {B : Nat} {A : Option Addr} {ws : List Nat} (h : Words64 w B A ws) (n : Nat) : Words64 (w.drewN n) B A ws := h
theorem Words64.below {w w' : World} {B : Nat} {A : Option Addr} {ws : List Nat} (h : Words64 w B A ws) (hb : Below B w w') : Words64 w' B A ws := ⟨h.1.below hb, h.2⟩
theorem Lies.drew {w : World} {B : Nat} {A : Option Addr} {xs : List Value} (h : Lies w B A xs) : Lies w.drew B A xs := h
theorem Words64.drew {w : World} {B : Nat} {A : Option Addr} {ws : List Nat} (h : Words64 w B A ws) : Words64 w.drew B A ws := h
theorem Words64.setCell {w : World} {B : Nat} {A : Option Addr} {ws : List Nat} (h : Words64 w B A ws) {p : Addr} {B' : Nat} (hn : New B' A) (hp : p.block < B') (u : Value) : Words64 (w.setCell p u) B A ws := ⟨h.1.setCell hn hp u, h.2⟩
end Go.Proofs.Ythmfcdefdbeefaa
