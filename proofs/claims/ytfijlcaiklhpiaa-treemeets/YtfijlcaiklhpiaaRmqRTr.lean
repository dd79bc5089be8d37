/-
  What the document's RmqTree and its part return: contracts, walked over the translated text. No condition but what each theorem names.
-/
import Derived.Test.YtfijlcaiklhpiaaRmqTab
import Derived.Test.YtfijlcaiklhpiaaStack
import Derived.Laws.EntriesVeiled
namespace Go.Proofs.Ytfijlcaiklhpiaa
open Go.RowKit Words

/-- The parents, part by part, as the document lays them. -/
def partL (f : Nat → Int) : Nat → List Int → Nat → Nat → Int → List Int
  | 0, P, _, _, _ => P
  | k + 1, P, a, b, p => if b ≤ a then P else partL f k (partL f k (P.set (topN f a (b - a - 1)) p) a (topN f a (b - a - 1)) (topN f a (b - a - 1) : Nat)) (topN f a (b - a - 1) + 1) b (topN f a (b - a - 1) : Nat)

theorem partL_length (f : Nat → Int) : ∀ (k : Nat) (P : List Int) (a b : Nat) (p : Int), (partL f k P a b p).length = P.length
  | 0, P, a, b, p => rfl
  | k + 1, P, a, b, p => by
    rw [partL]
    split
    · rfl
    · rw [partL_length, partL_length, List.length_set]
theorem partL_get (f : Nat → Int) : ∀ (k : Nat) (P : List Int) (a b : Nat) (p : Int) (j : Nat), b - a ≤ k → b ≤ P.length → (partL f k P a b p)[j]? = if a ≤ j ∧ j < b then some (par f k a b p j) else P[j]?
  | 0, P, a, b, p, j, h1, h2 => by rw [if_neg (by omega)]; rfl
  | k + 1, P, a, b, p, j, h1, h2 => by
    rw [partL]
    by_cases hba : b ≤ a
    · rw [if_pos hba, if_neg (by omega)]
    · rw [if_neg hba, par, if_neg hba]
      have ht := topN_is f a (b - a - 1)
      have t0 := ht.lo
      have t1 := ht.hi
      generalize topN f a (b - a - 1) = t at *
      rw [partL_get f k _ (t + 1) b t j (by omega) (by rw [partL_length, List.length_set]; exact h2), partL_get f k _ a t t j (by omega) (by rw [List.length_set]; omega)]
      by_cases c1 : t + 1 ≤ j ∧ j < b
      · rw [if_pos c1, if_pos (by omega), if_neg (by omega), if_neg (by omega)]
      · rw [if_neg c1]
        by_cases c2 : a ≤ j ∧ j < t
        · rw [if_pos c2, if_pos (by omega), if_neg (by omega), if_pos (by omega)]
        · rw [if_neg c2]
          by_cases c3 : j = t
          · subst c3
            rw [List.getElem?_set_self (by omega), if_pos (by omega), if_pos rfl]
          · rw [List.getElem?_set_ne (by omega), if_neg (by omega)]
theorem partL_all (f : Nat → Int) (n : Nat) : partL f n (List.replicate n 0) 0 n (-1) = pars f n := by
  apply List.ext_getElem?
  intro j
  rw [partL_get f n _ 0 n (-1) j (by omega) (by simp)]
  by_cases hj : j < n
  · rw [if_pos ⟨Nat.zero_le _, hj⟩, pars_get f n j hj]
    rfl
  · rw [if_neg (by omega), List.getElem?_eq_none (by simp; omega), List.getElem?_eq_none (by rw [pars_length]; omega)]

/-- Only block q has changed, and what was drawn. -/
structure Only (q : Nat) (w w' : World) : Prop where
  os : w'.os = w.os
  tape : w'.tape = w.tape
  output : w'.output = w.output
  size : w'.heap.size = w.heap.size
  block : ∀ k, k ≠ q → w'.heap[k]? = w.heap[k]?

theorem Only.refl (q : Nat) (w : World) : Only q w w := ⟨rfl, rfl, rfl, rfl, fun _ _ => rfl⟩
theorem Only.drewN {q : Nat} {w w' : World} (h : Only q w w') (d : Nat) : Only q w (w'.drewN d) := ⟨h.os, h.tape, h.output, h.size, h.block⟩
theorem Only.trans {q : Nat} {w w' w'' : World} (h : Only q w w') (k : Only q w' w'') : Only q w w'' :=
  ⟨k.os.trans h.os, k.tape.trans h.tape, k.output.trans h.output, k.size.trans h.size, fun j hj => (k.block j hj).trans (h.block j hj)⟩
theorem Only.setCell {q : Nat} {w w' : World} (h : Only q w w') (i : Nat) (u : Value) : Only q w (w'.setCell ⟨q, i, none⟩ u) :=
  ⟨h.os, h.tape, h.output, by rw [← h.size]; simp, fun k hk => (Below.heap_setCell w' ⟨q, i, none⟩ u k hk).trans (h.block k hk)⟩
theorem Blk.only {w w' : World} {g q : Nat} {t : TypeId} {xs : List Value} (h : Blk w g t xs) (hk : Only q w w') (hg : g ≠ q) : Blk w' g t xs := (hk.block g hg).trans h
theorem Only.below {q B : Nat} {w w' : World} (h : Only q w w') (hB : B ≤ q) : Below B w w' := ⟨h.os, h.tape, h.output, Nat.le_of_eq h.size.symm, fun k hk => h.block k (by omega)⟩

/-- The memory that the document's part works on: the list's box, the parents, their box, its own box. -/
structure PartAt (w : World) (h : Nat) (A : Option Addr) (l : List Int) (c : Nat) (P : List Int) : Prop where
  bl : Blk w h 22 [.slice A l.length c]
  bo : Blk w (h + 1) 3 (P.map (.int .i64))
  bx : Blk w (h + 2) 22 [.slice (some ⟨h + 1, 0, none⟩) l.length l.length]
  bp : Blk w (h + 3) 46 [.func (.func 28) #[] #[.pointer (some ⟨h, 0, none⟩), .pointer (some ⟨h + 2, 0, none⟩), .pointer (some ⟨h + 3, 0, none⟩)]]
  ll : Lies w h A (l.map (.int .i64))

theorem PartAt.drewN {w : World} {h : Nat} {A : Option Addr} {l : List Int} {c : Nat} {P : List Int} (k : PartAt w h A l c P) (d : Nat) : PartAt (w.drewN d) h A l c P := ⟨k.bl, k.bo, k.bx, k.bp, k.ll⟩
theorem PartAt.put {w : World} {h : Nat} {A : Option Addr} {l : List Int} {c : Nat} {P : List Int} (k : PartAt w h A l c P) (j : Nat) (x : Int) : PartAt (w.setCell ⟨h + 1, j, none⟩ (.int .i64 x)) h A l c (P.set j x) := by
  have ho : Only (h + 1) w (w.setCell ⟨h + 1, j, none⟩ (.int .i64 x)) := (Only.refl _ w).setCell j _
  refine ⟨k.bl.only ho (by omega), ?_, k.bx.only ho (by omega), k.bp.only ho (by omega), k.ll.below (ho.below (by omega))⟩
  rw [List.map_set]
  exact k.bo.put j _

set_option maxHeartbeats 2000000 in
/-- The document's part. -/
theorem part_any (h : Nat) (A : Option Addr) (l : List Int) (c : Nat) (hn : l.length ≤ 300) : ∀ (k a b : Nat) (p : Int) (P : List Int) (w : World), b - a ≤ k → a ≤ 300 → b ≤ l.length → P.length = l.length → PartAt w h A l c P →
    Calls Try.prog 28 #[.int .i64 a, .int .i64 ((b : Int) - 1), .int .i64 p, .pointer (some ⟨h, 0, none⟩), .pointer (some ⟨h + 2, 0, none⟩), .pointer (some ⟨h + 3, 0, none⟩)] w
      fun e w' => e = .returned (.tuple #[]) ∧ PartAt w' h A l c (partL (nth l) k P a b p) ∧ Only (h + 1) w w' := by
  intro k
  induction k with
  | zero =>
    intro a b p P w hk ha hb hP hat
    have HAT := Lib.hid hat
    clear hat
    have hlt : (b : Int) - 1 < (a : Int) := by omega
    generalize (b : Int) - 1 = z at *
    go_enter Try.func28, Try.ntmps28
    go_wp2_with fail
    exact bodyPost_ret (v := .tuple #[]) (by simp [results, Try.results28, go_sem]) rfl ⟨rfl, HAT.out, Only.refl _ _⟩
  | succ k ih =>
    intro a b p P w hk ha hb hP hat
    have HAT := Lib.hid hat
    by_cases hba : b ≤ a
    · have hpl : partL (nth l) (k + 1) P a b p = P := by rw [partL, if_pos hba]
      rw [hpl]
      have hlt : (b : Int) - 1 < (a : Int) := by omega
      generalize (b : Int) - 1 = z at *
      clear ih hat
      go_enter Try.func28, Try.ntmps28
      go_wp2_with fail
      exact bodyPost_ret (v := .tuple #[]) (by simp [results, Try.results28, go_sem]) rfl ⟨rfl, HAT.out, Only.refl _ _⟩
    · obtain ⟨m, rfl⟩ : ∃ m, b = a + m + 1 := ⟨b - a - 1, by omega⟩
      have hm : a + m + 1 - a - 1 = m := by omega
      have hT := topN_is (nth l) a m
      have t0 := hT.lo
      have t1 := hT.hi
      clear hT
      have HTop := Lib.hid (fun W hW => topOf_any A l c a m W hn (by omega) hW)
      rw [partL, if_neg hba, hm]
      have hz : ((a + m + 1 : Nat) : Int) - 1 = ((a + m : Nat) : Int) := by omega
      rw [hz]
      generalize topN (nth l) a m = t at *
      have HI1 := Lib.hid (fun W hat => ih a t (t : Nat) (P.set t p) W (by omega) ha (by omega) (by rw [List.length_set]; exact hP) hat)
      have HI2 := Lib.hid (fun W hat => ih (t + 1) (a + m + 1) (t : Nat) (partL (nth l) k (P.set t p) a t (t : Nat)) W (by omega) (by omega) hb (by rw [partL_length, List.length_set]; exact hP) hat)
      rw [hz] at HI2
      have haz : a ≤ a + m := by omega
      have htn : t < l.length := by omega
      have hzn : a + m ≤ 300 := by omega
      clear ih hk hm hba hz
      generalize a + m = z at *
      generalize partL (nth l) k (P.set t p) a t (t : Nat) = P1 at *
      generalize partL (nth l) k P1 (t + 1) (z + 1) (t : Nat) = P2 at *
      have hct : (P.map (Value.int .i64))[t]? = some (.int .i64 (nth P t)) := by
        have h0 := List.getElem?_eq_getElem (show t < P.length by omega)
        rw [List.getElem?_map, h0, nth_get P t _ h0]
        rfl
      generalize nth P t = x0 at *
      have HCT := Lib.hid hct
      clear hct
      have HLW := Lib.hid (hat.ll.wide (Nat.le_of_lt hat.bl.lt))
      have hcl : w.cell? ⟨h, 0, none⟩ = some (.slice A l.length c) := hat.bl.cell 0
      clear hat
      go_enter Try.func28, Try.ntmps28
      go_wp2_with fail
      refine (HTop.out _ HLW.out).mono ?_
      rintro e w1 ⟨rfl, d, rfl⟩
      have hat1 := HAT.out.drewN d
      have HAT2 := Lib.hid (hat1.put t p)
      have hcx : (w.drewN d).cell? ⟨h + 2, 0, none⟩ = some (.slice (some ⟨h + 1, 0, none⟩) l.length l.length) := hat1.bx.cell 0
      have hco : (w.drewN d).cell? ⟨h + 1, t, none⟩ = some (.int .i64 x0) := by rw [hat1.bo.cell]; exact HCT.out
      have hfz := hat1.bo.frozen t
      have hcp : ((w.drewN d).setCell ⟨h + 1, t, none⟩ (.int .i64 p)).cell? ⟨h + 3, 0, none⟩ = some (.func (.func 28) #[] #[.pointer (some ⟨h, 0, none⟩), .pointer (some ⟨h + 2, 0, none⟩), .pointer (some ⟨h + 3, 0, none⟩)]) := HAT2.out.bp.cell 0
      have HO2 := Lib.hid ((Only.refl (h + 1) w).drewN d |>.setCell t (.int .i64 p))
      clear hat1 hcl
      generalize w.drewN d = w1 at *
      go_wp2_with fail
      refine (HI1.out _ HAT2.out).mono ?_
      rintro e w3 ⟨rfl, hat3, ho3⟩
      have HAT3 := Lib.hid hat3
      have HO3 := Lib.hid ho3
      have hcp3 : w3.cell? ⟨h + 3, 0, none⟩ = some (.func (.func 28) #[] #[.pointer (some ⟨h, 0, none⟩), .pointer (some ⟨h + 2, 0, none⟩), .pointer (some ⟨h + 3, 0, none⟩)]) := hat3.bp.cell 0
      clear hat3 ho3 hcp hfz hco hcx
      go_wp2_with fail
      refine (HI2.out _ HAT3.out).mono ?_
      rintro e w4 ⟨rfl, hat4, ho4⟩
      have HAT4 := Lib.hid hat4
      have HO4 := Lib.hid ho4
      clear hat4 ho4
      go_wp2_with fail
      exact bodyPost_end (v := .tuple #[]) (by simp [results, Try.results28, go_sem]) rfl ⟨rfl, HAT4.out, (HO2.out.trans HO3.out).trans HO4.out⟩

/-- What a call that returns a list and no error leaves; what it leaves where the list is too long. -/
def GivesTree (w : World) (P : List Int) (e : Ending) (w' : World) : Prop := ∃ A c, e = .returned (.tuple #[.slice A P.length c, .int .i64 0]) ∧ Lies w' w'.heap.size A (P.map (.int .i64)) ∧ (A = none → c = 0) ∧ Below w.heap.size w w'
def NoTree (w : World) (e : Ending) (w' : World) : Prop := e = .returned (.tuple #[.slice none 0 0, .int .i64 1]) ∧ Below w.heap.size w w'

/-- The document's RmqTree of a list that is too long. -/
theorem rtree_size (A : Option Addr) (n c : Nat) (w : World) (hn : 300 < n) (hb : n ≤ 17592186044416) :
    Calls Try.prog 15 #[.slice A n c] w (NoTree w) := by
  go_enter Try.func15, Try.ntmps15
  go_wp2_with fail
  go_ret2
  exact ⟨rfl, bnew _ _⟩

set_option maxHeartbeats 1000000 in
/-- The document's RmqTree. -/
theorem rtree_any (A : Option Addr) (l : List Int) (c : Nat) (w : World) (hn : l.length ≤ 300) (hL : Lies w w.heap.size A (l.map (.int .i64))) :
    Calls Try.prog 15 #[.slice A l.length c] w (GivesTree w (pars (nth l) l.length)) := by
  have HL := Lib.hid hL
  have HP := Lib.hid (fun h W hat => part_any h A l c hn l.length 0 l.length (-1) (List.replicate l.length 0) W (by omega) (by omega) (Nat.le_refl _) (by simp) hat)
  have HPL := Lib.hid (partL_all (nth l) l.length)
  have HLen := Lib.hid (pars_length (nth l) l.length)
  have hmk := make_row (P := Try.prog) 22 3 (.int .i64 0) 8 Try.underlying22 rint_info rfl l.length (by omega) (by omega)
  rw [HPL.out] at HP
  unfold GivesTree
  rw [HLen.out]
  generalize pars (nth l) l.length = P at *
  clear hL HPL HLen
  go_enter Try.func15, Try.ntmps15
  go_wp2_with fail
  refine (HP.out w.heap.size _ ?_).mono ?_
  · refine ⟨?_, ?_, ?_, ?_, ?_⟩
    · exact (((Blk.new w 22 [.slice A l.length c]).alloc _).alloc _).alloc _
    · have h := ((zeros_blk (w.alloc (.cells #[.slice A l.length c] 22)) (.int .i64 0) l.length 3).alloc (.cells #[.slice (some ⟨w.heap.size + 1, 0, none⟩) l.length l.length] 22)).alloc (.cells #[.func (.func 28) #[] #[.pointer (some ⟨w.heap.size, 0, none⟩), .pointer (some ⟨w.heap.size + 1 + 1, 0, none⟩), .pointer (some ⟨w.heap.size + 1 + 1 + 1, 0, none⟩)]] 46)
      rw [List.map_replicate]
      simpa using h
    · have h := (Blk.new ((w.alloc (.cells #[.slice A l.length c] 22)).alloc (.cells (zeros (.int .i64 0) l.length) 3)) 22 [.slice (some ⟨w.heap.size + 1, 0, none⟩) l.length l.length]).alloc (.cells #[.func (.func 28) #[] #[.pointer (some ⟨w.heap.size, 0, none⟩), .pointer (some ⟨w.heap.size + 1 + 1, 0, none⟩), .pointer (some ⟨w.heap.size + 1 + 1 + 1, 0, none⟩)]] 46)
      simpa using h
    · have h := Blk.new (((w.alloc (.cells #[.slice A l.length c] 22)).alloc (.cells (zeros (.int .i64 0) l.length) 3)).alloc (.cells #[.slice (some ⟨w.heap.size + 1, 0, none⟩) l.length l.length] 22)) 46 [.func (.func 28) #[] #[.pointer (some ⟨w.heap.size, 0, none⟩), .pointer (some ⟨w.heap.size + 1 + 1, 0, none⟩), .pointer (some ⟨w.heap.size + 1 + 1 + 1, 0, none⟩)]]
      simpa using h
    · exact HL.out.below ((((bnew w _).alloc (by simp) _).alloc (by simp; omega) _).alloc (by simp; omega) _)
  rintro e w1 ⟨rfl, hat, ho⟩
  have hb : Below w.heap.size w w1 := ((((bnew w _).alloc (by simp) _).alloc (by simp; omega) _).alloc (by simp; omega) _).trans (ho.below (by omega))
  have HLi := Lib.hid hat.bo.lies
  have hcx : w1.cell? ⟨w.heap.size + 1 + 1, 0, none⟩ = some (.slice (some ⟨w.heap.size + 1, 0, none⟩) l.length l.length) := hat.bx.cell 0
  clear hat ho
  go_wp2_with fail
  go_ret2
  exact ⟨some ⟨w.heap.size + 1, 0, none⟩, l.length, rfl, HLi.out, (fun e => by cases e), hb⟩
end Go.Proofs.Ytfijlcaiklhpiaa
