/-
  What the closure of rmq.Tree, sort.Search with it, and rmq.Tree return: contracts, walked over the translated text. No condition but what each theorem names.
-/
import Derived.Test.YtfijlcaiklhpiaaRmqRTr
namespace Go.Proofs.Ytfijlcaiklhpiaa
open Go.RowKit Words

set_option maxHeartbeats 400000 in
/-- Is the number on the path below the new one? -/
theorem cl3_any (A : Option Addr) (l : List Int) (c : Nat) (A2 : Option Addr) (S : List Nat) (c2 k g1 g2 g3 : Nat) (x : Int) (w : World) (hn : l.length ≤ 300) (hS : S.length ≤ 300) (hk : k < S.length) (hs : S.getD k 0 < l.length)
    (h1 : w.cell? ⟨g1, 0, none⟩ = some (.slice A l.length c)) (h2 : w.cell? ⟨g2, 0, none⟩ = some (.slice A2 S.length c2)) (h3 : w.cell? ⟨g3, 0, none⟩ = some (.int .i64 x)) (hL : Lies w w.heap.size A (l.map (.int .i64))) (hP : Lies w w.heap.size A2 ((asInts S).map (.int .i64))) :
    Calls Try.prog 27 #[.int .i64 k, .pointer (some ⟨g1, 0, none⟩), .pointer (some ⟨g2, 0, none⟩), .pointer (some ⟨g3, 0, none⟩)] w fun e w' => e = .returned (.bool (decide (nth l (S.getD k 0) < x))) ∧ ∃ d, w' = w.drewN d := by
  obtain ⟨b, o, rfl, hb, hc⟩ := hL.nums (by omega)
  obtain ⟨b2, o2, rfl, hb2, hc2⟩ := nats_at hP (by omega)
  have hck := hc2 k hk
  have hcs := hc _ hs
  clear hc hc2 hL hP
  generalize S.getD k 0 = s at *
  generalize nth l s = y at *
  generalize S.length = m at *
  generalize l.length = n at *
  have hi1 : (k : Int) < (m : Int) := by omega
  have hi2 : (s : Int) < (n : Int) := by omega
  by_cases h : y < x
  · have hd : decide (y < x) = true := by simpa using h
    rw [hd]
    go_enter Try.func27, Try.ntmps27
    go_wp2
    go_quiet (fail)
    go_wp2
    go_ret
    exact ⟨rfl, _, rfl⟩
  · have hd : decide (y < x) = false := by simpa using h
    rw [hd]
    go_enter Try.func27, Try.ntmps27
    go_wp2
    go_quiet (fail)
    go_wp2
    go_ret
    exact ⟨rfl, _, rfl⟩

set_option maxHeartbeats 1000000 in
/-- sort.Search with that closure. -/
theorem search3_any (n i : Nat) (g1 g2 g3 : Nat) (p : Nat → Bool) (w : World) (hn : n ≤ 1000) (hin : i ≤ n) (hlo : ∀ k, k < i → p k = false) (hhi : ∀ k, i ≤ k → k < n → p k = true)
    (hf : ∀ k d, k < n → Calls Try.prog 27 #[.int .i64 k, .pointer (some ⟨g1, 0, none⟩), .pointer (some ⟨g2, 0, none⟩), .pointer (some ⟨g3, 0, none⟩)] (w.drewN d) fun e w' => e = .returned (.bool (p k)) ∧ ∃ m, w' = (w.drewN d).drewN m) :
    Calls Try.prog 24 #[.int .i64 n, .func (.func 27) #[] #[.pointer (some ⟨g1, 0, none⟩), .pointer (some ⟨g2, 0, none⟩), .pointer (some ⟨g3, 0, none⟩)]] w fun e w' => e = .returned (.int .i64 i) ∧ ∃ d, w' = w.drewN d := by
  have HF := Lib.hid hf
  have HLo := Lib.hid hlo
  have HHi := Lib.hid hhi
  clear hf hlo hhi
  go_enter Try.func24, Try.ntmps24
  go_wp2_with fail
  go_loopw [5, 6] (fun a b w' => ∃ lo hi d : Nat, lo ≤ i ∧ i ≤ hi ∧ hi ≤ n ∧ a = .int .i64 lo ∧ b = .int .i64 hi ∧ w' = w.drewN d) (fun a b _ => (intOf b).toNat - (intOf a).toNat)
  case atStart => exact ⟨0, n, 0, Nat.zero_le _, hin, Nat.le_refl _, rfl, rfl, rfl⟩
  case round =>
    obtain ⟨lo, hi, d, h1, h2, h3, rfl, rfl, rfl⟩ := hrel
    by_cases hlt : lo < hi
    · obtain ⟨s, hs⟩ : ∃ s, s = lo + hi := ⟨_, rfl⟩
      have hsum : (lo : Int) + (hi : Int) = (s : Int) := by omega
      have hhf : (s : Int) / 2 = ((s / 2 : Nat) : Int) := by omega
      have hm1 : lo ≤ s / 2 := by omega
      have hm2 : s / 2 < hi := by omega
      have hsb : s ≤ 2000 := by omega
      clear hs
      generalize s / 2 = k at *
      have HC := Lib.hid (HF.out k d (by omega))
      by_cases hki : k < i
      · rw [HLo.out k hki] at HC
        go_wp2_with (go_at_call 27; refine HC.out.mono ?_; rintro e w' ⟨rfl, m, rfl⟩)
        go_roundw
        case rel => exact ⟨k + 1, hi, _, by omega, h2, h3, by go_num, rfl, by first | rfl | (simp only [World.drewN_drewN]; rfl)⟩
        case measure => simp [intOf]; omega
      · rw [HHi.out k (by omega) (by omega)] at HC
        go_wp2_with (go_at_call 27; refine HC.out.mono ?_; rintro e w' ⟨rfl, m, rfl⟩)
        go_roundw
        case rel => exact ⟨lo, k, _, h1, by omega, by omega, rfl, rfl, by first | rfl | (simp only [World.drewN_drewN]; rfl)⟩
        case measure => simp [intOf]; omega
    · obtain rfl : i = lo := by omega
      go_wp2_with fail
      go_ret
      exact ⟨rfl, _, rfl⟩

/-- A row of a call's own, cut short. -/
theorem own_take {w : World} {base : Nat} {e : TypeId} {A : Option Addr} {n c : Nat} {xs : List Value} (h : w.ownsRow base e 1 (.slice A n c) n xs) {d : Nat} (hd : d ≤ n) : w.ownsRow base e 1 (.slice A d c) d (xs.take d) := by
  have hl := h.1
  refine ⟨by rw [List.length_take]; omega, ?_⟩
  rcases h.2 with ⟨e1, hn⟩ | ⟨g, cap, cur, e1, hb, hh, h1, h2, h3, h4⟩
  · injection e1 with e1 e2 e3
    subst e1 e3
    obtain rfl : d = 0 := by omega
    exact .inl ⟨rfl, rfl⟩
  · injection e1 with e1 e2 e3
    subst e1 e3
    refine .inr ⟨g, c, cur, rfl, hb, hh, by omega, h2, h3, ?_⟩
    rw [← h4, List.take_take]
    congr 1
    omega

/-- The memory that rmq.Tree works on: the list's box, the parents, the path's box, the path. -/
structure TreeAt (w0 w : World) (A : Option Addr) (l : List Int) (c : Nat) (P : List Int) (v : Value) (S : List Nat) : Prop where
  bl : Blk w w0.heap.size 22 [.slice A l.length c]
  bo : Blk w (w0.heap.size + 1) 3 (P.map (.int .i64))
  bp : Blk w (w0.heap.size + 2) 22 [v]
  row : w.ownsRow (w0.heap.size + 3) 3 1 v S.length ((asInts S).map (.int .i64))
  bel : Below w0.heap.size w0 w

section
variable {w0 w w2 : World} {A : Option Addr} {l : List Int} {c : Nat} {P : List Int} {v : Value} {S : List Nat}
theorem own_from {w : World} {base : Nat} {e : TypeId} {v : Value} {n : Nat} {xs : List Value} (h : w.ownsRow base e 1 v n xs) {q : Nat} (hq : v.ownBlock = some q) : base ≤ q := (h.lt q hq).1
theorem TreeAt.drewN (h : TreeAt w0 w A l c P v S) (d : Nat) : TreeAt w0 (w.drewN d) A l c P v S := ⟨h.bl, h.bo, h.bp, h.row, bdN h.bel d⟩
theorem TreeAt.alloc (h : TreeAt w0 w A l c P v S) (o : Obj) : TreeAt w0 (w.alloc o) A l c P v S := ⟨h.bl.alloc o, h.bo.alloc o, h.bp.alloc o, h.row.alloc o, h.bel.alloc h.bel.size _⟩
theorem TreeAt.put (h : TreeAt w0 w A l c P v S) (j : Nat) (x : Int) : TreeAt w0 (w.setCell ⟨w0.heap.size + 1, j, none⟩ (.int .i64 x)) A l c (P.set j x) v S := by
  have ho : Only (w0.heap.size + 1) w (w.setCell ⟨w0.heap.size + 1, j, none⟩ (.int .i64 x)) := (Only.refl _ w).setCell j _
  refine ⟨h.bl.only ho (by omega), ?_, h.bp.only ho (by omega), own_keep h.row fun q hq => ho.block q (by have := own_from h.row hq; omega), h.bel.setCell (by show _ ≤ _ + 1; omega) _⟩
  rw [List.map_set]
  exact h.bo.put j _
theorem Blk.grown {w w' : World} {g : Nat} {t : TypeId} {xs : List Value} {r : Option Nat} (h : Blk w g t xs) (hg : w.grownBy w' r) (hne : some g ≠ r) : Blk w' g t xs := (hg.block g h.lt hne).trans h
/-- The path is cut short, a place is appended, and its box is written. -/
theorem TreeAt.push (h : TreeAt w0 w A l c P v S) {v1 v2 : Value} {d i : Nat} {o : Obj} (hv : ∀ q, v1.ownBlock = some q → w0.heap.size + 3 ≤ q)
    (hown : w2.ownsRow (w0.heap.size + 3) 3 1 v2 (d + 1) (((asInts S).map (Value.int .i64)).take d ++ [.int .i64 (i : Nat)])) (hg : (w.alloc o).grownBy w2 v1.ownBlock) (hd : d ≤ S.length) :
    TreeAt w0 (w2.setCell ⟨w0.heap.size + 2, 0, none⟩ v2) A l c P v2 (S.take d ++ [i]) := by
  have hne : ∀ g, g < w0.heap.size + 3 → some g ≠ v1.ownBlock := fun g hgl e => by have := hv g e.symm; omega
  have b1 := (h.bl.alloc o).grown hg (hne _ (by omega))
  have b2 := (h.bo.alloc o).grown hg (hne _ (by omega))
  have b3 := (h.bp.alloc o).grown hg (hne _ (by omega))
  refine ⟨b1.far (by show _ ≠ _ + 2; omega) _, b2.far (by show _ ≠ _ + 2; omega) _, b3.put 0 v2, ?_, ?_⟩
  · have e1 : (S.take d ++ [i]).length = d + 1 := by rw [List.length_append, List.length_take, List.length_singleton]; omega
    have e2 : (asInts (S.take d ++ [i])).map (Value.int .i64) = ((asInts S).map (Value.int .i64)).take d ++ [.int .i64 (i : Nat)] := by
      unfold asInts
      simp
    rw [e1, e2]
    exact own_keep hown fun q hq => Below.heap_setCell w2 ⟨w0.heap.size + 2, 0, none⟩ v2 q (by show q ≠ _ + 2; have := own_from hown hq; omega)
  · exact ((h.bel.alloc h.bel.size _).grown hg (by simp; have := h.bel.size; omega) (fun q hq => by have := hv q hq; omega)).setCell (by show _ ≤ _ + 2; omega) _
end
end Go.Proofs.Ytfijlcaiklhpiaa
