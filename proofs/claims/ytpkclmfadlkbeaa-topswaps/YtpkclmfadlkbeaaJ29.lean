/-
  What Signed of the keeps returns: a contract, walked over the translated text. The small functions of the eighth chapter's statements, and fen.Make, Add, Sum told of the list behind a tree: contracts, walked over the translated text. No condition but what each theorem names.
-/
import Derived.Test.YtpkclmfadlkbeaaJ07
import Derived.Test.YtpkclmfadlkbeaaJ24
import Derived.Test.YtpkclmfadlkbeaaJ04
namespace Go.Proofs.Ytpkclmfadlkbeaa
open Go.RowKit Words

/-- All of the first n lie within a limit. -/
def Lim (B : Int) (f : Nat → Int) (n : Nat) : Prop := ∀ j, j < n → -B ≤ f j ∧ f j ≤ B
end Go.Proofs.Ytpkclmfadlkbeaa

namespace Go.Proofs.Ytpkclmfadlkbeaa
open Go.RowKit Words

theorem Lim.win {B : Int} {f : Nat → Int} {n : Nat} (h : Lim B f n) : Win B (vals f n) := win_of fun c hc => by
  rw [vals_length] at hc
  rw [at0_vals _ _ _ hc]
  exact h c hc
theorem Lim.valid {B : Int} {f : Nat → Int} {n : Nat} (h : Lim B f n) (hn : n ≤ 300) (hB : B ≤ 1099511627776) : Valid (vals f n) :=
  ⟨by rw [vals_length]; exact hn, fun x hx => by have := h.win x hx; unfold In at this ⊢; omega⟩
theorem Lim.wide {B C : Int} {f : Nat → Int} {n : Nat} (h : Lim B f n) (hB : B ≤ C) : Lim C f n := fun j hj => by have := h j hj; omega
theorem Lim.tree {B : Int} {f : Nat → Int} {n : Nat} (h : Lim B f n) (hn : n ≤ 300) (h0 : 0 ≤ B) : Lim (600 * B) (tr f) n := fun j hj => tr_bound f n hn B h0 h j hj
theorem Lim.added {B d : Int} {g : Nat → Int} {n : Nat} (h : Lim B g n) (p : Nat) (D : Int) (hd : -D ≤ d ∧ d ≤ D) (h0 : 0 ≤ D) : Lim (B + D) (added g p d) n := fun j hj => by
  have := h j hj
  unfold Proofs.Ytpkclmfadlkbeaa.added
  by_cases e : Cov p j
  · rw [if_pos e]; omega
  · rw [if_neg e]; omega
theorem Lim.upd {B d : Int} {g : Nat → Int} {n : Nat} (h : Lim B g n) (p : Nat) (hp : p < n) (D : Int) (hd : -D ≤ d ∧ d ≤ D) (h0 : 0 ≤ D) : Lim (B + D) (upd g p (g p + d)) n := fun j hj => by
  have h1 := h j hj
  have h2 := h p hp
  unfold Words.upd
  by_cases e : j = p
  · rw [if_pos e]; omega
  · rw [if_neg e]; omega

/-- One number more. -/
def snoc (f : Nat → Int) (m : Nat) (v : Int) (j : Nat) : Int := if j < m then f j else v
theorem cells_snoc (f : Nat → Int) (m : Nat) (v : Int) : cellsOf f m ++ [Value.int .i64 v] = cellsOf (snoc f m v) (m + 1) := by
  have h : cellsOf (snoc f m v) m = cellsOf f m := cellsOf_congr m fun j hj => if_pos hj
  have h2 : snoc f m v m = v := if_neg (Nat.lt_irrefl m)
  show _ = (vals (snoc f m v) (m + 1)).map (Value.int .i64)
  rw [vals_succ, List.map_append, h2, ← h]
  rfl
theorem Lim.snoc {B : Int} {f : Nat → Int} {m : Nat} (h : Lim B f m) (v : Int) (hv : -B ≤ v ∧ v ≤ B) : Lim B (snoc f m v) (m + 1) := fun j _ => by
  unfold Proofs.Ytpkclmfadlkbeaa.snoc
  by_cases e : j < m
  · rw [if_pos e]; exact h j e
  · rw [if_neg e]; exact hv

theorem gives_congr {w : World} {f g : Nat → Int} {n : Nat} (h : ∀ j, j < n → f j = g j) {e : Ending} {w' : World} (k : GivesT w f n e w') : GivesT w g n e w' := by
  unfold GivesT at k ⊢
  rw [← cellsOf_congr n h]
  exact k

/-- fen.Make of a list within the limits. -/
theorem fmk_fun (A : Option Addr) (f : Nat → Int) (n c : Nat) (w : World) (hn : n ≤ 300) (hf : Lim 1048576 f n) (hnone : A = none → c = 0) (hL : Lies w w.heap.size A (cellsOf f n)) :
    Calls Try.prog 19 #[.slice A n c] w (GivesT w (tr f) n) := by
  have h := fmk_any A (vals f n) c w (by rw [vals_length]; exact hn) hf.win hnone hL
  rw [vals_length] at h
  exact h.mono fun e w' k => gives_congr (fun j hj => tr_congr j fun c hc => at0_vals f n c (by omega)) k
/-- fen.Add that goes. -/
theorem fadd_fun (A : Option Addr) (g : Nat → Int) (n c p : Nat) (d B : Int) (w : World) (hn : n ≤ 300) (hg : Lim B g n) (hB : B ≤ 1000000000) (hp : p < n) (hd : -1000 ≤ d ∧ d ≤ 1000) (hnone : A = none → c = 0) (hL : Lies w w.heap.size A (cellsOf g n)) :
    Calls Try.prog 22 #[.slice A n c, .int .i64 p, .int .i64 d] w (GivesT w (added g p d) n) := by
  have h := fadd_both A (vals g n) c p d w (hg.valid hn (by omega)) (by rw [vals_length]; exact hp) ⟨by omega, by omega⟩ hnone hL
  rw [vals_length] at h
  have he : ∀ j, j < n → added (at0 (vals g n)) p d j = added g p d j := fun j hj => by unfold added; rw [at0_vals g n j hj]
  rw [vals_congr n he] at h
  refine h.mono fun e w' k => ?_
  rcases k with k | k
  · exact gives_congr he k.2
  · exact absurd ((hg.added p 1000 hd (by decide)).valid hn (by omega)) k.1
/-- fen.Sum of a list's tree. -/
theorem fsum_tr (A : Option Addr) (f : Nat → Int) (n c i : Nat) (B : Int) (w : World) (hn : n ≤ 300) (hf : Lim B f n) (h0 : 0 ≤ B) (hB : B ≤ 1000000) (hi : i ≤ n) (hL : Lies w w.heap.size A (cellsOf (tr f) n)) :
    Calls Try.prog 21 #[.slice A n c, .int .i64 i] w (Tells8 w (S f i) 0) := by
  have h := fsum_any A (vals (tr f) n) c i w ((hf.tree hn h0).valid hn (by omega)) (by rw [vals_length]; exact hi) hL
  rw [vals_length] at h
  have he : S (numT (at0 (vals (tr f) n))) i = S f i := S_congr i fun c hc => by
    rw [numT_congr (g := tr f) c fun j hj => at0_vals _ _ _ (by omega), num_tr]
  rw [he] at h
  exact h


theorem own_slice_lies {w : World} {base : Nat} {e : TypeId} {A : Option Addr} {n m c : Nat} {xs : List Value} (h : w.ownsRow base e 1 (.slice A m c) n xs) : Lies w w.heap.size A xs := by
  obtain ⟨A', c', e, _, _, hl, _, _⟩ := own_slice h
  injection e with e1
  rw [e1]; exact hl
/-- A row of a call's own, where all of its world stays. -/
theorem own_stay {w w' : World} {base B : Nat} {e : TypeId} {v : Value} {n : Nat} {xs : List Value} (h : w.ownsRow base e 1 v n xs) (hb : Below B w w') (hB : w.heap.size ≤ B) : w'.ownsRow base e 1 v n xs := by
  refine ⟨h.1, ?_⟩
  rcases h.2 with ⟨rfl, hn⟩ | ⟨g, cap, cur, rfl, hg, hh, hr⟩
  · exact .inl ⟨rfl, hn⟩
  · refine .inr ⟨g, cap, cur, rfl, hg, (hb.block g ?_).trans hh, hr⟩
    rcases Nat.lt_or_ge g w.heap.size with h1 | h1
    · omega
    · rw [Array.getElem?_eq_none h1] at hh; cases hh

end Go.Proofs.Ytpkclmfadlkbeaa
