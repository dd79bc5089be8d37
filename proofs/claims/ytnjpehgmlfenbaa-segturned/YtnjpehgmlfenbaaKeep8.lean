/-
  The small functions of the eighth chapter's statements, and fen.Make, Add, Sum told of the list behind a tree: contracts, walked over the translated text. No condition but what each theorem names.
-/
import Derived.Test.YtnjpehgmlfenbaaFenTr
import Derived.Test.YtnjpehgmlfenbaaKeep3
import Derived.Test.YtnjpehgmlfenbaaSameI
namespace Go.Proofs.Ytnjpehgmlfenbaa
open Go.RowKit Words

/-- All of the first n lie within a limit. -/
def Lim (B : Int) (f : Nat → Int) (n : Nat) : Prop := ∀ j, j < n → -B ≤ f j ∧ f j ≤ B
theorem Lim.win {B : Int} {f : Nat → Int} {n : Nat} (h : Lim B f n) : Win B (vals f n) := win_of fun c hc => by
  rw [vals_length] at hc
  rw [at0_vals _ _ _ hc]
  exact h c hc
theorem Lim.valid {B : Int} {f : Nat → Int} {n : Nat} (h : Lim B f n) (hn : n ≤ 300) (hB : B ≤ 1099511627776) : Valid (vals f n) :=
  ⟨by rw [vals_length]; exact hn, fun x hx => by have := h.win x hx; unfold In at this ⊢; omega⟩
theorem Lim.wide {B C : Int} {f : Nat → Int} {n : Nat} (h : Lim B f n) (hB : B ≤ C) : Lim C f n := fun j hj => by have := h j hj; omega
theorem Lim.tree {B : Int} {f : Nat → Int} {n : Nat} (h : Lim B f n) (hn : n ≤ 300) (h0 : 0 ≤ B) : Lim (600 * B) (tr f) n := fun j hj => tr_bound f n hn B h0 h j hj
theorem Lim.added {B d : Int} {g : Nat → Int} {n : Nat} (h : Lim B g n) (p : Nat) (D : Int) (hd : -D ≤ d ∧ d ≤ D) (h0 : 0 ≤ D) : Lim (B + D) (added g p d) n := fun j hj => by
  have := h j hj
  unfold Proofs.Ytnjpehgmlfenbaa.added
  by_cases e : Cov p j
  · rw [if_pos e]; omega
  · rw [if_neg e]; omega
theorem Lim.upd {B d : Int} {g : Nat → Int} {n : Nat} (h : Lim B g n) (p : Nat) (hp : p < n) (D : Int) (hd : -D ≤ d ∧ d ≤ D) (h0 : 0 ≤ D) : Lim (B + D) (upd g p (g p + d)) n := fun j hj => by
  have h1 := h j hj
  have h2 := h p hp
  unfold Words.upd
  by_cases e : j = p
  · rw [if_pos e]; omega
  · rw [if_neg e]; omega

/-- One number more. -/
def snoc (f : Nat → Int) (m : Nat) (v : Int) (j : Nat) : Int := if j < m then f j else v
theorem cells_snoc (f : Nat → Int) (m : Nat) (v : Int) : cellsOf f m ++ [Value.int .i64 v] = cellsOf (snoc f m v) (m + 1) := by
  have h : cellsOf (snoc f m v) m = cellsOf f m := cellsOf_congr m fun j hj => if_pos hj
  have h2 : snoc f m v m = v := if_neg (Nat.lt_irrefl m)
  show _ = (vals (snoc f m v) (m + 1)).map (Value.int .i64)
  rw [vals_succ, List.map_append, h2, ← h]
  rfl
theorem Lim.snoc {B : Int} {f : Nat → Int} {m : Nat} (h : Lim B f m) (v : Int) (hv : -B ≤ v ∧ v ≤ B) : Lim B (snoc f m v) (m + 1) := fun j _ => by
  unfold Proofs.Ytnjpehgmlfenbaa.snoc
  by_cases e : j < m
  · rw [if_pos e]; exact h j e
  · rw [if_neg e]; exact hv

theorem gives_congr {w : World} {f g : Nat → Int} {n : Nat} (h : ∀ j, j < n → f j = g j) {e : Ending} {w' : World} (k : GivesT w f n e w') : GivesT w g n e w' := by
  unfold GivesT at k ⊢
  rw [← cellsOf_congr n h]
  exact k


/-- damaskkeep.copied of a row. -/
theorem copied_fun (A : Option Addr) (f : Nat → Int) (n c : Nat) (w : World) (hn : n ≤ 1000000) (hnone : A = none → c = 0) (hL : Lies w w.heap.size A (cellsOf f n)) :
    Calls Try.prog 23 #[.slice A n c] w fun e w' => ∃ A' c', e = .returned (.slice A' n c') ∧ Lies w' w'.heap.size A' (cellsOf f n) ∧ (A' = none → c' = 0) ∧ Below w.heap.size w w' := by
  have h := copied_any A (vals f n) c w (by rw [vals_length]; exact hn) hnone hL
  rw [vals_length] at h
  refine h.mono fun e w' ⟨A', c', h1, _, h3, h4, _, h6⟩ => ⟨A', c', ?_, h3, h4, h6⟩
  rw [h1, List.length_map, vals_length]
/-- damaskkeep.sameInts of rows that hold the same. -/
theorem same_fun (A A2 : Option Addr) (f : Nat → Int) (n c c2 : Nat) (w : World) (hn : n ≤ 1000000) (h1 : Lies w w.heap.size A (cellsOf f n)) (h2 : Lies w w.heap.size A2 (cellsOf f n)) :
    Calls Try.prog 14 #[.slice A n c, .slice A2 n c2] w fun e w' => e = .returned (.bool true) ∧ Below w.heap.size w w' := by
  have h := sameIntsK_eq A A2 (vals f n) c c2 w (by rw [vals_length]; omega) h1 h2
  rw [vals_length] at h
  exact h

theorem own_slice_lies {w : World} {base : Nat} {e : TypeId} {A : Option Addr} {n m c : Nat} {xs : List Value} (h : w.ownsRow base e 1 (.slice A m c) n xs) : Lies w w.heap.size A xs := by
  obtain ⟨A', c', e, _, _, hl, _, _⟩ := own_slice h
  injection e with e1
  rw [e1]; exact hl
/-- A row of a call's own, where all of its world stays. -/
theorem own_stay {w w' : World} {base B : Nat} {e : TypeId} {v : Value} {n : Nat} {xs : List Value} (h : w.ownsRow base e 1 v n xs) (hb : Below B w w') (hB : w.heap.size ≤ B) : w'.ownsRow base e 1 v n xs := by
  refine ⟨h.1, ?_⟩
  rcases h.2 with ⟨rfl, hn⟩ | ⟨g, cap, cur, rfl, hg, hh, hr⟩
  · exact .inl ⟨rfl, hn⟩
  · refine .inr ⟨g, cap, cur, rfl, hg, (hb.block g ?_).trans hh, hr⟩
    rcases Nat.lt_or_ge g w.heap.size with h1 | h1
    · omega
    · rw [Array.getElem?_eq_none h1] at hh; cases hh

/-- The numbers from -b to b that a raw list stands for: at most k. -/
def sgn (k b : Nat) (l : List Int) (j : Nat) : Int := at0 (picks k (2 * b + 1) l) j - b
theorem sgn_lim (k b : Nat) (l : List Int) : Lim b (sgn k b l) (picks k (2 * b + 1) l).length := fun j hj => by
  have := picks_lt (n := 2 * b + 1) (by omega) k l _ (List.mem_of_getElem? (at0_some _ j hj))
  unfold sgn
  omega

set_option maxHeartbeats 1000000 in
/-- damaskkeep.Signed. -/
theorem signed_any (A : Option Addr) (l : List Int) (c k b : Nat) (w : World) (hk : k ≤ 4096) (hb : b ≤ 1000000) (hw : ∀ z ∈ l, (Lit.int .i64 z).wf = true) (hL : Lies w w.heap.size A (l.map (.int .i64))) :
    Calls Try.prog 10 #[.slice A l.length c, .int .i64 k, .int .i64 b] w (GivesF w (sgn k b l) (picks k (2 * b + 1) l).length) := by
  have HNu := Lib.hid (numbers_own A l c k (2 * b + 1) w hk (by omega) (by omega) hw hL)
  unfold GivesOwnI at HNu
  have HLm := Lib.hid (fun j h => picks_lt (n := 2 * b + 1) (by omega) k l _ (List.mem_of_getElem? (at0_some (picks k (2 * b + 1) l) j h)))
  have hpl := picks_length k (2 * b + 1) l
  rw [← cellsOf_at0] at HNu
  have hs : ∀ j, sgn k b l j = at0 (picks k (2 * b + 1) l) j - b := fun j => rfl
  have HS := Lib.hid hs
  clear hs hL hw
  unfold GivesF
  generalize sgn k b l = F at *
  generalize at0 (picks k (2 * b + 1) l) = f at *
  generalize (picks k (2 * b + 1) l).length = n at *
  have h2 : 2 * (b : Int) + 1 = ((2 * b + 1 : Nat) : Int) := by omega
  generalize hq : 2 * b + 1 = q at *
  have h3 : 2 * (b : Int) = (q : Int) - 1 := by omega
  have hqb : q ≤ 2000001 := by omega
  clear hq
  go_enter Try.func10, Try.ntmps10
  go_wp2_with fail
  refine HNu.out.mono ?_
  rintro e w1 ⟨v, rfl, hown, hb1⟩
  obtain ⟨A2, c2, rfl, _, _, _, _, _⟩ := own_slice hown
  go_wp2_with fail
  go_loopw [8] (fun a w' => ∃ i : Nat, i ≤ n ∧ a = .int .i64 i ∧ w'.ownsRow w.heap.size 3 1 (.slice A2 n c2) n (cellsOf (fun j => if j < i then F j else f j) n) ∧ Below w.heap.size w w') (fun a _ => n - (intOf a).toNat)
  case atStart => exact ⟨0, Nat.zero_le _, rfl, by rw [cellsOf_congr (g := f) n fun j _ => if_neg (by omega)]; exact hown, hb1⟩
  case round =>
    obtain ⟨i, hi, rfl, hr, hbl⟩ := hrel
    by_cases hlt : i < n
    · obtain ⟨g, rfl, hg⟩ := own_at hr (by omega)
      have hci := own_cell hr (cellsOf_get _ n i hlt)
      rw [if_neg (Nat.lt_irrefl i)] at hci
      have hfz := own_frozen hr
      obtain ⟨x1, x2⟩ := HLm.out i hlt
      have HP := Lib.hid (own_put hr i (.int .i64 (f i - b)))
      rw [cellsOf_set, cellsOf_congr (g := fun j => if j < i + 1 then F j else f j) n fun j _ => by
        unfold upd
        by_cases e : j = i
        · rw [if_pos e, if_pos (by omega), HS.out, e]
        · rw [if_neg e]
          show (if j < i then F j else f j) = _
          by_cases e2 : j < i
          · rw [if_pos e2, if_pos (by omega)]
          · rw [if_neg e2, if_neg (by omega)]] at HP
      clear hr
      generalize f i = x at *
      go_wp2_with fail
      go_roundw
      case rel => exact ⟨i + 1, by omega, by go_num, HP.out, hbl.setCell (by show w.heap.size ≤ g; omega) _⟩
      case measure => simp [intOf]; omega
    · obtain rfl : n = i := by omega
      have HR := Lib.hid hr
      rw [cellsOf_congr (g := F) n fun j hj => if_pos hj] at HR
      clear hr
      go_wp2_with fail
      go_ret
      exact ⟨A2, c2, rfl, HR.out, hbl⟩
end Go.Proofs.Ytnjpehgmlfenbaa
