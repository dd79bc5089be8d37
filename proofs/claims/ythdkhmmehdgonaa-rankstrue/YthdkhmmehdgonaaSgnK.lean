/-
  What Signed of the keeps returns: a contract, walked over the translated text. No condition but what each theorem names.
-/
import Derived.Test.YthdkhmmehdgonaaFenMk
import Derived.Test.YthdkhmmehdgonaaKeep3
namespace Go.Proofs.Ythdkhmmehdgonaa
open Go.RowKit Words

/-- All of the first n lie within a limit. -/
def Lim (B : Int) (f : Nat → Int) (n : Nat) : Prop := ∀ j, j < n → -B ≤ f j ∧ f j ≤ B
/-- The numbers from -b to b that a raw list stands for: at most k. -/
def sgn (k b : Nat) (l : List Int) (j : Nat) : Int := at0 (picks k (2 * b + 1) l) j - b
theorem sgn_lim (k b : Nat) (l : List Int) : Lim b (sgn k b l) (picks k (2 * b + 1) l).length := fun j hj => by
  have := picks_lt (n := 2 * b + 1) (by omega) k l _ (List.mem_of_getElem? (at0_some _ j hj))
  unfold sgn
  omega

set_option maxHeartbeats 1000000 in
/-- damaskkeep.Signed. -/
theorem signed_any (A : Option Addr) (l : List Int) (c k b : Nat) (w : World) (hk : k ≤ 4096) (hb : b ≤ 1000000) (hw : ∀ z ∈ l, (Lit.int .i64 z).wf = true) (hL : Lies w w.heap.size A (l.map (.int .i64))) :
    Calls Try.prog 11 #[.slice A l.length c, .int .i64 k, .int .i64 b] w (GivesF w (sgn k b l) (picks k (2 * b + 1) l).length) := by
  have HNu := Lib.hid (numbers_own A l c k (2 * b + 1) w hk (by omega) (by omega) hw hL)
  unfold GivesOwnI at HNu
  have HLm := Lib.hid (fun j h => picks_lt (n := 2 * b + 1) (by omega) k l _ (List.mem_of_getElem? (at0_some (picks k (2 * b + 1) l) j h)))
  have hpl := picks_length k (2 * b + 1) l
  rw [← cellsOf_at0] at HNu
  have hs : ∀ j, sgn k b l j = at0 (picks k (2 * b + 1) l) j - b := fun j => rfl
  have HS := Lib.hid hs
  clear hs hL hw
  unfold GivesF
  generalize sgn k b l = F at *
  generalize at0 (picks k (2 * b + 1) l) = f at *
  generalize (picks k (2 * b + 1) l).length = n at *
  have h2 : 2 * (b : Int) + 1 = ((2 * b + 1 : Nat) : Int) := by omega
  generalize hq : 2 * b + 1 = q at *
  have h3 : 2 * (b : Int) = (q : Int) - 1 := by omega
  have hqb : q ≤ 2000001 := by omega
  clear hq
  go_enter Try.func11, Try.ntmps11
  go_wp2_with fail
  refine HNu.out.mono ?_
  rintro e w1 ⟨v, rfl, hown, hb1⟩
  obtain ⟨A2, c2, rfl, _, _, _, _, _⟩ := own_slice hown
  go_wp2_with fail
  go_loopw [8] (fun a w' => ∃ i : Nat, i ≤ n ∧ a = .int .i64 i ∧ w'.ownsRow w.heap.size 3 1 (.slice A2 n c2) n (cellsOf (fun j => if j < i then F j else f j) n) ∧ Below w.heap.size w w') (fun a _ => n - (intOf a).toNat)
  case atStart => exact ⟨0, Nat.zero_le _, rfl, by rw [cellsOf_congr (g := f) n fun j _ => if_neg (by omega)]; exact hown, hb1⟩
  case round =>
    obtain ⟨i, hi, rfl, hr, hbl⟩ := hrel
    by_cases hlt : i < n
    · obtain ⟨g, rfl, hg⟩ := own_at hr (by omega)
      have hci := own_cell hr (cellsOf_get _ n i hlt)
      rw [if_neg (Nat.lt_irrefl i)] at hci
      have hfz := own_frozen hr
      obtain ⟨x1, x2⟩ := HLm.out i hlt
      have HP := Lib.hid (own_put hr i (.int .i64 (f i - b)))
      rw [cellsOf_set, cellsOf_congr (g := fun j => if j < i + 1 then F j else f j) n fun j _ => by
        unfold upd
        by_cases e : j = i
        · rw [if_pos e, if_pos (by omega), HS.out, e]
        · rw [if_neg e]
          show (if j < i then F j else f j) = _
          by_cases e2 : j < i
          · rw [if_pos e2, if_pos (by omega)]
          · rw [if_neg e2, if_neg (by omega)]] at HP
      clear hr
      generalize f i = x at *
      go_wp2_with fail
      go_roundw
      case rel => exact ⟨i + 1, by omega, by go_num, HP.out, hbl.setCell (by show w.heap.size ≤ g; omega) _⟩
      case measure => simp [intOf]; omega
    · obtain rfl : n = i := by omega
      have HR := Lib.hid hr
      rw [cellsOf_congr (g := F) n fun j hj => if_pos hj] at HR
      clear hr
      go_wp2_with fail
      go_ret
      exact ⟨A2, c2, rfl, HR.out, hbl⟩
/-- .. as a list. -/
def sgnL (k b : Nat) (l : List Int) : List Int := vals (sgn k b l) (picks k (2 * b + 1) l).length
theorem sgnL_length (k b : Nat) (l : List Int) : (sgnL k b l).length ≤ k := by unfold sgnL; rw [vals_length]; exact picks_length _ _ _
theorem sgnL_lim (k b : Nat) (l : List Int) : ∀ z ∈ sgnL k b l, -(b : Int) ≤ z ∧ z ≤ b := fun z hz => by
  unfold sgnL at hz
  obtain ⟨j, hj, rfl⟩ := List.getElem_of_mem hz
  rw [vals_length] at hj
  have h := vals_get (sgn k b l) _ j hj
  have e := (List.getElem?_eq_some_iff.1 h).2
  rw [e]
  exact sgn_lim k b l j hj
theorem signed_list (A : Option Addr) (l : List Int) (c k b : Nat) (w : World) (hk : k ≤ 4096) (hb : b ≤ 1000000) (hw : ∀ z ∈ l, (Lit.int .i64 z).wf = true) (hL : Lies w w.heap.size A (l.map (.int .i64))) :
    Calls Try.prog 11 #[.slice A l.length c, .int .i64 k, .int .i64 b] w (GivesOwnI w (sgnL k b l)) :=
  (signed_any A l c k b w hk hb hw hL).mono fun _ _ ⟨A', c', he, hown, hbl⟩ => ⟨_, he, by unfold sgnL; rw [vals_length]; exact hown, hbl⟩
end Go.Proofs.Ythdkhmmehdgonaa
