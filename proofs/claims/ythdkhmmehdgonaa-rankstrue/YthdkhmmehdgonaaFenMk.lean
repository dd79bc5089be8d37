/-
  What slices.Clone of a list of int, fen.Make, fen.Add and fen.Sum return: contracts, walked over the translated text. No condition but what each theorem names.
-/
import Derived.Test.YthdkhmmehdgonaaFenRd
import Derived.Test.YthdkhmmehdgonaaOwnRow
namespace Go.Proofs.Ythdkhmmehdgonaa
open Go.RowKit Words

theorem fint_info : (Try.prog.info? 3).map (fun i => (i.zero, i.size, i.bytes)) = some (some (.int .i64 0), 1, 8) := by kernel_rfl

/-- The numbers f 0 .. f (n - 1), as cells. -/
def cellsOf (f : Nat → Int) (n : Nat) : List Value := (vals f n).map (.int .i64)
theorem cellsOf_length (f : Nat → Int) (n : Nat) : (cellsOf f n).length = n := by unfold cellsOf; rw [List.length_map, vals_length]
theorem cellsOf_get (f : Nat → Int) (n i : Nat) (h : i < n) : (cellsOf f n)[i]? = some (.int .i64 (f i)) := by unfold cellsOf; rw [List.getElem?_map, vals_get _ _ _ h]; rfl
theorem cellsOf_set (f : Nat → Int) (n i : Nat) (v : Int) : (cellsOf f n).set i (.int .i64 v) = cellsOf (upd f i v) n := by unfold cellsOf; rw [← vals_set, List.map_set]
theorem cellsOf_congr {f g : Nat → Int} (n : Nat) (h : ∀ j, j < n → f j = g j) : cellsOf f n = cellsOf g n := by unfold cellsOf; rw [vals_congr n h]
theorem cellsOf_at0 (l : List Int) : cellsOf (at0 l) l.length = l.map (.int .i64) := by unfold cellsOf; rw [vals_at0]
theorem cellsOf_one (f : Nat → Int) (n : Nat) : ∀ u ∈ cellsOf f n, u.oneCell' = true := by
  intro u hu
  obtain ⟨_, _, rfl⟩ := List.mem_map.1 hu
  rfl

theorem own_lower {w : World} {base B : Nat} {e : TypeId} {v : Value} {n : Nat} {xs : List Value} (h : w.ownsRow base e 1 v n xs) (hB : B ≤ base) : w.ownsRow B e 1 v n xs := by
  refine ⟨h.1, ?_⟩
  rcases h.2 with ⟨rfl, hn⟩ | ⟨g, cap, cur, rfl, hb, hr⟩
  · exact .inl ⟨rfl, hn⟩
  · exact .inr ⟨g, cap, cur, rfl, by omega, hr⟩
/-- A new block without cells. -/
theorem Blk.owns0 {w : World} {g : Nat} {e : TypeId} (h : Blk w g e []) {base : Nat} (hb : base ≤ g) : w.ownsRow base e 1 (.slice (some ⟨g, 0, none⟩) 0 0) 0 [] :=
  ⟨rfl, .inr ⟨g, 0, #[], rfl, hb, h, Nat.le_refl _, Nat.zero_le _, rfl, rfl⟩⟩

/-- What a call that returns a new row of int, its caller's own, leaves. -/
def GivesF (w : World) (f : Nat → Int) (n : Nat) (e : Ending) (w' : World) : Prop := ∃ A c, e = .returned (.slice A n c) ∧ w'.ownsRow w.heap.size 3 1 (.slice A n c) n (cellsOf f n) ∧ Below w.heap.size w w'
/-- A list and OK; no list and an error. -/
def GivesT (w : World) (f : Nat → Int) (n : Nat) (e : Ending) (w' : World) : Prop := ∃ A c, e = .returned (.tuple #[.slice A n c, .int .i64 0]) ∧ Lies w' w'.heap.size A (cellsOf f n) ∧ (A = none → c = 0) ∧ New w.heap.size A ∧ Below w.heap.size w w'
def NoT (w : World) (r : Int) (e : Ending) (w' : World) : Prop := e = .returned (.tuple #[.slice none 0 0, .int .i64 r]) ∧ Below w.heap.size w w'

theorem own_gives {w w' : World} {f : Nat → Int} {n c : Nat} {A : Option Addr} (h : w'.ownsRow w.heap.size 3 1 (.slice A n c) n (cellsOf f n)) (hb : Below w.heap.size w w') : GivesT w f n (.returned (.tuple #[.slice A n c, .int .i64 0])) w' := by
  obtain ⟨A', c', e, _, _, hl, hnone, hnew⟩ := own_slice h
  injection e with e1 _ e2
  subst e1 e2
  exact ⟨A, c, rfl, hl, hnone, hnew, hb⟩

set_option maxHeartbeats 1000000 in
/-- slices.Clone. -/
theorem clone_any (A : Option Addr) (l : List Int) (c : Nat) (w : World) (hn : l.length ≤ 1000000) (hnone : A = none → c = 0) (hL : Lies w w.heap.size A (l.map (.int .i64))) :
    Calls Try.prog 21 #[.slice A l.length c] w (GivesF w (at0 l) l.length) := by
  have HLen := Lib.hid (show (l.map (Value.int .i64)).length = l.length by simp)
  have HT := Lib.hid (cellsOf_one (at0 l) l.length)
  have HE := Lib.hid (cellsOf_at0 l)
  have hnl : ∀ (w : World) (a : Option Addr) (n c n' c' : Nat), (binOp .eql 22 (.slice a n c) (.slice none n' c')).run Try.prog w = .ok (.bool a.isNone) w := fun w a n c n' c' => Lib.run_eql_slice_nil w _ _ a n c n' c' Try.underlying22
  cases A with
  | none =>
    have h0 : l.length = 0 := by
      by_cases hne : l.map (Value.int .i64) = []
      · rw [List.map_eq_nil_iff] at hne; subst hne; rfl
      · obtain ⟨b, o', e', _⟩ := hL hne
        cases e'
    have hc := hnone rfl
    subst hc
    unfold GivesF
    rw [h0]
    go_enter Try.func21, Try.ntmps21
    go_wp2_with fail
    go_ret
    exact ⟨none, 0, rfl, World.ownsRow_nil _ _ _ _, Below.refl _ _⟩
  | some ad =>
    rw [HE.out] at HT
    have HL := Lib.hid hL
    clear hL hnone
    unfold GivesF
    rw [HE.out]
    generalize l.map (Value.int .i64) = ys at *
    generalize l.length = n at *
    clear HE
    go_enter Try.func21, Try.ntmps21
    go_wp2_with (at_builtin; go_loud (refine append_from _ rfl (.tmp 5) (.tmp 6) 22 rfl w.heap.size 3 (.int .i64 0) 8 Try.underlying22 fint_info rfl (.slice (some ⟨w.heap.size, 0, none⟩) 0 0) 0 [] rfl ((Blk.new w 3 []).owns0 (Nat.le_refl _)) (some ad) n c ys rfl HLen.out (fun e => by cases e) (HL.out.alloc _) HT.out (by simp only [maxLen]; omega) (by omega) (by simp) ?_))
    intro v1 w2 hown1 hg1
    obtain ⟨A', c', rfl, hle1, hlen1, hlies, hnone1, hnew1⟩ := own_slice hown1
    go_wp2_with fail
    go_ret
    exact ⟨A', c', by simp, by simpa using hown1, (bnew w _).grown hg1 (by simp) (fun q hq => by cases hq; exact Nat.le_refl _)⟩
end Go.Proofs.Ythdkhmmehdgonaa
