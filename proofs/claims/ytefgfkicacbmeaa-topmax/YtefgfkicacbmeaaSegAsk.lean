/-
  What the functions that are handed to (*node).visit do, and what (*node).leastOf and (*node).sumOf return: contracts, walked over the translated text. No condition but what each theorem names.
-/
import Derived.Test.YtefgfkicacbmeaaSegVi
namespace Go.Proofs.Ytefgfkicacbmeaa
open Go.RowKit Words

theorem map_same (l : List Int) : l.map (fun z => z) = l := by
  induction l with
  | nil => rfl
  | cons a l ih => rw [List.map_cons, ih]
theorem out_is {g n x : Nat} (h : x < g ∨ g + 2 * n ≤ x + 1) : ∀ k, g ≤ k → k + 1 < g + 2 * n → ¬ Is x k := fun k h1 h2 e => by unfold Is at e; omega

/-- The function that makes a change. -/
theorem cl_change (s2 : Bool) (b2 : Int) (x : Nat) : Clo 86 x 118 (fun _ : Unit => [.bool s2, .int .i64 b2]) (app s2 b2) (fun _ _ => ()) (fun _ l => Bds (l.map (app s2 b2))) := by
  refine ⟨fun g l a W hT hX hx hn hok => ?_, fun args w => Try.call86 args w, fun _ => rfl, fun _ _ _ => rfl, fun _ l r h => ?_, fun _ l r h => ?_⟩
  · have HA := Lib.hid (apply_any g l s2 b2 W hT hn hok)
    have c0 : W.cell? ⟨x, 0, none⟩ = some (.bool s2) := hX.cell 0
    have c1 : W.cell? ⟨x, 1, none⟩ = some (.int .i64 b2) := hX.cell 1
    have HX := Lib.hid hX
    have hp := hT.pos
    clear hT hX hok
    go_enter Try.func86, Try.ntmps86
    go_wp2_with fail
    refine HA.out.mono ?_
    rintro e w' ⟨rfl, hT, hk⟩
    have HT := Lib.hid hT
    clear hT c0 c1
    go_wp2_with fail
    exact bodyPost_end (v := .tuple #[]) (by simp [results, Try.results86, go_sem]) rfl ⟨rfl, HT.out, HX.out.keeps hk (by unfold Is; omega), hk.mono fun k e => by unfold Is at e; unfold InX InT; omega⟩
  · rw [List.map_append] at h; exact h.left
  · rw [List.map_append] at h; exact h.right

/-- The least so far. -/
def accL (a : Int) (l : List Int) : Int := if l = [] then a else min a (mn l)
theorem accL_join (a : Int) (l r : List Int) : accL a (l ++ r) = accL (accL a l) r := by
  unfold accL
  by_cases h1 : l = []
  · subst h1; simp
  · by_cases h2 : r = []
    · subst h2; simp [h1]
    · rw [if_neg h1, if_neg h2, if_neg (by simp [h1]), mn_append h1 h2]
      omega

set_option maxHeartbeats 1000000 in
/-- The function that seeks the least. -/
theorem cl_least (x : Nat) : Clo 103 x 3 (fun a : Int => [.int .i64 a]) (fun z => z) accL (fun _ _ => True) := by
  refine ⟨fun g l a W hT hX hx hn hok => ?_, fun args w => Try.call103 args w, fun _ => rfl, accL_join, fun _ l r h => trivial, fun _ l r h => trivial⟩
  have e0 : accL a l = min a (mn l) := if_neg hT.ne
  have c0 : W.cell? ⟨x, 0, none⟩ = some (.int .i64 a) := hX.cell 0
  obtain ⟨s, b, p, q, hB⟩ := hT.head
  have c1 := (ofB hB).2.1
  have hfz := hX.frozen
  have HX := Lib.hid hX
  have hp := hT.pos
  have HT := Lib.hid hT
  rw [e0, map_same]
  clear hT hX hB
  generalize mn l = y at *
  have hP : ∀ (u : Value), Blk ((W.setCell ⟨x, 0, none⟩ u).drew) x 3 [u] ∧ Keeps (Is x) W ((W.setCell ⟨x, 0, none⟩ u).drew) := fun u => ⟨(HX.out.put 0 u).drew, ((Keeps.refl (Is x) W).put1 0 u).drew⟩
  have HP := Lib.hid hP
  clear hP
  rcases Int.lt_trichotomy a y with h | h | h
  · rw [Int.min_eq_left (by omega)]
    go_enter Try.func103, Try.ntmps103
    go_wp2_with fail
    go_region
    go_wp2_with fail
    exact bodyPost_end (v := .tuple #[]) (by simp [results, Try.results103, go_sem]) rfl ⟨rfl, HT.out.keeps (HP.out _).2 (out_is hx), (HP.out _).1, (HP.out _).2.mono fun k e => .inr e⟩
  · subst h
    rw [Int.min_self]
    go_enter Try.func103, Try.ntmps103
    go_wp2_with fail
    go_region
    go_wp2_with fail
    exact bodyPost_end (v := .tuple #[]) (by simp [results, Try.results103, go_sem]) rfl ⟨rfl, HT.out.keeps (HP.out _).2 (out_is hx), (HP.out _).1, (HP.out _).2.mono fun k e => .inr e⟩
  · rw [Int.min_eq_right (by omega)]
    go_enter Try.func103, Try.ntmps103
    go_wp2_with fail
    go_region
    go_wp2_with fail
    exact bodyPost_end (v := .tuple #[]) (by simp [results, Try.results103, go_sem]) rfl ⟨rfl, HT.out.keeps (HP.out _).2 (out_is hx), (HP.out _).1, (HP.out _).2.mono fun k e => .inr e⟩

/-- A sum that has room for a list's. -/
def Room (a : Int) (l : List Int) : Prop := Bds l ∧ -1152921504606846976 + 1099511627776 * (l.length : Int) ≤ a ∧ a ≤ 1152921504606846976 - 1099511627776 * (l.length : Int)
theorem room_left (a : Int) (l r : List Int) (h : Room a (l ++ r)) : Room a l := by
  obtain ⟨h1, h2, h3⟩ := h
  rw [List.length_append] at h2 h3
  exact ⟨h1.left, by omega, by omega⟩
theorem room_right (a : Int) (l r : List Int) (h : Room a (l ++ r)) : Room (a + sm l) r := by
  obtain ⟨h1, h2, h3⟩ := h
  have h4 := sm_bd h1.left
  rw [List.length_append] at h2 h3
  exact ⟨h1.right, by omega, by omega⟩

set_option maxHeartbeats 1000000 in
/-- The function that sums. -/
theorem cl_sum (x : Nat) : Clo 104 x 3 (fun a : Int => [.int .i64 a]) (fun z => z) (fun a l => a + sm l) Room := by
  refine ⟨fun g l a W hT hX hx hn hok => ?_, fun args w => Try.call104 args w, fun a => by simp [sm], fun a l r => by rw [sm_append]; omega, room_left, room_right⟩
  have c0 : W.cell? ⟨x, 0, none⟩ = some (.int .i64 a) := hX.cell 0
  obtain ⟨s, b, p, q, hB⟩ := hT.head
  have c1 := (ofB hB).2.2.1
  have hfz := hX.frozen
  have HX := Lib.hid hX
  have hp := hT.pos
  have HT := Lib.hid hT
  obtain ⟨r1, r2, r3⟩ := hok
  have r4 := sm_bd r1
  obtain ⟨r5, r6⟩ := r4
  have y0 : -1152921504606846976 ≤ a := by omega
  have y1 : a ≤ 1152921504606846976 := by omega
  have y2 : -1152921504606846976 ≤ sm l := by omega
  have y3 : sm l ≤ 1152921504606846976 := by omega
  show Calls _ _ _ _ fun e w' => e = .returned (.tuple #[]) ∧ Tree w' g (l.map fun z => z) ∧ Blk w' x 3 [.int .i64 (a + sm l)] ∧ Keeps (InX g l.length x) W w'
  rw [map_same]
  clear hT hX hB r1 r2 r3 r5 r6
  generalize sm l = y at *
  have hP : ∀ (u : Value), Blk ((W.setCell ⟨x, 0, none⟩ u).drew) x 3 [u] ∧ Keeps (Is x) W ((W.setCell ⟨x, 0, none⟩ u).drew) := fun u => ⟨(HX.out.put 0 u).drew, ((Keeps.refl (Is x) W).put1 0 u).drew⟩
  have HP := Lib.hid hP
  clear hP
  go_enter Try.func104, Try.ntmps104
  go_wp2_with fail
  go_region
  go_wp2_with fail
  exact bodyPost_end (v := .tuple #[]) (by simp [results, Try.results104, go_sem]) rfl ⟨rfl, HT.out.keeps (HP.out _).2 (out_is hx), (HP.out _).1, (HP.out _).2.mono fun k e => .inr e⟩

theorem prt_ne : ∀ (l : List Int) (lo hi : Int), 0 ≤ lo → lo ≤ hi → lo < (l.length : Int) → prt l lo hi ≠ []
  | [], lo, hi, h0, _, h => by simp at h; omega
  | z :: l, lo, hi, h0, h1, h2 => by
    unfold prt
    by_cases h : lo ≤ 0 ∧ 0 ≤ hi
    · rw [if_pos h]; simp
    · rw [if_neg h]
      rw [List.length_cons] at h2
      have := prt_ne l (lo - 1) (hi - 1) (by omega) (by omega) (by omega)
      simpa using this
theorem prt_len (l : List Int) : ∀ (lo hi : Int), (prt l lo hi).length ≤ l.length := by
  induction l with
  | nil => intro lo hi; simp [prt]
  | cons z l ih =>
    intro lo hi
    have := ih (lo - 1) (hi - 1)
    unfold prt
    by_cases h : lo ≤ 0 ∧ 0 ≤ hi
    · rw [if_pos h]; simp; omega
    · rw [if_neg h]; simp; omega

/-- A greatest number. -/
def top64 : Int := 9223372036854775807

/-- What a question leaves. -/
def Asked (g : Nat) (l : List Int) (r : Int) (w : World) (e : Ending) (w' : World) : Prop := e = .returned (.int .i64 r) ∧ Tree w' g l ∧ Keeps (InT g l.length) w w'

theorem keeps_box {g n : Nat} {w w' : World} {o : Obj} (h : Keeps (InX g n w.heap.size) (w.alloc o) w') : Keeps (InT g n) w w' :=
  ⟨h.os, h.tape, h.output, Nat.le_trans (by simp) h.size, fun k hk hs => (h.block k (by simp; omega) (fun e => by
    rcases e with e | e
    · exact hs e
    · omega)).trans (Below.heap_alloc w o k hk)⟩
theorem Tree.box {w : World} {g : Nat} {l : List Int} (h : Tree w g l) (o : Obj) : Tree (w.alloc o) g l := h.keep fun k h1 h2 => Below.heap_alloc w o k (by have := h.lt; omega)

/-- (*node).sumOf. -/
theorem sumOf_any (g : Nat) (l : List Int) (lo hi : Int) (w : World) (hT : Tree w g l) (hn : l.length ≤ 300) (h0 : 0 ≤ lo) (h1 : lo ≤ 1000) (h2 : 0 ≤ hi) (h3 : hi ≤ 1000) :
    Calls Try.prog 84 #[.pointer (some ⟨g, 0, none⟩), .int .i64 lo, .int .i64 hi] w (Asked g l (sm (prt l lo hi)) w) := by
  have hz := hT.lt
  have hl := prt_len l lo hi
  have HV := Lib.hid (visit_any (cl_sum w.heap.size) l.length g l lo hi 0 (w.alloc (.cells #[.int .i64 0] 3)) (Nat.le_refl _) hn (hT.box _) (Blk.new w 3 [.int .i64 0]) (by omega) ⟨prt_bds hT.bds lo hi, by omega, by omega⟩ (by omega) (by omega) (by omega) (by omega))
  have he : mapR (fun z => z) l lo hi = l := mapR_id l lo hi
  rw [he] at HV
  have he2 : (0 : Int) + sm (prt l lo hi) = sm (prt l lo hi) := by omega
  have HV2 : Hid (Calls Try.prog 85 #[.pointer (some ⟨g, 0, none⟩), .int .i64 lo, .int .i64 hi, .func (.func 104) #[] #[.pointer (some ⟨w.heap.size, 0, none⟩)]] (w.alloc (.cells #[.int .i64 0] 3)) (Visited g w.heap.size 3 l.length l [.int .i64 (0 + sm (prt l lo hi))] (w.alloc (.cells #[.int .i64 0] 3)))) := HV
  rw [he2] at HV2
  clear HV he he2 hT
  generalize sm (prt l lo hi) = r at *
  go_enter Try.func84, Try.ntmps84
  go_wp2_with fail
  refine HV2.out.mono ?_
  rintro e w' ⟨rfl, hT, hX, hk⟩
  have c0 : w'.cell? ⟨w.heap.size, 0, none⟩ = some (.int .i64 r) := hX.cell 0
  have HT := Lib.hid hT
  clear hT hX
  go_wp2_with fail
  go_ret
  exact ⟨rfl, HT.out, keeps_box hk⟩

/-- (*node).leastOf. -/
theorem leastOf_any (g : Nat) (l : List Int) (lo hi : Int) (w : World) (hT : Tree w g l) (hn : l.length ≤ 300) (h0 : 0 ≤ lo) (h1 : lo ≤ 1000) (h2 : lo ≤ hi) (h3 : hi ≤ 1000) (h4 : lo < l.length) :
    Calls Try.prog 83 #[.pointer (some ⟨g, 0, none⟩), .int .i64 lo, .int .i64 hi] w (Asked g l (mn (prt l lo hi)) w) := by
  have hz := hT.lt
  have HV := Lib.hid (visit_any (cl_least w.heap.size) l.length g l lo hi top64 (w.alloc (.cells #[.int .i64 top64] 3)) (Nat.le_refl _) hn (hT.box _) (Blk.new w 3 [.int .i64 top64]) (by omega) trivial (by omega) (by omega) (by omega) (by omega))
  have he : mapR (fun z => z) l lo hi = l := mapR_id l lo hi
  rw [he] at HV
  have he2 : accL top64 (prt l lo hi) = mn (prt l lo hi) := by
    unfold accL
    rw [if_neg (prt_ne l lo hi h0 h2 h4)]
    have := mn_bd (prt_bds hT.bds lo hi)
    unfold Bd at this
    unfold top64
    omega
  rw [he2] at HV
  have ht : (9223372036854775807 : Int) = top64 := rfl
  clear he he2 hT
  generalize mn (prt l lo hi) = r at *
  go_enter Try.func83, Try.ntmps83
  go_wp2_with fail
  refine HV.out.mono ?_
  rintro e w' ⟨rfl, hT, hX, hk⟩
  have c0 : w'.cell? ⟨w.heap.size, 0, none⟩ = some (.int .i64 r) := hX.cell 0
  have HT := Lib.hid hT
  clear hT hX
  go_wp2_with fail
  go_ret
  exact ⟨rfl, HT.out, keeps_box hk⟩
end Go.Proofs.Ytefgfkicacbmeaa
