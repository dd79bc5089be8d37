/-
  The small functions of the third chapter's statements: contracts, walked over the translated text. No condition but what each theorem names.
-/
import Derived.Test.YthdkhmmehdgonaaPop
import Derived.Test.YthdkhmmehdgonaaMem
import Derived.IntWalk
namespace Go.Proofs.Ythdkhmmehdgonaa
open Go.RowKit Words

theorem int_info : (Try.prog.info? 3).map (fun i => (i.zero, i.size, i.bytes)) = some (some (.int .i64 0), 1, 8) := by kernel_rfl

/-- The number below n that a raw number stands for. -/
def pick (n : Nat) (a : Int) : Nat := (a % (n : Int)).toNat

theorem pick_lt {n : Nat} (h : 0 < n) (a : Int) : pick n a < n := by
  unfold pick
  have h1 := Int.emod_nonneg a (b := (n : Int)) (by omega)
  have h2 := Int.emod_lt_of_pos a (b := (n : Int)) (by omega)
  omega

theorem pick_tmod {n : Nat} (a t : Int) (ht : t = a.tmod n ∨ t = a.tmod n + n) (h0 : 0 ≤ t) (h1 : t < n) : t = (pick n a : Int) := by
  have he : a % (n : Int) = t := by
    have e := Int.mul_tdiv_add_tmod a (n : Int)
    rcases ht with ht | ht
    · rw [← e, ← ht, Int.mul_add_emod_self_left, Int.emod_eq_of_lt h0 h1]
    · have e2 : a = n * (a.tdiv n - 1) + t := by rw [ht, Int.mul_sub]; omega
      rw [e2, Int.mul_add_emod_self_left, Int.emod_eq_of_lt h0 h1]
  unfold pick
  rw [he]
  omega

theorem wf_small (z : Int) (h0 : 0 ≤ z) (h1 : z < 4611686018427387904) : (Lit.int .i64 z).wf = true := by
  simp [Lit.wf, IntKind.min, IntKind.max, IntKind.signed, IntKind.bits]
  omega

/-- damaskkeep.Picked. -/
theorem pick_any (a : Int) (n : Nat) (w : World) (h0 : 0 < n) (hn : n ≤ 4611686018427387904) (ha : (Lit.int .i64 a).wf = true) :
    Calls Try.prog 12 #[.int .i64 a, .int .i64 n] w fun e w' => e = .returned (.int .i64 (pick n a : Nat)) ∧ w = w' := by
  have hb := bounds_i64 ha
  have t1 : a.tmod n < n := Int.tmod_lt_of_pos a (by omega)
  have t2 : -(n : Int) < a.tmod n := Int.lt_tmod_of_pos a (by omega)
  have hp := pick_tmod (n := n) a
  generalize pick n a = k at *
  by_cases h : a.tmod n < 0
  · have e := Lib.hid (hp (a.tmod n + n) (.inr rfl) (by omega) (by omega))
    clear hp
    go_enter Try.func12, Try.ntmps12
    go_wp2
    go_ret
    exact ⟨congrArg Ending.returned (congrArg (Value.int IntKind.i64) e.out), rfl⟩
  · have e := Lib.hid (hp (a.tmod n) (.inl rfl) (by omega) (by omega))
    clear hp
    go_enter Try.func12, Try.ntmps12
    go_wp2
    go_ret
    exact ⟨congrArg Ending.returned (congrArg (Value.int IntKind.i64) e.out), rfl⟩

theorem ints_one (l : List Int) : ∀ u ∈ l.map (Value.int .i64), u.oneCell' = true := by
  intro u hu
  obtain ⟨_, _, rfl⟩ := List.mem_map.1 hu
  rfl

/-- damaskkeep.copied. -/
theorem copied_any (A : Option Addr) (l : List Int) (c : Nat) (w : World) (hn : l.length ≤ 1000000) (hnone : A = none → c = 0) (hL : Lies w w.heap.size A (l.map (.int .i64))) :
    Calls Try.prog 13 #[.slice A l.length c] w (GivesSlice w (l.map (.int .i64))) := by
  have HL := Lib.hid hL
  have HN := Lib.hid hnone
  have HLen := Lib.hid (show (l.map (Value.int .i64)).length = l.length by simp)
  have HT := Lib.hid (ints_one l)
  clear hL hnone
  generalize l.map (Value.int .i64) = ys at *
  generalize l.length = n at *
  go_enter Try.func13, Try.ntmps13
  go_wp2_with (at_builtin; refine append_from _ rfl (.const (.slice none 0 0)) (.tmp 3) 22 rfl w.heap.size 3 (.int .i64 0) 8 Try.underlying22 int_info rfl (.slice none 0 0) 0 [] rfl (World.ownsRow_nil _ _ _ _) A n c ys rfl HLen.out HN.out HL.out HT.out (by simp only [maxLen]; omega) (by omega) (Nat.le_refl _) ?_)
  intro v1 w2 hown1 hg1
  obtain ⟨A', c', rfl, hle1, hlen1, hlies, hnone1, hnew1⟩ := own_slice hown1
  go_wp2
  go_ret
  exact ⟨A', c', by rw [HLen.out]; simp, by rw [HLen.out]; omega, by simpa using hlies, hnone1, hnew1, (Below.refl _ _).grown hg1 (Nat.le_refl _) (fun q hq => by cases hq)⟩

/-- The numbers that a raw list stands for: at most k, each below n. -/
def picks (k n : Nat) (l : List Int) : List Int := (l.take k).map fun a => (pick n a : Int)

theorem picks_length (k n : Nat) (l : List Int) : (picks k n l).length ≤ k := by simp [picks]; omega
theorem picks_lt {n : Nat} (h : 0 < n) (k : Nat) (l : List Int) : ∀ z ∈ picks k n l, 0 ≤ z ∧ z < n := by
  intro z hz
  obtain ⟨a, _, rfl⟩ := List.mem_map.1 hz
  have := pick_lt h a
  omega

/-- What a call that returns a new row of int, its caller's own, leaves. -/
def GivesOwnI (w : World) (l : List Int) (e : Ending) (w' : World) : Prop := ∃ v, e = .returned v ∧ w'.ownsRow w.heap.size 3 1 v l.length (l.map (.int .i64)) ∧ Below w.heap.size w w'

set_option maxHeartbeats 1000000 in
/-- damaskkeep.Numbers. -/
theorem numbers_own (A : Option Addr) (l : List Int) (c k n : Nat) (w : World) (hk : k ≤ 4096) (h0 : 0 < n) (hn : n ≤ 4611686018427387904) (hw : ∀ z ∈ l, (Lit.int .i64 z).wf = true) (hL : Lies w w.heap.size A (l.map (.int .i64))) :
    Calls Try.prog 20 #[.slice A l.length c, .int .i64 k, .int .i64 n] w (GivesOwnI w (picks k n l)) := by
  have HL := Lib.hid hL
  have HWF := Lib.hid hw
  clear hL hw
  generalize hm : l.length = m at *
  have HM := Lib.hid hm
  clear hm
  go_enter Try.func20, Try.ntmps20
  go_wp2
  go_loopw [7, 8] (fun v i w' => ∃ j : Nat, j ≤ min m k ∧ i = .int .i64 j ∧ w'.ownsRow w.heap.size 3 1 v j ((picks j n l).map (.int .i64)) ∧ Below w.heap.size w w') (fun _ i _ => m - (intOf i).toNat)
  case atStart => exact ⟨0, Nat.zero_le _, rfl, World.ownsRow_nil _ _ _ _, Below.refl _ _⟩
  case round =>
    obtain ⟨j, hj, rfl, hown, hbl⟩ := hrel
    have hc1 := bcell hbl
    have hjm : j ≤ m := by omega
    have hjk : j ≤ k := by omega
    clear hj
    by_cases hlt : j < m
    · by_cases hlk : j < k
      · obtain ⟨b, o, x, rfl, hb, hx, hc⟩ := HL.out.at_ (k := j) (by rw [HM.out]; exact hlt)
        have HP := Lib.hid (pick_any x n · h0 hn (HWF.out x (List.mem_of_getElem? hx)))
        have HX := Lib.hid (show (picks (j + 1) n l) = picks j n l ++ [(pick n x : Int)] by unfold picks; rw [List.take_add_one, hx]; simp)
        have hsz := hbl.size
        clear hx
        generalize pick n x = y at *
        go_wp2_with (first
          | (go_at_call 12; refine (HP.out _).mono ?_; rintro e w' ⟨rfl, rfl⟩)
          | (at_builtin; go_loud (refine append_one _ rfl (.tmp 20) (.tmp 27) 22 rfl w.heap.size 3 (.int .i64 0) 8 Try.underlying22 int_info rfl u7 j _ rfl (hown.alloc _) wr.heap.size 1 (.int .i64 y) rfl (by simp) rfl (by simp only [maxLen]; omega) (by omega) (by simp; omega) ?_)))
        intro v1 w2 hown1 hg1
        go_wp2
        go_roundw
        case rel => exact ⟨j + 1, by omega, by go_num, by rw [HX.out, List.map_append, List.map_cons, List.map_nil]; exact hown1, (hbl.alloc hsz _).grown hg1 (by simp; omega) (fun q hq => (hown.lt q hq).1)⟩
        case measure => simp [intOf]; omega
      · obtain rfl : k = j := by omega
        have hlen : (picks k n l).length = k := by have := hown.1; rw [List.length_map] at this; omega
        go_wp2
        go_ret
        exact ⟨_, rfl, by rw [hlen]; exact hown, hbl⟩
    · obtain rfl : m = j := by omega
      have HT : picks m n l = picks k n l := by
        unfold picks
        rw [List.take_of_length_le (by rw [HM.out]; omega), List.take_of_length_le (by rw [HM.out]; omega)]
      rw [HT] at hown
      have hlen : (picks k n l).length = m := by have := hown.1; rw [List.length_map] at this; omega
      clear HT
      go_wp2
      go_ret
      exact ⟨_, rfl, by rw [hlen]; exact hown, hbl⟩

/-- The same, as a slice that lies in memory. -/
theorem numbers_any (A : Option Addr) (l : List Int) (c k n : Nat) (w : World) (hk : k ≤ 4096) (h0 : 0 < n) (hn : n ≤ 4611686018427387904) (hw : ∀ z ∈ l, (Lit.int .i64 z).wf = true) (hL : Lies w w.heap.size A (l.map (.int .i64))) :
    Calls Try.prog 20 #[.slice A l.length c, .int .i64 k, .int .i64 n] w (GivesSlice w ((picks k n l).map (.int .i64))) :=
  (numbers_own A l c k n w hk h0 hn hw hL).mono fun _ _ ⟨v, he, hown, hb⟩ => by
    obtain ⟨A', c', e, hle1, hlen, hlies, hnone, hnew⟩ := own_slice hown
    exact ⟨A', c', by rw [he, e, List.length_map], by rw [List.length_map]; exact hle1, hlies, hnone, hnew, hb⟩
end Go.Proofs.Ythdkhmmehdgonaa
