/-
  The small functions of the third chapter's statements: contracts, walked over the translated text. No condition but what each theorem names.
-/
import Derived.Test.YtpkclmfadlkbeaaJ02
import Derived.Test.YtpkclmfadlkbeaaJ01
import Derived.IntWalk
namespace Go.Proofs.Ytpkclmfadlkbeaa
open Go.RowKit Words

theorem int_info : (Try.prog.info? 3).map (fun i => (i.zero, i.size, i.bytes)) = some (some (.int .i64 0), 1, 8) := by kernel_rfl

/-- The number below n that a raw number stands for. -/
def pick (n : Nat) (a : Int) : Nat := (a % (n : Int)).toNat

theorem pick_lt {n : Nat} (h : 0 < n) (a : Int) : pick n a < n := by
  unfold pick
  have h1 := Int.emod_nonneg a (b := (n : Int)) (by omega)
  have h2 := Int.emod_lt_of_pos a (b := (n : Int)) (by omega)
  omega

theorem pick_tmod {n : Nat} (a t : Int) (ht : t = a.tmod n ∨ t = a.tmod n + n) (h0 : 0 ≤ t) (h1 : t < n) : t = (pick n a : Int) := by
  have he : a % (n : Int) = t := by
    have e := Int.mul_tdiv_add_tmod a (n : Int)
    rcases ht with ht | ht
    · rw [← e, ← ht, Int.mul_add_emod_self_left, Int.emod_eq_of_lt h0 h1]
    · have e2 : a = n * (a.tdiv n - 1) + t := by rw [ht, Int.mul_sub]; omega
      rw [e2, Int.mul_add_emod_self_left, Int.emod_eq_of_lt h0 h1]
  unfold pick
  rw [he]
  omega

theorem wf_small (z : Int) (h0 : 0 ≤ z) (h1 : z < 4611686018427387904) : (Lit.int .i64 z).wf = true := by
  simp [Lit.wf, IntKind.min, IntKind.max, IntKind.signed, IntKind.bits]
  omega

/-- damaskkeep.Picked. -/
theorem pick_any (a : Int) (n : Nat) (w : World) (h0 : 0 < n) (hn : n ≤ 4611686018427387904) (ha : (Lit.int .i64 a).wf = true) :
    Calls Try.prog 14 #[.int .i64 a, .int .i64 n] w fun e w' => e = .returned (.int .i64 (pick n a : Nat)) ∧ w = w' := by
  have hb := bounds_i64 ha
  have t1 : a.tmod n < n := Int.tmod_lt_of_pos a (by omega)
  have t2 : -(n : Int) < a.tmod n := Int.lt_tmod_of_pos a (by omega)
  have hp := pick_tmod (n := n) a
  generalize pick n a = k at *
  by_cases h : a.tmod n < 0
  · have e := Lib.hid (hp (a.tmod n + n) (.inr rfl) (by omega) (by omega))
    clear hp
    go_enter Try.func14, Try.ntmps14
    go_wp2
    go_ret
    exact ⟨congrArg Ending.returned (congrArg (Value.int IntKind.i64) e.out), rfl⟩
  · have e := Lib.hid (hp (a.tmod n) (.inl rfl) (by omega) (by omega))
    clear hp
    go_enter Try.func14, Try.ntmps14
    go_wp2
    go_ret
    exact ⟨congrArg Ending.returned (congrArg (Value.int IntKind.i64) e.out), rfl⟩

theorem ints_one (l : List Int) : ∀ u ∈ l.map (Value.int .i64), u.oneCell' = true := by
  intro u hu
  obtain ⟨_, _, rfl⟩ := List.mem_map.1 hu
  rfl

end Go.Proofs.Ytpkclmfadlkbeaa
