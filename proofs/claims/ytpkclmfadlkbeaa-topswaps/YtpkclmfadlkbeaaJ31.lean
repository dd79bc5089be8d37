/-
  What copied and points of the third group of statements return: contracts, walked over the translated text. No condition but what each theorem names.
-/
import Derived.Test.YtpkclmfadlkbeaaJ24
import Derived.Test.YtpkclmfadlkbeaaJ09
import Derived.Test.YtpkclmfadlkbeaaJ01
import Derived.Deep.AppendLies
namespace Go.Proofs.Ytpkclmfadlkbeaa
open Go.RowKit Words

theorem sw_info : (Try.prog.info? 30).map (fun i => (i.zero, i.size, i.bytes)) = some (some (.agg #[.int .i64 0, .int .i64 0, .int .i64 0]), 3, 24) := by kernel_rfl
set_option maxHeartbeats 1000000 in
/-- damasktop.points: the list once more. -/
theorem tpoints_any (A : Option Addr) (ps : List Pt3) (c : Nat) (w : World) (hn : ps.length ≤ 1000000) (hnone : A = none → c = 0) (hL : Lies w w.heap.size A (ptC ps)) :
    Calls Try.prog 23 #[.slice A ps.length c] w fun e w' => ∃ A' c', e = .returned (.slice A' ps.length c') ∧ Lies w' w'.heap.size A' (ptC ps) ∧ (A' = none → c' = 0) ∧ Below w.heap.size w w' := by
  have HL := Lib.hid hL
  have HN := Lib.hid hnone
  have HPo := Lib.hid (ptC_one ps)
  have HPl := Lib.hid (ptC_length ps)
  clear hL hnone
  generalize ptC ps = xs at *
  generalize ps.length = n at *
  go_enter Try.func23, Try.ntmps23
  go_wp2_with (at_builtin; go_loud (refine append_recs _ rfl (.const (.slice none 0 0)) (.tmp 3) 22 rfl w.heap.size 30 (.agg #[.int .i64 0, .int .i64 0, .int .i64 0]) 3 24 Try.underlying22 sw_info rfl (by decide) (.slice none 0 0) 0 [] rfl (World.ownsRow_nil _ _ _ _) A n c xs rfl HPl.out HN.out HL.out HPo.out (by simp only [maxLen]; omega) (by omega) (Nat.le_refl _) ?_))
  intro v1 w1 hown hg
  have hb : Below w.heap.size w w1 := ⟨hg.os, hg.tape, hg.output, hg.size, fun k hk => hg.block k hk (by simp [Value.ownBlock])⟩
  obtain ⟨A1, c1, rfl, hl1, hn1, _⟩ := own_slice_all hown
  have HL1 := Lib.hid (show Lies w1 w1.heap.size A1 xs by simpa using hl1)
  have HN1 := Lib.hid hn1
  have HB1 := Lib.hid hb
  clear hown hg hl1 hn1 hb
  go_wp2_with fail
  go_ret
  exact ⟨A1, c1, by first | rfl | simp, HL1.out, HN1.out, HB1.out⟩
set_option maxHeartbeats 1000000 in
/-- damasktop.copied: the list once more. -/
theorem tcopied_any (A : Option Addr) (p : List Nat) (n c : Nat) (w : World) (hp : p.length = n) (hn : n ≤ 1000000) (hnone : A = none → c = 0) (hL : Lies w w.heap.size A (natC p)) :
    Calls Try.prog 17 #[.slice A n c] w fun e w' => ∃ A' c', e = .returned (.slice A' n c') ∧ n ≤ c' ∧ Lies w' w'.heap.size A' (natC p) ∧ (A' = none → c' = 0) ∧ Below w.heap.size w w' := by
  have HL := Lib.hid hL
  have HN := Lib.hid hnone
  have HLen := Lib.hid (show (natC p).length = n by rw [natC_length, hp])
  have HT := Lib.hid (show ∀ u ∈ natC p, u.oneCell' = true from fun u hu => by
    obtain ⟨_, _, rfl⟩ := List.mem_map.1 hu
    rfl)
  clear hL hnone hp
  generalize natC p = ys at *
  go_enter Try.func17, Try.ntmps17
  go_wp2_with (at_builtin; go_loud (refine append_from _ rfl (.const (.slice none 0 0)) (.tmp 3) 31 rfl w.heap.size 3 (.int .i64 0) 8 Try.underlying31 int_info rfl (.slice none 0 0) 0 [] rfl (World.ownsRow_nil _ _ _ _) A n c ys rfl HLen.out HN.out HL.out HT.out (by simp only [maxLen]; omega) (by omega) (Nat.le_refl _) ?_))
  intro v1 w2 hown1 hg1
  have hb : Below w.heap.size w w2 := (Below.refl _ _).grown hg1 (Nat.le_refl _) (fun q hq => by cases hq)
  obtain ⟨A1, c1, rfl, hle1, _, hl1, hn1, _⟩ := own_slice hown1
  have H1 := Lib.hid (show n ≤ c1 by omega)
  have HL1 := Lib.hid (show Lies w2 w2.heap.size A1 ys by simpa using hl1)
  have HN1 := Lib.hid hn1
  have HB1 := Lib.hid hb
  clear hown1 hg1 hle1 hl1 hn1 hb
  go_wp2_with fail
  go_ret
  exact ⟨A1, c1, by first | rfl | simp, H1.out, HL1.out, HN1.out, HB1.out⟩
end Go.Proofs.Ytpkclmfadlkbeaa
