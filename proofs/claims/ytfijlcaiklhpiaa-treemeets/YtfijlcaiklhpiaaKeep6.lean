/-
  The small functions of the sixth chapter's statements: contracts, walked over the translated text. No condition but what each theorem names.
-/
import Derived.Test.YtfijlcaiklhpiaaRmqAsk
import Derived.Test.YtfijlcaiklhpiaaKeep3
namespace Go.Proofs.Ytfijlcaiklhpiaa
open Go.RowKit Words

theorem tab_short {l : List Int} (hn : l.length ≤ 300) {rs : List Row} (h : tabOf rs = sparse l) : ∀ r ∈ rs, r.nums.length ≤ 17592186044416 := fun r hr => by
  have h1 : r.nums ∈ tabOf rs := List.mem_map.2 ⟨r, hr, rfl⟩
  rw [h] at h1
  have := sparse_short hn _ h1
  omega

set_option maxHeartbeats 1000000 in
/-- damaskkeep.topped of a range. -/
theorem topped_any (A : Option Addr) (l : List Int) (c a m : Nat) (w : World) (hn : l.length ≤ 300) (hnone : A = none → c = 0) (hL : Lies w w.heap.size A (l.map (.int .i64))) (ha : a + m < l.length) :
    Calls Try.prog 18 #[.slice A l.length c, .int .i64 a, .int .i64 (a + m : Nat)] w fun e w' => e = .returned (.int .i64 (topN (nth l) a m : Nat)) ∧ Below w.heap.size w w' := by
  have HL := Lib.hid hL
  have HC := Lib.hid (fun W hW => copied_any A l c W (by omega) hnone hW)
  have HM := Lib.hid (fun A' c' W hW => rmake_any A' l c' W hn hW)
  have HT := Lib.hid (fun A' c' A2 rs c2 W hW hG hT => top_any A' l c' A2 rs c2 a m W hn hW (tab_short hn hT) hG hT ha)
  have HLen := Lib.hid (show (l.map (Value.int .i64)).length = l.length by simp)
  clear hL hnone
  generalize sparse l = T at *
  generalize topN (nth l) a m = y at *
  generalize a + m = z at *
  generalize hys : l.map (Value.int .i64) = ys at *
  clear hys
  generalize l.length = n at *
  go_enter Try.func18, Try.ntmps18
  go_wp2_with fail
  refine (HC.out _ HL.out).mono ?_
  rintro e w1 ⟨A1, c1, rfl, _, hl1, _, _, hb1⟩
  have HL1 := Lib.hid hl1
  clear hl1
  rw [HLen.out]
  go_wp2_with fail
  refine (HM.out A1 c1 _ HL1.out).mono ?_
  rintro e w2 ⟨A2, rs, c2, rfl, hG2, hT2, _, hb2⟩
  have HG2 := Lib.hid hG2
  have HT2 := Lib.hid hT2
  clear hG2 hT2
  go_wp2_with fail
  refine (HC.out _ (HL.out.on (chain hb1 hb2))).mono ?_
  rintro e w3 ⟨A3, c3, rfl, _, hl3, _, _, hb3⟩
  have HL3 := Lib.hid hl3
  clear hl3
  rw [HLen.out]
  go_wp2_with fail
  refine (HT.out A3 c3 A2 rs c2 _ HL3.out (HG2.out.on hb3) HT2.out).mono ?_
  rintro e w4 ⟨rfl, hb4⟩
  go_wp2_with fail
  go_ret
  exact ⟨rfl, chain (chain (chain hb1 hb2) hb3) hb4⟩
end Go.Proofs.Ytfijlcaiklhpiaa
