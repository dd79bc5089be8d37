/-
  What the reader of package gam returns: contracts, walked over the translated text. No condition but what each theorem names.
-/
import Derived.Test.YtelcnkmgdohigaaGamDec
namespace Go.Proofs.Ytelcnkmgdohigaa
open Go.RowKit Words

/-- What a call that reads leaves: T is the number, the error, the bits behind. -/
def Reads (w : World) (g m : Nat) (A : Option Addr) (k c : Nat) (L : List Bool) (T : Nat × Nat × List Bool) (e : Ending) (w' : World) : Prop :=
  ∃ p, e = .returned (.tuple #[.int .i64 T.1, .int .i64 T.2.1]) ∧ p ≤ m ∧ Blk w' g 53 (rbox m A k c p) ∧ (T.2.1 = 0 → T.2.2 = L.drop p) ∧ w.grownBy w' (some g)

theorem bool_val (x : Bool) (y : Nat) : 2 * y + x.toNat = if x then 2 * y + 1 else 2 * y := by cases x <;> rfl

set_option maxHeartbeats 2000000 in
/-- reader.digits. -/
theorem rdig_any (g m p q : Nat) (A : Option Addr) (ws : List Nat) (c : Nat) (w : World) (hV : Valid m ws) (hB : Blk w g 53 (rbox m A ws.length c p)) (hW : Words64 w g A ws) (hp : p ≤ m) (hq : q ≤ 21) :
    Calls Try.prog 42 #[.pointer (some ⟨g, 0, none⟩), .int .i64 q] w (Reads w g m A ws.length c (rowBits m ws) (digs q ((rowBits m ws).drop p))) := by
  have hlt := hB.lt
  have hm := hV.hi
  have HI := Lib.hid (fun p W hB hW hp => rbit_in g m p A ws c W hV hB hW hp)
  have HE := Lib.hid (fun W hB hW => rbit_end g m A ws c W hV hB hW)
  have HW := Lib.hid hW
  have HB := Lib.hid hB
  have hlen : ((rowBits m ws).drop p).length = m - p := by rw [List.length_drop, rowBits_length]
  have hget : ∀ j, p + j < m → ((rowBits m ws).drop p)[j]? = some (bit ws (p + j)) := fun j h => by rw [List.getElem?_drop]; exact rowBits_get m ws _ h
  have hdd : ∀ j, ((rowBits m ws).drop p).drop j = (rowBits m ws).drop (p + j) := fun j => by rw [List.drop_drop]
  have HGet := Lib.hid hget
  have HLen := Lib.hid hlen
  have HDD := Lib.hid hdd
  clear hV hW hget hlen hB hdd
  generalize ws.length = k at *
  generalize hR : (rowBits m ws).drop p = R at *
  clear hR
  go_enter Try.func42, Try.ntmps42
  go_wp2
  go_loopw [6, 10] (fun n i w' => ∃ j : Nat, j ≤ q ∧ p + j ≤ m ∧ i = .int .i64 j ∧ n = .int .i64 (val (R.take j)) ∧ Blk w' g 53 (rbox m A k c (p + j)) ∧ w.grownBy w' (some g)) (fun _ i _ => q - (intOf i).toNat)
  case atStart => exact ⟨0, Nat.zero_le _, by omega, rfl, by simp [val], HB.out, gb_refl _ _⟩
  case round =>
    obtain ⟨j, hj, hpj, rfl, rfl, hB, hg⟩ := hrel
    have hv := (val_lt (R.take j)).1
    have hvb : val (R.take j) < 4194304 := Nat.lt_of_lt_of_le hv (Nat.pow_le_pow_right (n := 2) (j := 22) (by decide) (by rw [List.length_take]; omega))
    have HWr := Lib.hid (gb_words HW.out hg (Nat.le_of_lt hlt))
    clear hv
    by_cases hlq : j < q
    · by_cases hpm : p + j < m
      · have HX := Lib.hid (show val (R.take (j + 1)) = 2 * val (R.take j) + (bit ws (p + j)).toNat by rw [List.take_add_one, HGet.out j hpm]; exact val_snoc _ _)
        have HC := Lib.hid (HI.out (p + j) wr hB HWr.out hpm)
        generalize val (R.take j) = y at *
        generalize bit ws (p + j) = x at *
        go_wp2_with fail
        refine HC.out.mono ?_
        rintro e w2 ⟨rfl, hB2, hg2⟩
        have HB2 := Lib.hid hB2
        clear hB hB2
        cases x
        all_goals
          go_wp2
          go_roundw
          case rel => exact ⟨j + 1, by omega, by omega, by go_num, by rw [HX.out]; go_num, HB2.out, gb_trans hg hg2⟩
          case measure => simp [intOf]; omega
      · obtain rfl : m = p + j := by omega
        have HC := Lib.hid (HE.out wr hB HWr.out)
        have HT := Lib.hid (show digs q R = (0, 5, []) by unfold digs; rw [if_pos (by rw [HLen.out]; omega)])
        generalize val (R.take j) = y at *
        go_wp2_with fail
        refine HC.out.mono ?_
        rintro e w2 ⟨rfl, hB2, hg2⟩
        go_wp2
        go_ret2
        rw [HT.out]
        exact ⟨p + j, rfl, Nat.le_refl _, hB2, (fun h => by simp at h), gb_trans hg hg2⟩
    · obtain rfl : j = q := by omega
      have HT := Lib.hid (show digs j R = (val (R.take j), 0, R.drop j) by unfold digs; rw [if_neg (by rw [HLen.out]; omega)])
      have HD := Lib.hid (HDD.out j)
      generalize val (R.take j) = y at *
      go_wp2
      go_ret2
      rw [HT.out]
      exact ⟨p + j, rfl, hpj, hB, fun _ => HD.out, hg⟩

set_option maxHeartbeats 2000000 in
/-- reader.gamma. -/
theorem rgam_any (g m p : Nat) (A : Option Addr) (ws : List Nat) (c : Nat) (w : World) (hV : Valid m ws) (hB : Blk w g 53 (rbox m A ws.length c p)) (hW : Words64 w g A ws) (hp : p ≤ m) :
    Calls Try.prog 41 #[.pointer (some ⟨g, 0, none⟩)] w (Reads w g m A ws.length c (rowBits m ws) (gnext ((rowBits m ws).drop p))) := by
  have hlt := hB.lt
  have hm := hV.hi
  have HI := Lib.hid (fun p W hB hW hp => rbit_in g m p A ws c W hV hB hW hp)
  have HE := Lib.hid (fun W hB hW => rbit_end g m A ws c W hV hB hW)
  have HD := Lib.hid (fun p q W hB hW hp hq => rdig_any g m p q A ws c W hV hB hW hp hq)
  have HW := Lib.hid hW
  have HB := Lib.hid hB
  have HDr := Lib.hid (fun j h => rowBits_drop m ws j h)
  have HNil := Lib.hid (show (rowBits m ws).drop m = [] from List.drop_of_length_le (by rw [rowBits_length]; omega))
  clear hV hW hB
  generalize ws.length = k at *
  generalize rowBits m ws = L at *
  have HG0 := Lib.hid (show gnextA 21 0 (L.drop p) = gnext (L.drop p) from rfl)
  generalize gnext (L.drop p) = T at *
  go_enter Try.func41, Try.ntmps41
  go_wp2
  go_loopw [7] (fun i w' => ∃ j : Nat, j ≤ 21 ∧ p + j ≤ m ∧ i = .int .i64 j ∧ gnextA (21 - j) j (L.drop (p + j)) = T ∧ Blk w' g 53 (rbox m A k c (p + j)) ∧ w.grownBy w' (some g)) (fun i _ => 21 - (intOf i).toNat)
  case atStart => exact ⟨0, Nat.zero_le _, by omega, rfl, HG0.out, HB.out, gb_refl _ _⟩
  case round =>
    obtain ⟨j, hj, hpj, rfl, hT, hB, hg⟩ := hrel
    have HWr := Lib.hid (gb_words HW.out hg (Nat.le_of_lt hlt))
    have HT := Lib.hid hT
    clear hT
    by_cases hlq : j < 21
    · obtain ⟨f, hf⟩ : ∃ f, 21 - j = f + 1 := ⟨20 - j, by omega⟩
      rw [hf] at HT
      by_cases hpm : p + j < m
      · have HC := Lib.hid (HI.out (p + j) wr hB HWr.out hpm)
        rw [HDr.out (p + j) hpm] at HT
        have hf2 : f = 21 - (j + 1) := by omega
        clear hf
        generalize bit ws (p + j) = x at *
        cases x
        · have HT2 := Lib.hid (show gnextA f (j + 1) (L.drop (p + j + 1)) = T from HT.out)
          go_wp2_with fail
          refine HC.out.mono ?_
          rintro e w2 ⟨rfl, hB2, hg2⟩
          have HB2 := Lib.hid hB2
          clear hB hB2
          go_wp2
          go_roundw
          case rel => exact ⟨j + 1, by omega, by omega, by go_num, by rw [← hf2]; exact HT2.out, HB2.out, gb_trans hg hg2⟩
          case measure => simp [intOf]; omega
        · have HT2 := Lib.hid (show digs j (L.drop (p + j + 1)) = T from HT.out)
          go_wp2_with fail
          refine HC.out.mono ?_
          rintro e w2 ⟨rfl, hB2, hg2⟩
          have hlt2 : g < w2.heap.size := hB2.lt
          have HC2 := Lib.hid (HD.out (p + j + 1) j w2 hB2 (gb_words HW.out (gb_trans hg hg2) (Nat.le_of_lt hlt)) (by omega) (by omega))
          rw [HT2.out] at HC2
          go_wp2_with fail
          refine HC2.out.mono ?_
          rintro e w3 ⟨p3, rfl, hp3, hB3, hr3, hg3⟩
          go_wp2
          go_ret2
          exact ⟨p3, rfl, hp3, hB3, hr3, gb_trans (gb_trans hg hg2) hg3⟩
      · obtain rfl : m = p + j := by omega
        have HC := Lib.hid (HE.out wr hB HWr.out)
        rw [HNil.out] at HT
        have HT2 := Lib.hid (show ((0, 5, []) : Nat × Nat × List Bool) = T from HT.out)
        clear hf
        go_wp2_with fail
        refine HC.out.mono ?_
        rintro e w2 ⟨rfl, hB2, hg2⟩
        go_wp2
        go_ret2
        rw [← HT2.out]
        exact ⟨p + j, rfl, Nat.le_refl _, hB2, (fun h => by simp at h), gb_trans hg hg2⟩
    · obtain rfl : j = 21 := by omega
      have HT2 := Lib.hid (show ((0, 2, []) : Nat × Nat × List Bool) = T from HT.out)
      go_wp2
      go_ret2
      rw [← HT2.out]
      exact ⟨p + 21, rfl, hpj, hB, (fun h => by simp at h), hg⟩

theorem gnextA_zero : ∀ (f z : Nat) (l : List Bool), (gnextA f z l).2.1 ≠ 0 → (gnextA f z l).1 = 0 ∧ (gnextA f z l).2.2 = []
  | 0, _, _, _ => by simp [gnextA]
  | _ + 1, _, [], _ => by simp [gnextA]
  | f + 1, z, true :: r, h => by
    rw [gnextA] at *
    unfold digs at *
    split at h
    · rename_i h2; rw [if_pos h2]; exact ⟨rfl, rfl⟩
    · exact absurd rfl h
  | f + 1, z, false :: r, h => by
    rw [gnextA] at *
    exact gnextA_zero f (z + 1) r h

set_option maxHeartbeats 2000000 in
/-- reader.number. -/
theorem rnum_any (g m p kind : Nat) (A : Option Addr) (ws : List Nat) (c : Nat) (w : World) (hk : kind = 1 ∨ kind = 2) (hV : Valid m ws) (hB : Blk w g 53 (rbox m A ws.length c p)) (hW : Words64 w g A ws) (hp : p ≤ m) :
    Calls Try.prog 31 #[.pointer (some ⟨g, 0, none⟩), .int .i64 kind] w (Reads w g m A ws.length c (rowBits m ws) (number kind ((rowBits m ws).drop p))) := by
  have hlt := hB.lt
  have HG := Lib.hid (rgam_any g m p A ws c w hV hB hW hp)
  have HD := Lib.hid (fun p q W hB hW hp hq => rdig_any g m p q A ws c W hV hB hW hp hq)
  have HW := Lib.hid hW
  have hbd := gnext_bound ((rowBits m ws).drop p)
  have hpos := gnext_pos (l := (rowBits m ws).drop p)
  have hz := gnextA_zero 21 0 ((rowBits m ws).drop p)
  have HN := Lib.hid (show number kind ((rowBits m ws).drop p) = if (gnext ((rowBits m ws).drop p)).2.1 ≠ 0 then (0, (gnext ((rowBits m ws).drop p)).2.1, []) else if kind = 1 then gnext ((rowBits m ws).drop p) else if 21 < (gnext ((rowBits m ws).drop p)).1 then (0, 2, []) else digs ((gnext ((rowBits m ws).drop p)).1 - 1) (gnext ((rowBits m ws).drop p)).2.2 from rfl)
  change (gnext _).2.1 ≠ 0 → (gnext _).1 = 0 ∧ _ at hz
  generalize number kind ((rowBits m ws).drop p) = NN at *
  clear hV hW hB
  generalize ws.length = k at *
  generalize rowBits m ws = L at *
  generalize gnext (L.drop p) = T at *
  obtain ⟨n, er, R⟩ := T
  simp only at hbd hpos hz HN
  by_cases he : er = 0
  · subst he
    have hpos := hpos rfl
    rw [if_neg (by simp)] at HN
    clear hz
    rcases hk with rfl | rfl
    · rw [if_pos rfl] at HN
      go_enter Try.func31, Try.ntmps31
      go_wp2_with fail
      refine HG.out.mono ?_
      rintro e w1 ⟨p1, rfl, hp1, hB1, hr1, hg1⟩
      go_wp2
      go_ret2
      rw [HN.out]
      exact ⟨p1, rfl, hp1, hB1, (fun _ => hr1 (by trivial)), hg1⟩
    · rw [if_neg (by decide)] at HN
      by_cases hn : 21 < n
      · rw [if_pos hn] at HN
        go_enter Try.func31, Try.ntmps31
        go_wp2_with fail
        refine HG.out.mono ?_
        rintro e w1 ⟨p1, rfl, hp1, hB1, hr1, hg1⟩
        go_wp2
        go_ret2
        rw [HN.out]
        exact ⟨p1, rfl, hp1, hB1, (fun h => by simp at h), hg1⟩
      · rw [if_neg hn] at HN
        obtain ⟨q, rfl⟩ : ∃ q, n = q + 1 := ⟨n - 1, by omega⟩
        rw [Nat.add_sub_cancel] at HN
        go_enter Try.func31, Try.ntmps31
        go_wp2_with fail
        refine HG.out.mono ?_
        rintro e w1 ⟨p1, rfl, hp1, hB1, hr1, hg1⟩
        have hR : R = L.drop p1 := hr1 rfl
        have HC := Lib.hid (HD.out p1 q w1 hB1 (gb_words HW.out hg1 (Nat.le_of_lt hlt)) hp1 (by omega))
        rw [← hR, ← HN.out] at HC
        clear hR hr1
        go_wp2_with fail
        refine HC.out.mono ?_
        rintro e w2 ⟨p2, rfl, hp2, hB2, hr2, hg2⟩
        go_wp2
        go_ret2
        exact ⟨p2, rfl, hp2, hB2, hr2, gb_trans hg1 hg2⟩
  · rw [if_pos he] at HN
    obtain ⟨rfl, hR⟩ := hz he
    have hne : ((er : Int) != 0) = true := by simp; omega
    clear hpos hR hk
    go_enter Try.func31, Try.ntmps31
    go_wp2_with fail
    refine HG.out.mono ?_
    rintro e w1 ⟨p1, rfl, hp1, hB1, hr1, hg1⟩
    go_wp2
    go_ret2
    rw [HN.out]
    exact ⟨p1, rfl, hp1, hB1, (fun h => absurd h he), hg1⟩
end Go.Proofs.Ytelcnkmgdohigaa
