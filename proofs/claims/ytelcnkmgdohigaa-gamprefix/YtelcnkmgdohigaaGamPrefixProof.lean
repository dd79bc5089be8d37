/-
  For all numbers kind, a and c: of two numbers brought into 1 to 1048576, the code (gamma or delta) that Go's gam.Encode makes of the smaller is no longer than the other's and, read bit by bit with bits.At, does not begin it, but where both numbers are the same.
  No condition.
-/
import Derived.Test.YtelcnkmgdohigaaRows
import Derived.Test.YtelcnkmgdohigaaFrame
import Derived.Test.YtelcnkmgdohigaaGamKp
import Derived.Test.YtelcnkmgdohigaaKeep4
import Derived.WalkKit
import Derived.ProofKit
import Derived.OpenShut
import Derived.ChangeOld
import Derived.Below
import Derived.Carry
import Derived.SizedLaws
import Derived.Deep.RegionWith
import Derived.Deep.RegionHeld3
namespace Go.Proofs.Ytelcnkmgdohigaa.gamPrefix
open Go.ChangeShapes Go.WideShapes Go.ChangeAt Go.RowKit Words
set_option linter.unusedVariables false

theorem own : ownKnob Try.prog.godebug = none := by kernel_rfl
theorem laidOut : laidOutB Try.prog = true := by kernel_rfl
theorem enc_one (k n : Nat) (A : Option Addr) (c : Nat) (w : World) (hk : k = 1 ∨ k = 2) (hn : n < 1048576) (hL : Lies w w.heap.size A [.int .i64 (1 + (n : Int))]) :
    Calls Try.prog 9 #[.int .i64 k, .slice A 1 c] w (GivesBits w (codeOf k (1 + n)).length (rowOf (codeOf k (1 + n)))) := by
  have e : codes k [1 + n] = codeOf k (1 + n) := by simp [codes]
  have h := enc_good k [1 + n] A c w hk (by intro x hx; simp at hx; omega) (by simp) (by simpa [asInts] using hL)
  rw [e] at h
  exact h

/-- Where all bits of the one are those of the other, the numbers are the same. -/
theorem prefix_bits (k m n : Nat) (hm : m < 1048576) (hn : n < 1048576) (h : ∀ t, t < (codeOf k (1 + m)).length → bit (rowOf (codeOf k (1 + m))) t = bit (rowOf (codeOf k (1 + n))) t) (hl : (codeOf k (1 + m)).length ≤ (codeOf k (1 + n)).length) : m = n := by
  have e : codeOf k (1 + n) = codeOf k (1 + m) ++ (codeOf k (1 + n)).drop (codeOf k (1 + m)).length := by
    have ht : (codeOf k (1 + n)).take (codeOf k (1 + m)).length = codeOf k (1 + m) := by
      apply List.ext_getElem?
      intro i
      by_cases hi : i < (codeOf k (1 + m)).length
      · have hb := h i hi
        rw [rowOf_bit _ i (by omega), rowOf_bit _ i (by omega), List.getD, List.getD, List.getElem?_eq_getElem hi, List.getElem?_eq_getElem (by omega)] at hb
        rw [List.getElem?_take, if_pos hi, List.getElem?_eq_getElem hi, List.getElem?_eq_getElem (by omega)]
        exact congrArg some hb.symm
      · rw [List.getElem?_eq_none (by rw [List.length_take]; omega), List.getElem?_eq_none (by omega)]
    have := (List.take_append_drop (codeOf k (1 + m)).length (codeOf k (1 + n))).symm
    rw [ht] at this
    exact this
  have := prefix_free k (m := 1 + m) (n := 1 + n) ⟨by omega, by omega⟩ ⟨by omega, by omega⟩ _ e
  omega


set_option maxHeartbeats 1000000 in
/-- The walk: the Go text returns true, and writes nothing that was there. -/
theorem walk (a0 : Int) (a1 : Int) (a2 : Int) (w : World) (w0 : (Lit.int .i64 a0).wf = true) (w1 : (Lit.int .i64 a1).wf = true) (w2 : (Lit.int .i64 a2).wf = true) :
    Calls Try.prog 7 #[.int .i64 a0, .int .i64 a1, .int .i64 a2] w fun e w' => e = .returned (.bool true) ∧ Below w.heap.size w w' := by
  have HKd := Lib.hid (kindOf_any a0 · w0)
  have hk : 1 + pick 2 a0 = 1 ∨ 1 + pick 2 a0 = 2 := by have := pick_lt (n := 2) (by decide) a0; omega
  generalize 1 + pick 2 a0 = k at *
  have HP1 := Lib.hid (pick_any a1 1048576 · (by decide) (by decide) w1)
  have HP2 := Lib.hid (pick_any a2 1048576 · (by decide) (by decide) w2)
  have hm := pick_lt (n := 1048576) (by decide) a1
  have hn := pick_lt (n := 1048576) (by decide) a2
  generalize pick 1048576 a1 = m at *
  generalize pick 1048576 a2 = n at *
  clear w0 w1 w2
  rcases Nat.lt_trichotomy m n with hle | rfl | hle
  ·
    have HX := Lib.hid (fun A c W h => enc_one k m A c W hk (by omega) h)
    have HY := Lib.hid (fun A c W h => enc_one k n A c W hk (by omega) h)
    have l1 := codeOf_length k (n := 1 + m) (by omega) (by omega)
    have l2 := codeOf_length k (n := 1 + n) (by omega) (by omega)
    have hmono := costOf_mono k (a := 1 + m) (b := 1 + n) (by omega) (by omega) (by omega)
    have hlo := (costOf_bound k (n := 1 + m) (by omega) (by omega)).1
    have hhi := (costOf_bound k (n := 1 + n) (by omega) (by omega)).2
    have HPre := Lib.hid (fun h => prefix_bits k m n (by omega) (by omega) h (by omega))
    have hv1 := rowOf_valid (codeOf k (1 + m)) (by omega)
    have hv2 := rowOf_valid (codeOf k (1 + n)) (by omega)
    rw [l1] at HX hv1 HPre
    rw [l2] at HY hv2
    generalize rowOf (codeOf k (1 + m)) = xs at *
    generalize rowOf (codeOf k (1 + n)) = ys at *
    generalize costOf k (1 + m) = lx at *
    generalize costOf k (1 + n) = ly at *
    have HAx := Lib.hid (fun i A c W (h : Words64 W W.heap.size A xs) (hi : i < lx) => at_in lx i A xs c W hv1 h hi)
    have HAy := Lib.hid (fun i A c W (h : Words64 W W.heap.size A ys) (hi : i < ly) => at_in ly i A ys c W hv2 h hi)
    clear hv1 hv2 l1 l2 hk
    have hd1 : decide ((lx : Int) < 1) = false := by simp; omega
    have hd2 : decide (ly < lx) = false := by simp; omega

    go_enter Try.func7, Try.ntmps7
    go_wp2_with fail
    refine (HKd.out _).mono ?_
    rintro e w' ⟨rfl, rfl⟩
    go_wp2_with fail
    refine (HP1.out _).mono ?_
    rintro e w' ⟨rfl, rfl⟩
    go_wp2_with fail
    refine (HP2.out _).mono ?_
    rintro e w' ⟨rfl, rfl⟩
    go_wp2_with fail
    refine (HX.out (some ⟨w.heap.size, 0, none⟩) 1 _ (by simpa using (Blk.new w 3 [.int .i64 (1 + (m : Int))]).lies)).mono ?_
    rintro e w1 ⟨A1, c1, rfl, hW1, _, hb1⟩
    have HW1 := Lib.hid hW1
    clear hW1
    go_wp2_with fail
    refine (HY.out (some ⟨_, 0, none⟩) 1 _ ?_).mono ?_
    · simpa using (Blk.new (w1.alloc (.cells #[.int .i64 lx, .slice A1 xs.length c1] 25)) 3 [.int .i64 (1 + (n : Int))]).lies
    rintro e w2 ⟨A2, c2, rfl, hW2, _, hb2⟩
    have hs2 := hb2.size
    simp only [World.alloc, Array.size_push] at hs2
    have hbox1 : Blk (w2.alloc (.cells #[.int .i64 ly, .slice A2 ys.length c2] 25)) w1.heap.size 25 [.int .i64 lx, .slice A1 xs.length c1] := (((Blk.new w1 25 [.int .i64 lx, .slice A1 xs.length c1]).alloc _).below hb2 (by simp; omega)).alloc _
    have hbox2 : Blk (w2.alloc (.cells #[.int .i64 ly, .slice A2 ys.length c2] 25)) w2.heap.size 25 [.int .i64 ly, .slice A2 ys.length c2] := Blk.new w2 25 [.int .i64 ly, .slice A2 ys.length c2]
    have r10 : w2.cell? ⟨w1.heap.size, 0, none⟩ = some (.int .i64 lx) := (((Blk.new w1 25 [.int .i64 lx, .slice A1 xs.length c1]).alloc _).below hb2 (by simp; omega)).cell 0
    have hz : w1.heap.size < w2.heap.size := by omega
    have HV1 := Lib.hid ((((HW1.out.alloc _).alloc _).on hb2).alloc (.cells #[.int .i64 ly, .slice A2 ys.length c2] 25))
    have HV2 := Lib.hid (hW2.alloc (.cells #[.int .i64 ly, .slice A2 ys.length c2] 25))
    have HB2 := Lib.hid (chain (chain (chain (chain (chain (bnew w (.cells #[.int .i64 (1 + (m : Int))] 3)) hb1) (bnew w1 _)) (bnew _ _)) hb2) (bnew w2 (.cells #[.int .i64 ly, .slice A2 ys.length c2] 25)))
    clear hb1 hb2 hW2 HW1 hs2 HX HY HP1 HP2 HKd
    go_wp2_with fail
    clear r10
    generalize w2.alloc (.cells #[.int .i64 ly, .slice A2 ys.length c2] 25) = w3 at *
    generalize w1.heap.size = g1 at *
    generalize w2.heap.size = g2 at *
    go_loopw [14] (fun i w' => ∃ j : Nat, j ≤ lx ∧ i = .int .i64 j ∧ (∀ t, t < j → bit xs t = bit ys t) ∧ Below w3.heap.size w3 w') (fun i _ => lx - (intOf i).toNat)
    case atStart => exact ⟨0, Nat.zero_le _, rfl, (fun t ht => by omega), Below.refl _ _⟩
    case round =>
      obtain ⟨j, hj, rfl, hsame, hbl⟩ := hrel
      have HSm := Lib.hid hsame
      have h1 := hbox1.below hbl hbox1.lt
      have q0 : wr.cell? ⟨g1, 0, none⟩ = some (.int .i64 lx) := h1.cell 0
      have q1 : wr.cell? ⟨g1, 1, none⟩ = some (.slice A1 xs.length c1) := h1.cell 1
      clear hsame h1
      by_cases hlt : j < lx
      · go_wp2_with fail
        refine (HAx.out j A1 c1 _ (by exact HV1.out.on hbl) hlt).mono ?_
        rintro e w4 ⟨rfl, hb4⟩
        have hbl4 := chain hbl hb4
        have h2 := hbox2.below hbl4 hbox2.lt
        have s0 : w4.cell? ⟨g2, 0, none⟩ = some (.int .i64 ly) := h2.cell 0
        have s1 : w4.cell? ⟨g2, 1, none⟩ = some (.slice A2 ys.length c2) := h2.cell 1
        clear h2 q0 q1 hbl hb4
        go_wp2_with fail
        refine (HAy.out j A2 c2 _ (by exact HV2.out.on hbl4) (by omega)).mono ?_
        rintro e w5 ⟨rfl, hb5⟩
        have HB5 := Lib.hid (chain hbl4 hb5)
        clear hbl4 hb5 s0 s1
        by_cases hbb : bit xs j = bit ys j
        · have HS2 := Lib.hid (show ∀ t, t < j + 1 → bit xs t = bit ys t from fun t ht => by
            by_cases e : t = j
            · rw [e]; exact hbb
            · exact HSm.out t (by omega))
          rw [hbb]
          clear hbb
          generalize bit ys j = v at *
          have hvv : (v != v) = false := by simp
          cases v
          all_goals
            go_wp2
            go_roundw
            case rel => exact ⟨j + 1, by omega, by go_num, HS2.out, HB5.out⟩
            case measure => simp [intOf]; omega
        · generalize bit xs j = u at *
          generalize bit ys j = v at *
          cases u <;> cases v
          · exact absurd rfl hbb
          · clear hbb
            go_wp2
            go_ret
            exact ⟨rfl, chain HB2.out HB5.out⟩
          · clear hbb
            go_wp2
            go_ret
            exact ⟨rfl, chain HB2.out HB5.out⟩
          · exact absurd rfl hbb
      · obtain rfl : j = lx := by omega
        have hpe : m = n := HPre.out HSm.out
        have hmn : (1 + (m : Int) == 1 + (n : Int)) = true := by simp; omega
        have hmn2 : ((m : Int) == (n : Int)) = true := by simp; omega
        clear hpe
        go_wp2
        go_ret
        exact ⟨rfl, chain HB2.out hbl⟩
  ·
    have HX := Lib.hid (fun A c W h => enc_one k m A c W hk (by omega) h)
    have l1 := codeOf_length k (n := 1 + m) (by omega) (by omega)
    have hlo := (costOf_bound k (n := 1 + m) (by omega) (by omega)).1
    have hhi := (costOf_bound k (n := 1 + m) (by omega) (by omega)).2
    have hv1 := rowOf_valid (codeOf k (1 + m)) (by omega)
    rw [l1] at HX hv1
    generalize rowOf (codeOf k (1 + m)) = xs at *
    generalize costOf k (1 + m) = lx at *
    have HY := HX
    have HAx := Lib.hid (fun i A c W (h : Words64 W W.heap.size A xs) (hi : i < lx) => at_in lx i A xs c W hv1 h hi)
    have HAy := HAx
    clear hv1 l1 hk
    have hd1 : decide ((lx : Int) < 1) = false := by simp; omega
    have hd2 : decide (lx < lx) = false := by simp

    go_enter Try.func7, Try.ntmps7
    go_wp2_with fail
    refine (HKd.out _).mono ?_
    rintro e w' ⟨rfl, rfl⟩
    go_wp2_with fail
    refine (HP1.out _).mono ?_
    rintro e w' ⟨rfl, rfl⟩
    go_wp2_with fail
    refine (HP2.out _).mono ?_
    rintro e w' ⟨rfl, rfl⟩
    go_wp2_with fail
    refine (HX.out (some ⟨w.heap.size, 0, none⟩) 1 _ (by simpa using (Blk.new w 3 [.int .i64 (1 + (m : Int))]).lies)).mono ?_
    rintro e w1 ⟨A1, c1, rfl, hW1, _, hb1⟩
    have HW1 := Lib.hid hW1
    clear hW1
    go_wp2_with fail
    refine (HY.out (some ⟨_, 0, none⟩) 1 _ ?_).mono ?_
    · simpa using (Blk.new (w1.alloc (.cells #[.int .i64 lx, .slice A1 xs.length c1] 25)) 3 [.int .i64 (1 + (m : Int))]).lies
    rintro e w2 ⟨A2, c2, rfl, hW2, _, hb2⟩
    have hs2 := hb2.size
    simp only [World.alloc, Array.size_push] at hs2
    have hbox1 : Blk (w2.alloc (.cells #[.int .i64 lx, .slice A2 xs.length c2] 25)) w1.heap.size 25 [.int .i64 lx, .slice A1 xs.length c1] := (((Blk.new w1 25 [.int .i64 lx, .slice A1 xs.length c1]).alloc _).below hb2 (by simp; omega)).alloc _
    have hbox2 : Blk (w2.alloc (.cells #[.int .i64 lx, .slice A2 xs.length c2] 25)) w2.heap.size 25 [.int .i64 lx, .slice A2 xs.length c2] := Blk.new w2 25 [.int .i64 lx, .slice A2 xs.length c2]
    have r10 : w2.cell? ⟨w1.heap.size, 0, none⟩ = some (.int .i64 lx) := (((Blk.new w1 25 [.int .i64 lx, .slice A1 xs.length c1]).alloc _).below hb2 (by simp; omega)).cell 0
    have hz : w1.heap.size < w2.heap.size := by omega
    have HV1 := Lib.hid ((((HW1.out.alloc _).alloc _).on hb2).alloc (.cells #[.int .i64 lx, .slice A2 xs.length c2] 25))
    have HV2 := Lib.hid (hW2.alloc (.cells #[.int .i64 lx, .slice A2 xs.length c2] 25))
    have HB2 := Lib.hid (chain (chain (chain (chain (chain (bnew w (.cells #[.int .i64 (1 + (m : Int))] 3)) hb1) (bnew w1 _)) (bnew _ _)) hb2) (bnew w2 (.cells #[.int .i64 lx, .slice A2 xs.length c2] 25)))
    clear hb1 hb2 hW2 HW1 hs2 HX HY HP1 HP2 HKd
    go_wp2_with fail
    clear r10
    generalize w2.alloc (.cells #[.int .i64 lx, .slice A2 xs.length c2] 25) = w3 at *
    generalize w1.heap.size = g1 at *
    generalize w2.heap.size = g2 at *
    go_loopw [14] (fun i w' => ∃ j : Nat, j ≤ lx ∧ i = .int .i64 j ∧ (∀ t, t < j → bit xs t = bit xs t) ∧ Below w3.heap.size w3 w') (fun i _ => lx - (intOf i).toNat)
    case atStart => exact ⟨0, Nat.zero_le _, rfl, (fun t ht => by omega), Below.refl _ _⟩
    case round =>
      obtain ⟨j, hj, rfl, hsame, hbl⟩ := hrel
      have HSm := Lib.hid hsame
      have h1 := hbox1.below hbl hbox1.lt
      have q0 : wr.cell? ⟨g1, 0, none⟩ = some (.int .i64 lx) := h1.cell 0
      have q1 : wr.cell? ⟨g1, 1, none⟩ = some (.slice A1 xs.length c1) := h1.cell 1
      clear hsame h1
      by_cases hlt : j < lx
      · go_wp2_with fail
        refine (HAx.out j A1 c1 _ (by exact HV1.out.on hbl) hlt).mono ?_
        rintro e w4 ⟨rfl, hb4⟩
        have hbl4 := chain hbl hb4
        have h2 := hbox2.below hbl4 hbox2.lt
        have s0 : w4.cell? ⟨g2, 0, none⟩ = some (.int .i64 lx) := h2.cell 0
        have s1 : w4.cell? ⟨g2, 1, none⟩ = some (.slice A2 xs.length c2) := h2.cell 1
        clear h2 q0 q1 hbl hb4
        go_wp2_with fail
        refine (HAy.out j A2 c2 _ (by exact HV2.out.on hbl4) (by omega)).mono ?_
        rintro e w5 ⟨rfl, hb5⟩
        have HB5 := Lib.hid (chain hbl4 hb5)
        clear hbl4 hb5 s0 s1
        generalize bit xs j = v at *
        have hvv : (v != v) = false := by simp
        cases v
        all_goals
          go_wp2
          go_roundw
          case rel => exact ⟨j + 1, by omega, by go_num, (fun _ _ => by first | trivial | rfl), HB5.out⟩
          case measure => simp [intOf]; omega
      · obtain rfl : j = lx := by omega
        have hpe : m = m := rfl
        have hmn : (1 + (m : Int) == 1 + (m : Int)) = true := by simp
        have hmn2 : ((m : Int) == (m : Int)) = true := by simp
        clear hpe
        go_wp2
        go_ret
        exact ⟨rfl, chain HB2.out hbl⟩
  ·
    have HX := Lib.hid (fun A c W h => enc_one k n A c W hk (by omega) h)
    have HY := Lib.hid (fun A c W h => enc_one k m A c W hk (by omega) h)
    have l1 := codeOf_length k (n := 1 + n) (by omega) (by omega)
    have l2 := codeOf_length k (n := 1 + m) (by omega) (by omega)
    have hmono := costOf_mono k (a := 1 + n) (b := 1 + m) (by omega) (by omega) (by omega)
    have hlo := (costOf_bound k (n := 1 + n) (by omega) (by omega)).1
    have hhi := (costOf_bound k (n := 1 + m) (by omega) (by omega)).2
    have HPre := Lib.hid (fun h => prefix_bits k n m (by omega) (by omega) h (by omega))
    have hv1 := rowOf_valid (codeOf k (1 + n)) (by omega)
    have hv2 := rowOf_valid (codeOf k (1 + m)) (by omega)
    rw [l1] at HX hv1 HPre
    rw [l2] at HY hv2
    generalize rowOf (codeOf k (1 + n)) = xs at *
    generalize rowOf (codeOf k (1 + m)) = ys at *
    generalize costOf k (1 + n) = lx at *
    generalize costOf k (1 + m) = ly at *
    have HAx := Lib.hid (fun i A c W (h : Words64 W W.heap.size A xs) (hi : i < lx) => at_in lx i A xs c W hv1 h hi)
    have HAy := Lib.hid (fun i A c W (h : Words64 W W.heap.size A ys) (hi : i < ly) => at_in ly i A ys c W hv2 h hi)
    clear hv1 hv2 l1 l2 hk
    have hd1 : decide ((lx : Int) < 1) = false := by simp; omega
    have hd2 : decide (ly < lx) = false := by simp; omega

    go_enter Try.func7, Try.ntmps7
    go_wp2_with fail
    refine (HKd.out _).mono ?_
    rintro e w' ⟨rfl, rfl⟩
    go_wp2_with fail
    refine (HP1.out _).mono ?_
    rintro e w' ⟨rfl, rfl⟩
    go_wp2_with fail
    refine (HP2.out _).mono ?_
    rintro e w' ⟨rfl, rfl⟩
    go_wp2_with fail
    refine (HX.out (some ⟨w.heap.size, 0, none⟩) 1 _ (by simpa using (Blk.new w 3 [.int .i64 (1 + (n : Int))]).lies)).mono ?_
    rintro e w1 ⟨A1, c1, rfl, hW1, _, hb1⟩
    have HW1 := Lib.hid hW1
    clear hW1
    go_wp2_with fail
    refine (HY.out (some ⟨_, 0, none⟩) 1 _ ?_).mono ?_
    · simpa using (Blk.new (w1.alloc (.cells #[.int .i64 lx, .slice A1 xs.length c1] 25)) 3 [.int .i64 (1 + (m : Int))]).lies
    rintro e w2 ⟨A2, c2, rfl, hW2, _, hb2⟩
    have hs2 := hb2.size
    simp only [World.alloc, Array.size_push] at hs2
    have hbox1 : Blk (w2.alloc (.cells #[.int .i64 ly, .slice A2 ys.length c2] 25)) w1.heap.size 25 [.int .i64 lx, .slice A1 xs.length c1] := (((Blk.new w1 25 [.int .i64 lx, .slice A1 xs.length c1]).alloc _).below hb2 (by simp; omega)).alloc _
    have hbox2 : Blk (w2.alloc (.cells #[.int .i64 ly, .slice A2 ys.length c2] 25)) w2.heap.size 25 [.int .i64 ly, .slice A2 ys.length c2] := Blk.new w2 25 [.int .i64 ly, .slice A2 ys.length c2]
    have r10 : w2.cell? ⟨w1.heap.size, 0, none⟩ = some (.int .i64 lx) := (((Blk.new w1 25 [.int .i64 lx, .slice A1 xs.length c1]).alloc _).below hb2 (by simp; omega)).cell 0
    have hz : w1.heap.size < w2.heap.size := by omega
    have HV1 := Lib.hid ((((HW1.out.alloc _).alloc _).on hb2).alloc (.cells #[.int .i64 ly, .slice A2 ys.length c2] 25))
    have HV2 := Lib.hid (hW2.alloc (.cells #[.int .i64 ly, .slice A2 ys.length c2] 25))
    have HB2 := Lib.hid (chain (chain (chain (chain (chain (bnew w (.cells #[.int .i64 (1 + (n : Int))] 3)) hb1) (bnew w1 _)) (bnew _ _)) hb2) (bnew w2 (.cells #[.int .i64 ly, .slice A2 ys.length c2] 25)))
    clear hb1 hb2 hW2 HW1 hs2 HX HY HP1 HP2 HKd
    go_wp2_with fail
    clear r10
    generalize w2.alloc (.cells #[.int .i64 ly, .slice A2 ys.length c2] 25) = w3 at *
    generalize w1.heap.size = g1 at *
    generalize w2.heap.size = g2 at *
    go_loopw [14] (fun i w' => ∃ j : Nat, j ≤ lx ∧ i = .int .i64 j ∧ (∀ t, t < j → bit xs t = bit ys t) ∧ Below w3.heap.size w3 w') (fun i _ => lx - (intOf i).toNat)
    case atStart => exact ⟨0, Nat.zero_le _, rfl, (fun t ht => by omega), Below.refl _ _⟩
    case round =>
      obtain ⟨j, hj, rfl, hsame, hbl⟩ := hrel
      have HSm := Lib.hid hsame
      have h1 := hbox1.below hbl hbox1.lt
      have q0 : wr.cell? ⟨g1, 0, none⟩ = some (.int .i64 lx) := h1.cell 0
      have q1 : wr.cell? ⟨g1, 1, none⟩ = some (.slice A1 xs.length c1) := h1.cell 1
      clear hsame h1
      by_cases hlt : j < lx
      · go_wp2_with fail
        refine (HAx.out j A1 c1 _ (by exact HV1.out.on hbl) hlt).mono ?_
        rintro e w4 ⟨rfl, hb4⟩
        have hbl4 := chain hbl hb4
        have h2 := hbox2.below hbl4 hbox2.lt
        have s0 : w4.cell? ⟨g2, 0, none⟩ = some (.int .i64 ly) := h2.cell 0
        have s1 : w4.cell? ⟨g2, 1, none⟩ = some (.slice A2 ys.length c2) := h2.cell 1
        clear h2 q0 q1 hbl hb4
        go_wp2_with fail
        refine (HAy.out j A2 c2 _ (by exact HV2.out.on hbl4) (by omega)).mono ?_
        rintro e w5 ⟨rfl, hb5⟩
        have HB5 := Lib.hid (chain hbl4 hb5)
        clear hbl4 hb5 s0 s1
        by_cases hbb : bit xs j = bit ys j
        · have HS2 := Lib.hid (show ∀ t, t < j + 1 → bit xs t = bit ys t from fun t ht => by
            by_cases e : t = j
            · rw [e]; exact hbb
            · exact HSm.out t (by omega))
          rw [hbb]
          clear hbb
          generalize bit ys j = v at *
          have hvv : (v != v) = false := by simp
          cases v
          all_goals
            go_wp2
            go_roundw
            case rel => exact ⟨j + 1, by omega, by go_num, HS2.out, HB5.out⟩
            case measure => simp [intOf]; omega
        · generalize bit xs j = u at *
          generalize bit ys j = v at *
          cases u <;> cases v
          · exact absurd rfl hbb
          · clear hbb
            go_wp2
            go_ret
            exact ⟨rfl, chain HB2.out HB5.out⟩
          · clear hbb
            go_wp2
            go_ret
            exact ⟨rfl, chain HB2.out HB5.out⟩
          · exact absurd rfl hbb
      · obtain rfl : j = lx := by omega
        have hpe : n = m := HPre.out HSm.out
        have hmn : (1 + (m : Int) == 1 + (n : Int)) = true := by simp; omega
        have hmn2 : ((m : Int) == (n : Int)) = true := by simp; omega
        clear hpe
        go_wp2
        go_ret
        exact ⟨rfl, chain HB2.out hbl⟩

set_option maxRecDepth 100000 in
theorem lifted (os : Os) (started : os.Started) (H : Type) (enc : TypeId × Value → H) :
    ReturnsInHanded {} Try.checked os 7 .any (Rows.gamPrefixSpec.pre6 enc Try.prog Try.f7 Rows.gamPrefixRow.domain false) (Rows.gamPrefixSpec.post enc Try.prog Try.f7 false true false false) := by
  refine returnsInHanded_of_change_sized (C := Try.checked) own started (by kernel_rfl) Try.func7
    (ChangeSpec.witness6 (enc := enc) (C := Try.checked) false ⟨#[], #[.int .i64 0, .int .i64 0, .int .i64 0], []⟩ 8 (by kernel_rfl) (by kernel_rfl) (by kernel_rfl) (by kernel_rfl)) ?_
  intro W base args ds gs before hval0 hW hcnd hsz0 _
  have hval : ∀ (j : Nat) t v, Try.f7.params[j]? = some t → args[j]? = some v → Value.okWide Try.prog W .any base t v := hval0
  have hW' := hW
  obtain ⟨p, q, hA0, hV, rfl, hfz, hnd⟩ := hW
  have hA : DataW.TrodAll enc Try.prog W 0 (fun _ => true) true Try.f7.params.toList args.toList ds p := hA0
  have hsz : (DataW.weightsEach Try.prog (Try.f7.params.toList ++ Rows.gamPrefixSpec.plain.varTypes Try.prog) (ds ++ gs)).all (· ≤ reachBytes) = true := hsz0
  rw [Try.params7] at hA hval hsz
  obtain ⟨v0, vs0, d0, ds0, p0, q0, hargs, rfl, rfl, h0, r0⟩ := trodAll_cons hA
  obtain ⟨v1, vs1, d1, ds1, p1, q1, rfl, rfl, rfl, h1, r1⟩ := trodAll_cons r0
  obtain ⟨v2, vs2, d2, ds2, p2, q2, rfl, rfl, rfl, h2, r2⟩ := trodAll_cons r1
  obtain ⟨rfl, rfl, rfl⟩ := trodAll_nil r2
  obtain rfl : args = #[v0, v1, v2] := by cases args; simp_all
  obtain ⟨rfl, rfl⟩ := trodVars_none hV
  obtain ⟨a0, rfl, rfl, rfl, w0⟩ := open_int Try.underlying3 (hval 0 3 v0 rfl rfl) h0
  obtain ⟨a1, rfl, rfl, rfl, w1⟩ := open_int Try.underlying3 (hval 1 3 v1 rfl rfl) h1
  obtain ⟨a2, rfl, rfl, rfl, w2⟩ := open_int Try.underlying3 (hval 2 3 v2 rfl rfl) h2
  clear hA0 hval0
  refine (walk a0 a1 a2 W w0 w1 w2).mono fun e W' ⟨he, bel⟩ => ?_
  subst he
  exact ⟨_, rfl, _, _, _, [], _, [], hW', trodAll_mk1 (shut_bool Try.underlying4 _), (trodAll_cons_mk (shut_int Try.underlying3 w0) (trodAll_cons_mk (shut_int Try.underlying3 w1) (trodAll_cons_mk (shut_int Try.underlying3 w2) trodAll_mk0))), rfl, bel.frame _, fun h => by cases h⟩

theorem over : Rows.gamPrefixRow.holds Try.pinned (OpenSpec.ofChange Rows.gamPrefixSpec) :=
  OpenClaim.holds_of_wide 7 Try.f7 rfl rfl rfl rfl rfl rfl rfl ⟨rfl, rfl, rfl, rfl, rfl⟩ rfl rfl rfl rfl rfl (by kernel_rfl) Try.func7 (by kernel_rfl)
    (of_decide_eq_true (by kernel_rfl)) (by unfold Func.isWrapper; first | (rw [if_pos (by decide +kernel)]; kernel_rfl) | (rw [if_neg (by decide +kernel)]; exact ⟨rfl, rfl⟩))
    (fun os started H enc _ => lifted os started H enc)

/-- THE STATEMENT. -/
theorem proved : Rows.GamPrefixSaid := over
#print axioms proved
end Go.Proofs.Ytelcnkmgdohigaa.gamPrefix
