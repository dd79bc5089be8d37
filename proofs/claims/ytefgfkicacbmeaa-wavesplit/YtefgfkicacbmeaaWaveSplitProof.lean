/-
  For every list l and every five numbers levels, a, b, c and x: of the matrix that Go's wave.Make makes of the at most 60 numbers that they stand for, wave.Below of a range is the sum of two parts of it, and wave.Next returns the smallest number of the range that is not less than x, or that there is none.
  No condition.
-/
import Derived.Test.YtefgfkicacbmeaaRows
import Derived.Test.YtefgfkicacbmeaaFrame
import Derived.Test.YtefgfkicacbmeaaWavKp
import Derived.WalkKit
import Derived.ProofKit
import Derived.OpenShut
import Derived.ChangeOld
import Derived.Below
import Derived.Carry
import Derived.SizedLaws
import Derived.Deep.RegionWith
import Derived.Deep.RegionHeld3
namespace Go.Proofs.Ytefgfkicacbmeaa.waveSplit
open Go.ChangeShapes Go.WideShapes Go.ChangeAt Go.RowKit Words
set_option linter.unusedVariables false

theorem own : ownKnob Try.prog.godebug = none := by kernel_rfl
theorem laidOut : laidOutB Try.prog = true := by kernel_rfl
theorem picks_nat (k n : Nat) (l : List Int) : picks k n l = ((l.take k).map (pick n)).map fun x : Nat => (x : Int) := by unfold picks; rw [List.map_map]; rfl
theorem any_take (R : List Nat) (z q x : Nat) (h : R[q]? = some x) : (R.take (q + 1)).any (fun t => t == z) = ((R.take q).any (fun t => t == z) || x == z) := by
  rw [List.take_add_one, h, List.any_append]
  simp
/-- What is asked of a range that is cut, and of the number that comes next. -/
theorem split_facts {L : Nat} {ns : List Nat} {vs : List Lev} (h : MadeOf ns.length (levs L ns) vs) (hx : ∀ x ∈ ns, x < 2 ^ L) (i m j y : Nat) (him : i ≤ m) (hmj : m ≤ j) (hj : j ≤ ns.length) :
    ∃ p q r : Nat, lessI ns.length (fns vs) y i m = p ∧ lessI ns.length (fns vs) y m j = q ∧ lessI ns.length (fns vs) y i j = r ∧ p + q = r ∧ r ≤ j - i ∧
      (r < j - i → y ≤ kv ns.length (fns vs) i j r ∧ lessI ns.length (fns vs) (kv ns.length (fns vs) i j r : Nat) i j = r ∧ ((ns.drop i).take (j - i)).any (fun t => t == kv ns.length (fns vs) i j r) = true) := by
  have hij : i ≤ j := Nat.le_trans him hmj
  have c := num_cut ns.length (fns vs) (fun v => decide ((v : Int) < (y : Int))) i m j
  have p1 : 0 ≤ lessI ns.length (fns vs) y i m := num_nonneg _ _ _ _ _ him
  have p2 : 0 ≤ lessI ns.length (fns vs) y m j := num_nonneg _ _ _ _ _ hmj
  have p3 : lessI ns.length (fns vs) y i j ≤ (j : Int) - i := num_le _ _ _ _ _ hij
  have c' : lessI ns.length (fns vs) y i m + lessI ns.length (fns vs) y m j = lessI ns.length (fns vs) y i j := c
  refine ⟨(lessI ns.length (fns vs) y i m).toNat, (lessI ns.length (fns vs) y m j).toNat, (lessI ns.length (fns vs) y i j).toNat, by omega, by omega, by omega, by omega, by omega, fun hr => ?_⟩
  obtain ⟨s1, s2⟩ := kv_spec ns.length (fns vs) i j _ hij hr
  generalize hz : kv ns.length (fns vs) i j (lessI ns.length (fns vs) y i j).toNat = z at *
  rw [lessI_nat] at s1 s2 p3 c' ⊢
  have p4 := less_nonneg ns.length (fns vs) y i j hij
  have hyz : y ≤ z := by
    rcases Nat.lt_or_ge z y with g | g
    · have := less_mono ns.length (fns vs) (z + 1) y g i j hij
      omega
    · exact g
  have h3 := less_mono ns.length (fns vs) y z hyz i j hij
  refine ⟨hyz, by rw [lessI_nat]; omega, ?_⟩
  have h4 := same_less ns.length (fns vs) z i j
  obtain ⟨t, t1, t2, t3⟩ := num_some ns.length (fns vs) (fun v => decide (v = z)) i j (by unfold same at h4; omega)
  have t4 : val ns.length (fns vs) t = z := by simpa using t3
  have hg := List.getElem?_eq_getElem (show t < ns.length by omega)
  have t5 := made_val h hx t _ hg
  rw [List.any_eq_true]
  refine ⟨z, ?_, by simp⟩
  have e : ((ns.drop i).take (j - i))[t - i]? = some z := by
    rw [List.getElem?_take, if_pos (by omega), List.getElem?_drop, show i + (t - i) = t by omega, hg, ← t5, t4]
  exact List.mem_of_getElem? e


set_option maxRecDepth 100000 in
set_option maxHeartbeats 4000000 in
/-- The walk: the Go text returns true, and writes nothing that was there. -/
theorem walk (A0 : Option Addr) (l0 : List Int) (c0 : Nat) (a1 : Int) (a2 : Int) (a3 : Int) (a4 : Int) (a5 : Int) (w : World) (hle0 : l0.length ≤ c0) (hcap0 : c0 * 8 ≤ 140737488351232) (hnil0 : A0 = none → c0 = 0) (w0 : Lies w w.heap.size A0 (l0.map (.int .i64)) ∧ ∀ z ∈ l0, (Lit.int .i64 z).wf = true) (w1 : (Lit.int .i64 a1).wf = true) (w2 : (Lit.int .i64 a2).wf = true) (w3 : (Lit.int .i64 a3).wf = true) (w4 : (Lit.int .i64 a4).wf = true) (w5 : (Lit.int .i64 a5).wf = true) :
    Calls Try.prog 12 #[.slice A0 l0.length c0, .int .i64 a1, .int .i64 a2, .int .i64 a3, .int .i64 a4, .int .i64 a5] w fun e w' => e = .returned (.bool true) ∧ Below w.heap.size w w' := by
  have hp1 := pick_lt (n := 10) (by decide) a1
  have HP1 := Lib.hid (pick_any a1 10 · (by decide) (by decide) w1)
  generalize pick 10 a1 = p at *
  obtain ⟨kk, hkk⟩ : ∃ kk, kk = 1 + p := ⟨_, rfl⟩
  have hk1 : (1 : Int) + (p : Int) = (kk : Int) := by omega
  have hk0 : 0 < kk := by omega
  have hk12 : kk ≤ 10 := by omega
  clear hkk
  obtain ⟨N, hN⟩ : ∃ N, 2 ^ kk = N := ⟨_, rfl⟩
  have hN0 : 0 < N := by rw [← hN]; exact Nat.two_pow_pos kk
  have hN1 : N ≤ 1024 := by rw [← hN]; exact Nat.le_trans (Nat.pow_le_pow_right (n := 2) (j := 10) (by decide) hk12) (by decide)
  have hshl : wrap64 ((2 : Int) ^ kk) = (N : Int) := by
    have e : ((2 : Int) ^ kk) = ((2 ^ kk : Nat) : Int) := by simp
    rw [e, hN]
    unfold wrap64
    omega
  have HNu := Lib.hid (numbers_any A0 l0 c0 60 N w (by decide) hN0 (by omega) w0.2 w0.1)
  rw [picks_nat, ← natC_ints] at HNu
  have hnx : ∀ x ∈ (l0.take 60).map (pick N), x < 2 ^ kk := fun x hx => by
    obtain ⟨a, _, rfl⟩ := List.mem_map.1 hx
    rw [hN]
    exact pick_lt hN0 a
  have hnl : ((l0.take 60).map (pick N)).length ≤ 60 := by rw [List.length_map, List.length_take]; omega
  clear w0 hnil0 hle0 hcap0 hN hN0
  generalize (l0.take 60).map (pick N) = ns at *
  have HWd := Lib.hid (fun A c W hnone hW => waved_any A ns c kk W (by omega) hk0 (by omega) hnx hnone hW)
  have HMW := Lib.hid (fun (vs : List Lev) (h : MadeOf ns.length (levs kk ns) vs) => made_wv h hk0 (by omega) (by omega))
  have HSF := Lib.hid (fun (vs : List Lev) (h : MadeOf ns.length (levs kk ns) vs) i m j y h1 h2 h3 => split_facts h hnx i m j y h1 h2 h3)
  have HMV := Lib.hid (fun (vs : List Lev) (h : MadeOf ns.length (levs kk ns) vs) i x hi => made_val h hnx i x hi)
  have HML := Lib.hid (fun (vs : List Lev) (h : MadeOf ns.length (levs kk ns) vs) => show vs.length = kk by rw [h.length, levs_length])
  have HNL := Lib.hid (natC_length ns)
  clear hnx
  unfold GivesWaved at HWd
  unfold GivesSlice at HNu
  rw [HNL.out] at HNu
  generalize hnn : ns.length = n at *
  clear HMV
  have HN := Lib.hid hnn
  clear hnn
  obtain ⟨n1, hn1⟩ : ∃ n1, n + 1 = n1 := ⟨_, rfl⟩
  have hn1i : (n : Int) + 1 = (n1 : Int) := by omega
  have hp2 := pick_lt (n := n1) (by omega) a2
  have HP2 := Lib.hid (pick_any a2 n1 · (by omega) (by omega) w2)
  generalize pick n1 a2 = i at *
  obtain ⟨n2, hn2⟩ : ∃ n2, n1 - i = n2 := ⟨_, rfl⟩
  have hn2i : (n1 : Int) - (i : Int) = (n2 : Int) := by omega
  have hp3 := pick_lt (n := n2) (by omega) a3
  have HP3 := Lib.hid (pick_any a3 n2 · (by omega) (by omega) w3)
  generalize pick n2 a3 = d at *
  obtain ⟨j, hj⟩ : ∃ j, i + d = j := ⟨_, rfl⟩
  have hji : (i : Int) + (d : Int) = (j : Int) := by omega
  have hjn : j ≤ n := by omega
  have hdj : (j : Int) - (i : Int) = (d : Int) := by omega
  have hdj2 : j - i = d := by omega
  obtain ⟨d1, hd1⟩ : ∃ d1, d + 1 = d1 := ⟨_, rfl⟩
  have hd1i : (d : Int) + 1 = (d1 : Int) := by omega
  have hp4 := pick_lt (n := d1) (by omega) a4
  have HP4 := Lib.hid (pick_any a4 d1 · (by omega) (by omega) w4)
  generalize pick d1 a4 = m0 at *
  obtain ⟨m, hm⟩ : ∃ m, i + m0 = m := ⟨_, rfl⟩
  have hmi : (i : Int) + (m0 : Int) = (m : Int) := by omega
  obtain ⟨N2, hN2⟩ : ∃ N2, N + 1 = N2 := ⟨_, rfl⟩
  have hN2i : (N : Int) + 1 = (N2 : Int) := by omega
  have HP5 := Lib.hid (pick_any a5 N2 · (by omega) (by omega) w5)
  have hy1 := pick_lt (n := N2) (by omega) a5
  generalize pick N2 a5 = y at *
  have him : i ≤ m := by omega
  have hmj : m ≤ j := by omega
  have hd60 : d ≤ 60 := by omega
  obtain ⟨R, hR⟩ : ∃ R, (ns.drop i).take d = R := ⟨_, rfl⟩
  have HRat := Lib.hid (fun q x (hq : ns[i + q]? = some x) (hqd : q < d) => show R[q]? = some x by rw [← hR, List.getElem?_take, if_pos hqd, List.getElem?_drop]; exact hq)
  have HRl := Lib.hid (show R.length = d by rw [← hR, List.length_take, List.length_drop]; have := HN.out; omega)
  have HR := Lib.hid hR
  clear hn1 hn2 hp2 hp3 hp4 hj hm hN2 hd1 hR
  go_enter Try.func12, Try.ntmps12
  go_wp2_with fail
  refine (HP1.out _).mono ?_
  rintro e w' ⟨rfl, rfl⟩
  go_wp2_with fail
  refine HNu.out.mono ?_
  rintro e w1 ⟨A1, c1, rfl, hle1, hl1, hn1, _, hb1⟩
  have HL1 := Lib.hid hl1
  have HN1 := Lib.hid hn1
  clear hl1 hn1
  go_wp2_with fail
  refine (HWd.out A1 c1 _ HN1.out HL1.out).mono ?_
  rintro e w2' ⟨A2, vs, c2, rfl, hmade, hmat, _, _, hb2⟩
  have hV := HMW.out vs hmade
  have hvl := HML.out vs hmade
  obtain ⟨p', q', r', hp', hq', hr', hpq, hrd, hnext⟩ := HSF.out vs hmade i m j y him hmj hjn
  rw [hdj2] at hrd hnext
  rw [HR.out] at hnext
  have hB1 := fun W hW => wbel_in n A2 vs c2 i m (y : Int) W hV hW him (Nat.le_trans hmj hjn)
  have hB2 := fun W hW => wbel_in n A2 vs c2 m j (y : Int) W hV hW hmj hjn
  have hB3 := fun W hW => wbel_in n A2 vs c2 i j (y : Int) W hV hW (Nat.le_trans him hmj) hjn
  have hBz := fun (z : Int) W hW => wbel_in n A2 vs c2 i j z W hV hW (Nat.le_trans him hmj) hjn
  have hNx := fun W hW (hx : r' < j - i) => wnx_in n A2 vs c2 i j r' (y : Int) W hV hW (Nat.le_trans him hmj) hjn hr' hx
  have hNn := fun W hW (hx : lessI n (fns vs) y i j = (j : Int) - i) => wnx_none n A2 vs c2 i j (y : Int) W hV hW (Nat.le_trans him hmj) hjn hx
  rw [hr', hdj] at hNn
  simp only [hvl, hp', hq', hr', hdj2] at hB1 hB2 hB3 hBz hNx hNn
  have HB1 := Lib.hid hB1
  have HB2 := Lib.hid hB2
  have HB3 := Lib.hid hB3
  have HBz := Lib.hid hBz
  have HNx := Lib.hid hNx
  have HNn := Lib.hid hNn
  have HNext := Lib.hid hnext
  have hpqi : (p' : Int) + (q' : Int) = (r' : Int) := by omega
  have hpq6 : p' ≤ 60 ∧ q' ≤ 60 ∧ r' ≤ 60 := by omega
  clear hvl hV hmade hp' hq' hr' hpq hnext hB1 hB2 hB3 hBz hNx hNn
  obtain ⟨b60, b61, b62⟩ := hpq6
  go_wp2_with fail
  have hX := Blk.new w2' 25 [.slice A2 kk c2]
  have HMat := Lib.hid (hmat.alloc (.cells #[.slice A2 kk c2] 25))
  have HL2 := Lib.hid ((HL1.out.on hb2).alloc (.cells #[.slice A2 kk c2] 25))
  have HB := Lib.hid (chain (chain hb1 hb2) (bnew w2' (.cells #[.slice A2 kk c2] 25)))
  generalize w2'.alloc (.cells #[.slice A2 kk c2] 25) = w3' at *
  have hXl := hX.lt
  have q0 : w3'.cell? ⟨w2'.heap.size, 0, none⟩ = some (.slice A2 kk c2) := hX.cell 0
  clear hmat hb1 hb2 hX
  refine (HP2.out _).mono ?_
  rintro e w' ⟨rfl, rfl⟩
  go_wp2_with fail
  refine (HP3.out _).mono ?_
  rintro e w' ⟨rfl, rfl⟩
  go_wp2_with fail
  refine (HP4.out _).mono ?_
  rintro e w' ⟨rfl, rfl⟩
  go_wp2_with fail
  refine (HP5.out _).mono ?_
  rintro e w' ⟨rfl, rfl⟩
  go_wp2_with fail
  refine (HB1.out _ (by exact HMat.out)).mono ?_
  rintro e w4' ⟨rfl, hb4⟩
  have r0 : w4'.cell? ⟨w2'.heap.size, 0, none⟩ = some (.slice A2 kk c2) := (bcell hb4 _ _ hXl).trans q0
  have hM4 := Lib.hid (HMat.out.on hb4)
  have hl4 := Nat.lt_of_lt_of_le hXl hb4.size
  have HB4 := Lib.hid (chain HB.out hb4)
  have HL4 := Lib.hid (HL2.out.on hb4)
  clear q0 hb4
  go_wp2_with fail
  refine (HB2.out _ (by exact hM4.out)).mono ?_
  rintro e w5' ⟨rfl, hb5⟩
  have s0 : w5'.cell? ⟨w2'.heap.size, 0, none⟩ = some (.slice A2 kk c2) := (bcell hb5 _ _ hl4).trans r0
  have hM5 := Lib.hid (hM4.out.on hb5)
  have hl5 := Nat.lt_of_lt_of_le hl4 hb5.size
  have HB5 := Lib.hid (chain HB4.out hb5)
  have HL5 := Lib.hid (HL4.out.on hb5)
  clear r0 hb5
  go_wp2_with fail
  refine (HB3.out _ (by exact hM5.out)).mono ?_
  rintro e w6' ⟨rfl, hb6⟩
  have t0 : w6'.cell? ⟨w2'.heap.size, 0, none⟩ = some (.slice A2 kk c2) := (bcell hb6 _ _ hl5).trans s0
  have hM6 := Lib.hid (hM5.out.on hb6)
  have hl6 := Nat.lt_of_lt_of_le hl5 hb6.size
  have HB6 := Lib.hid (chain HB5.out hb6)
  have HL6 := Lib.hid (HL5.out.on hb6)
  clear s0 hb6
  go_wp2_with fail
  by_cases hlt : r' < d
  · obtain ⟨hyz, hless, hany⟩ := HNext.out hlt
    have hN := fun W hW => HNx.out W hW hlt
    generalize kv n (fns vs) i j r' = z at *
    have hZ := fun W hW => HBz.out (z : Int) W hW
    rw [hless] at hZ
    have HNz := Lib.hid hN
    have HZ := Lib.hid hZ
    have hd2 : decide (y ≤ z) = true := by simpa using hyz
    have hrr : ((r' : Int) == (r' : Int)) = true := by simp
    have HAny := Lib.hid hany
    clear hless hN hZ hany
    refine (HNz.out _ (by exact hM6.out)).mono ?_
    rintro e w7' ⟨rfl, hb7⟩
    have u0 : w7'.cell? ⟨w2'.heap.size, 0, none⟩ = some (.slice A2 kk c2) := (bcell hb7 _ _ hl6).trans t0
    have hM7 := Lib.hid (hM6.out.on hb7)
    have HB7 := Lib.hid (chain HB6.out hb7)
    have HL7 := Lib.hid (HL6.out.on hb7)
    clear t0 hb7
    go_wp2_with fail
    refine (HZ.out _ (by exact hM7.out)).mono ?_
    rintro e w8' ⟨rfl, hb8⟩
    have HB8 := Lib.hid (chain HB7.out hb8)
    have HL8 := Lib.hid (HL7.out.on hb8)
    clear u0 hb8
    go_wp2_with fail
    go_loop [31, 32] (fun s31 s32 => ∃ q : Nat, q ≤ d ∧ s32 = .int .i64 ((i + q : Nat) : Int) ∧ s31 = .bool ((R.take q).any fun t => t == z)) (fun _ s32 => j - (intOf s32).toNat)
    case atStart => exact ⟨0, Nat.zero_le _, rfl, rfl⟩
    case round =>
      obtain ⟨q, hq, rfl, rfl⟩ := hrel
      by_cases hqd : q < d
      · obtain ⟨b, o, x, rfl, hb, hx, hc⟩ := HL8.out.at_ (l := ns) (f := fun x : Nat => Value.int .i64 (x : Int)) (k := i + q) (by rw [HN.out]; omega)
        have hst := any_take R z q x (HRat.out q x hx hqd)
        obtain ⟨t, ht⟩ : ∃ t, i + q = t := ⟨_, rfl⟩
        rw [ht] at hc ⊢
        have htn : t < n := by omega
        have htj : t < j := by omega
        have HT := Lib.hid ht
        have HST := Lib.hid hst
        clear hx hst ht
        cases hh : (R.take q).any fun t => t == z
        · by_cases hxz : x = z
          · have e1 : (x == z) = true := by simpa using hxz
            rw [hh, e1] at HST
            have e2 : ((x : Int) == (z : Int)) = true := by simp; omega
            clear hh hxz e1
            go_wp2_with fail
            go_round
            case rel => exact ⟨q + 1, by omega, by rw [← Nat.add_assoc, HT.out]; go_num, by rw [HST.out]; rfl⟩
            case measure => simp [intOf]; omega
          · have e1 : (x == z) = false := by simpa using hxz
            rw [hh, e1] at HST
            have e2 : ((x : Int) == (z : Int)) = false := by simp; omega
            clear hh hxz e1
            go_wp2_with fail
            go_round
            case rel => exact ⟨q + 1, by omega, by rw [← Nat.add_assoc, HT.out]; go_num, by rw [HST.out]; rfl⟩
            case measure => simp [intOf]; omega
        · rw [hh, Bool.true_or] at HST
          clear hh
          go_wp2_with fail
          go_round
          case rel => exact ⟨q + 1, by omega, by rw [← Nat.add_assoc, HT.out]; go_num, by rw [HST.out]⟩
          case measure => simp [intOf]; omega
      · obtain rfl : d = q := by omega
        have hRt : R.take d = R := List.take_of_length_le (by rw [HRl.out]; exact Nat.le_refl _)
        rw [hRt, HAny.out]
        have hiq : ((i + d : Nat) : Int) = (j : Int) := by omega
        rw [hiq]
        clear hRt hiq
        go_wp2_with fail
        go_ret
        exact ⟨rfl, HB8.out⟩
  · obtain rfl : d = r' := by omega
    have hNN := fun W hW => HNn.out W hW rfl
    have HNN := Lib.hid hNN
    clear hNN
    refine (HNN.out _ (by exact hM6.out)).mono ?_
    rintro e w7' ⟨rfl, hb7⟩
    have HB7 := Lib.hid (chain HB6.out hb7)
    clear t0 hb7
    have hdd : ((d : Int) == (d : Int)) = true := by simp
    go_wp2_with fail
    go_ret
    exact ⟨rfl, HB7.out⟩

set_option maxRecDepth 100000 in
theorem lifted (os : Os) (started : os.Started) (H : Type) (enc : TypeId × Value → H) :
    ReturnsInHanded {} Try.checked os 12 .any (Rows.waveSplitSpec.pre6 enc Try.prog Try.f12 Rows.waveSplitRow.domain false) (Rows.waveSplitSpec.post enc Try.prog Try.f12 false true false false) := by
  refine returnsInHanded_of_change_sized (C := Try.checked) own started (by kernel_rfl) Try.func12
    (ChangeSpec.witness6 (enc := enc) (C := Try.checked) false ⟨#[], #[.slice none 0 0, .int .i64 0, .int .i64 0, .int .i64 0, .int .i64 0, .int .i64 0], []⟩ 8 (by kernel_rfl) (by kernel_rfl) (by kernel_rfl) (by kernel_rfl)) ?_
  intro W base args ds gs before hval0 hW hcnd hsz0 _
  have hval : ∀ (j : Nat) t v, Try.f12.params[j]? = some t → args[j]? = some v → Value.okWide Try.prog W .any base t v := hval0
  have hW' := hW
  obtain ⟨p, q, hA0, hV, rfl, hfz, hnd⟩ := hW
  have hA : DataW.TrodAll enc Try.prog W 0 (fun _ => true) true Try.f12.params.toList args.toList ds p := hA0
  have hsz : (DataW.weightsEach Try.prog (Try.f12.params.toList ++ Rows.waveSplitSpec.plain.varTypes Try.prog) (ds ++ gs)).all (· ≤ reachBytes) = true := hsz0
  rw [Try.params12] at hA hval hsz
  obtain ⟨v0, vs0, d0, ds0, p0, q0, hargs, rfl, rfl, h0, r0⟩ := trodAll_cons hA
  obtain ⟨v1, vs1, d1, ds1, p1, q1, rfl, rfl, rfl, h1, r1⟩ := trodAll_cons r0
  obtain ⟨v2, vs2, d2, ds2, p2, q2, rfl, rfl, rfl, h2, r2⟩ := trodAll_cons r1
  obtain ⟨v3, vs3, d3, ds3, p3, q3, rfl, rfl, rfl, h3, r3⟩ := trodAll_cons r2
  obtain ⟨v4, vs4, d4, ds4, p4, q4, rfl, rfl, rfl, h4, r4⟩ := trodAll_cons r3
  obtain ⟨v5, vs5, d5, ds5, p5, q5, rfl, rfl, rfl, h5, r5⟩ := trodAll_cons r4
  obtain ⟨rfl, rfl, rfl⟩ := trodAll_nil r5
  obtain rfl : args = #[v0, v1, v2, v3, v4, v5] := by cases args; simp_all
  obtain ⟨rfl, rfl⟩ := trodVars_none hV
  obtain ⟨A0, n0, c0, rfl⟩ := okWide_slice Try.underlying22 (hval 0 22 v0 rfl rfl)
  have k0 := h0
  have lt0 : ∀ x ∈ p0, x.block < W.heap.size := by obtain ⟨m, hm⟩ := k0; exact DataW.trod_lt m _ _ _ hm
  obtain ⟨fuel0, hf0⟩ := h0
  obtain ⟨A0_, l0, c0_, hcs0, hle0, hcap0, hnil0, w0⟩ := rd_ints Try.underlying22 Try.underlying3 (by kernel_rfl) (by kernel_rfl) hf0 (weight_arg hsz (j := 0) (t := 22) rfl rfl)
  have hcs0_ : [Value.slice A0 n0 c0] = [.slice A0_ l0.length c0_] := hcs0
  simp only [List.cons.injEq, Value.slice.injEq, and_true] at hcs0_
  obtain ⟨rfl, rfl, rfl⟩ := hcs0_
  clear hcs0
  obtain ⟨a1, rfl, rfl, rfl, w1⟩ := open_int Try.underlying3 (hval 1 3 v1 rfl rfl) h1
  obtain ⟨a2, rfl, rfl, rfl, w2⟩ := open_int Try.underlying3 (hval 2 3 v2 rfl rfl) h2
  obtain ⟨a3, rfl, rfl, rfl, w3⟩ := open_int Try.underlying3 (hval 3 3 v3 rfl rfl) h3
  obtain ⟨a4, rfl, rfl, rfl, w4⟩ := open_int Try.underlying3 (hval 4 3 v4 rfl rfl) h4
  obtain ⟨a5, rfl, rfl, rfl, w5⟩ := open_int Try.underlying3 (hval 5 3 v5 rfl rfl) h5
  clear hA0 hval0
  refine (walk A0 l0 c0 a1 a2 a3 a4 a5 W hle0 hcap0 hnil0 w0 w1 w2 w3 w4 w5).mono fun e W' ⟨he, bel⟩ => ?_
  subst he
  exact ⟨_, rfl, _, _, _, [], _, [], hW', trodAll_mk1 (shut_bool Try.underlying4 _), (trodAll_cons_mk (Below.trod laidOut (by kernel_rfl) (of_decide_eq_true (by kernel_rfl)) k0 bel lt0) (trodAll_cons_mk (shut_int Try.underlying3 w1) (trodAll_cons_mk (shut_int Try.underlying3 w2) (trodAll_cons_mk (shut_int Try.underlying3 w3) (trodAll_cons_mk (shut_int Try.underlying3 w4) (trodAll_cons_mk (shut_int Try.underlying3 w5) trodAll_mk0)))))), rfl, bel.frame _, fun h => by cases h⟩

theorem over : Rows.waveSplitRow.holds Try.pinned (OpenSpec.ofChange Rows.waveSplitSpec) :=
  OpenClaim.holds_of_wide 12 Try.f12 rfl rfl rfl rfl rfl rfl rfl ⟨rfl, rfl, rfl, rfl, rfl⟩ rfl rfl rfl rfl rfl (by kernel_rfl) Try.func12 (by kernel_rfl)
    (of_decide_eq_true (by kernel_rfl)) (by unfold Func.isWrapper; first | (rw [if_pos (by decide +kernel)]; kernel_rfl) | (rw [if_neg (by decide +kernel)]; exact ⟨rfl, rfl⟩))
    (fun os started H enc _ => lifted os started H enc)

/-- THE STATEMENT. -/
theorem proved : Rows.WaveSplitSaid := over
#print axioms proved
end Go.Proofs.Ytefgfkicacbmeaa.waveSplit
