/-
  For every list l and every three numbers levels, a and b: of the matrix that Go's wave.Make makes of the at most 60 numbers that they stand for, wave.Kth of all k, one behind the other, is the range that a and b stand for, sorted; wave.Below counts as many as must be; behind the last there is none.
  No condition.
-/
import Derived.Test.YtefgfkicacbmeaaRows
import Derived.Test.YtefgfkicacbmeaaFrame
import Derived.Test.YtefgfkicacbmeaaWavKp
import Derived.WalkKit
import Derived.ProofKit
import Derived.OpenShut
import Derived.ChangeOld
import Derived.Below
import Derived.Carry
import Derived.SizedLaws
import Derived.Deep.RegionWith
import Derived.Deep.RegionHeld3
namespace Go.Proofs.Ytefgfkicacbmeaa.waveSorts
open Go.ChangeShapes Go.WideShapes Go.ChangeAt Go.RowKit Words
set_option linter.unusedVariables false

theorem own : ownKnob Try.prog.godebug = none := by kernel_rfl
theorem laidOut : laidOutB Try.prog = true := by kernel_rfl
theorem picks_nat (k n : Nat) (l : List Int) : picks k n l = ((l.take k).map (pick n)).map fun x : Nat => (x : Int) := by unfold picks; rw [List.map_map]; rfl
theorem sort_ex (R : List Nat) : ∃ S : List Nat, S.Perm R ∧ S.Pairwise (· ≤ ·) := by
  refine ⟨R.mergeSort fun x y => decide (x ≤ y), List.mergeSort_perm _ _, ?_⟩
  have h := List.pairwise_mergeSort (le := fun x y : Nat => decide (x ≤ y)) (fun a b c h1 h2 => by simp only [decide_eq_true_eq] at *; omega) (fun a b => by simp only [Bool.or_eq_true, decide_eq_true_eq]; omega) R
  exact h.imp (fun h => by simpa using h)
theorem sum_le (R : List Nat) (N : Nat) (h : ∀ x ∈ R, x < N) : R.sum ≤ R.length * N := by
  induction R with
  | nil => simp
  | cons a R ih =>
    have := h a (by simp)
    have := ih fun x hx => h x (by simp [hx])
    rw [List.sum_cons, List.length_cons, Nat.add_mul]
    omega
theorem sum_take (R : List Nat) (i x : Nat) (h : R[i]? = some x) : (R.take (i + 1)).sum = (R.take i).sum + x := by
  rw [List.take_add_one, h]
  simp
theorem sum_drop (R : List Nat) (i x : Nat) (h : R[i]? = some x) : (R.drop i).sum = x + (R.drop (i + 1)).sum := by
  obtain ⟨hi, rfl⟩ := List.getElem?_eq_some_iff.1 h
  rw [List.drop_eq_getElem_cons hi, List.sum_cons]
theorem sum_take_le (R : List Nat) (i : Nat) : (R.take i).sum ≤ R.sum := by
  have h : R.sum = (R.take i).sum + (R.drop i).sum := by rw [← List.sum_append_nat, List.take_append_drop]
  omega
theorem sum_drop_le (R : List Nat) (i : Nat) : (R.drop i).sum ≤ R.sum := by
  have h : R.sum = (R.take i).sum + (R.drop i).sum := by rw [← List.sum_append_nat, List.take_append_drop]
  omega
theorem rng_made {L : Nat} {ns : List Nat} {vs : List Lev} (h : MadeOf ns.length (levs L ns) vs) (hx : ∀ x ∈ ns, x < 2 ^ L) (a b : Nat) : rng ns.length (fns vs) a b = ((ns.drop a).take (b - a)).map fun x : Nat => (x : Int) := by
  unfold rng
  rw [made_lsI h hx, List.map_take, List.map_drop]
/-- What is asked of a sorted range. -/
theorem range_facts {L : Nat} {ns : List Nat} {vs : List Lev} (h : MadeOf ns.length (levs L ns) vs) (hx : ∀ x ∈ ns, x < 2 ^ L) (a b : Nat) (hab : a ≤ b) (hb : b ≤ ns.length) :
    ∃ S : List Nat, S.length = b - a ∧ S.sum = ((ns.drop a).take (b - a)).sum ∧ (∀ m x y, S[m]? = some x → S[m + 1]? = some y → x ≤ y) ∧
      ∀ m x, S[m]? = some x → kv ns.length (fns vs) a b m = x ∧ ∃ u v : Nat, lessI ns.length (fns vs) x a b = u ∧ lessI ns.length (fns vs) ((x : Int) + 1) a b = v ∧ u ≤ m ∧ m < v ∧ v ≤ b - a := by
  obtain ⟨S, hp, hs⟩ := sort_ex ((ns.drop a).take (b - a))
  have hr := rng_made h hx a b
  have hpI : (S.map fun x : Nat => (x : Int)).Perm (rng ns.length (fns vs) a b) := by rw [hr]; exact hp.map _
  have hsI : (S.map fun x : Nat => (x : Int)).Pairwise (· ≤ ·) := by rw [List.pairwise_map]; exact hs.imp (fun h => by omega)
  have hl : S.length = b - a := by rw [hp.length_eq, List.length_take, List.length_drop]; omega
  refine ⟨S, hl, hp.sum_nat, fun m x y h1 h2 => ?_, fun m x h1 => ?_⟩
  · obtain ⟨g1, e1⟩ := List.getElem?_eq_some_iff.1 h1
    obtain ⟨g2, e2⟩ := List.getElem?_eq_some_iff.1 h2
    have := List.pairwise_iff_getElem.1 hs m (m + 1) g1 g2 (by omega)
    rw [e1, e2] at this
    exact this
  · have hm : m < b - a := by have := (List.getElem?_eq_some_iff.1 h1).1; omega
    have hk := sorted_kv ns.length (fns vs) a b m hab hb _ hsI hpI (x : Int) (by rw [List.getElem?_map, h1]; rfl)
    have hk2 : kv ns.length (fns vs) a b m = x := by omega
    obtain ⟨s1, s2⟩ := kv_spec ns.length (fns vs) a b m hab hm
    rw [hk2] at s1 s2
    have e1 := lessI_nat ns.length (fns vs) x a b
    have e2 := lessI_succ ns.length (fns vs) x a b
    have p1 := less_nonneg ns.length (fns vs) x a b hab
    have p2 := less_le ns.length (fns vs) (x + 1) a b hab
    exact ⟨hk2, (less ns.length (fns vs) x a b).toNat, (less ns.length (fns vs) (x + 1) a b).toNat, by omega, by omega, by omega, by omega, by omega⟩


set_option maxRecDepth 100000 in
set_option maxHeartbeats 4000000 in
/-- The walk: the Go text returns true, and writes nothing that was there. -/
theorem walk (A0 : Option Addr) (l0 : List Int) (c0 : Nat) (a1 : Int) (a2 : Int) (a3 : Int) (w : World) (hle0 : l0.length ≤ c0) (hcap0 : c0 * 8 ≤ 140737488351232) (hnil0 : A0 = none → c0 = 0) (w0 : Lies w w.heap.size A0 (l0.map (.int .i64)) ∧ ∀ z ∈ l0, (Lit.int .i64 z).wf = true) (w1 : (Lit.int .i64 a1).wf = true) (w2 : (Lit.int .i64 a2).wf = true) (w3 : (Lit.int .i64 a3).wf = true) :
    Calls Try.prog 11 #[.slice A0 l0.length c0, .int .i64 a1, .int .i64 a2, .int .i64 a3] w fun e w' => e = .returned (.bool true) ∧ Below w.heap.size w w' := by
  have hp1 := pick_lt (n := 10) (by decide) a1
  have HP1 := Lib.hid (pick_any a1 10 · (by decide) (by decide) w1)
  generalize pick 10 a1 = p at *
  obtain ⟨kk, hkk⟩ : ∃ kk, kk = 1 + p := ⟨_, rfl⟩
  have hk1 : (1 : Int) + (p : Int) = (kk : Int) := by omega
  have hk0 : 0 < kk := by omega
  have hk12 : kk ≤ 10 := by omega
  clear hkk
  obtain ⟨N, hN⟩ : ∃ N, 2 ^ kk = N := ⟨_, rfl⟩
  have hN0 : 0 < N := by rw [← hN]; exact Nat.two_pow_pos kk
  have hN1 : N ≤ 1024 := by rw [← hN]; exact Nat.le_trans (Nat.pow_le_pow_right (n := 2) (j := 10) (by decide) hk12) (by decide)
  have hshl : wrap64 ((2 : Int) ^ kk) = (N : Int) := by
    have e : ((2 : Int) ^ kk) = ((2 ^ kk : Nat) : Int) := by simp
    rw [e, hN]
    unfold wrap64
    omega
  have HNu := Lib.hid (numbers_any A0 l0 c0 60 N w (by decide) hN0 (by omega) w0.2 w0.1)
  rw [picks_nat, ← natC_ints] at HNu
  have hnx : ∀ x ∈ (l0.take 60).map (pick N), x < 2 ^ kk := fun x hx => by
    obtain ⟨a, _, rfl⟩ := List.mem_map.1 hx
    rw [hN]
    exact pick_lt hN0 a
  have hnl : ((l0.take 60).map (pick N)).length ≤ 60 := by rw [List.length_map, List.length_take]; omega
  clear w0 hnil0 hle0 hcap0 hN0
  generalize (l0.take 60).map (pick N) = ns at *
  have HWd := Lib.hid (fun A c W hnone hW => waved_any A ns c kk W (by omega) hk0 (by omega) hnx hnone hW)
  have HMW := Lib.hid (fun (vs : List Lev) (h : MadeOf ns.length (levs kk ns) vs) => made_wv h hk0 (by omega) (by omega))
  have HRF := Lib.hid (fun (vs : List Lev) (h : MadeOf ns.length (levs kk ns) vs) a b hab hb => range_facts h hnx a b hab hb)
  have hxN : ∀ x ∈ ns, x < N := fun x hx => by rw [← hN]; exact hnx x hx
  have HMV := Lib.hid (fun (vs : List Lev) (h : MadeOf ns.length (levs kk ns) vs) i x hi => made_val h hnx i x hi)
  have HML := Lib.hid (fun (vs : List Lev) (h : MadeOf ns.length (levs kk ns) vs) => show vs.length = kk by rw [h.length, levs_length])
  have HNL := Lib.hid (natC_length ns)
  clear hnx hN
  unfold GivesWaved at HWd
  unfold GivesSlice at HNu
  rw [HNL.out] at HNu
  generalize hnn : ns.length = n at *
  have HN := Lib.hid hnn
  clear hnn
  obtain ⟨n1, hn1⟩ : ∃ n1, n + 1 = n1 := ⟨_, rfl⟩
  have hn1i : (n : Int) + 1 = (n1 : Int) := by omega
  have hp2 := pick_lt (n := n1) (by omega) a2
  have HP2 := Lib.hid (pick_any a2 n1 · (by omega) (by omega) w2)
  generalize pick n1 a2 = i at *
  obtain ⟨n2, hn2⟩ : ∃ n2, n1 - i = n2 := ⟨_, rfl⟩
  have hn2i : (n1 : Int) - (i : Int) = (n2 : Int) := by omega
  have hp3 := pick_lt (n := n2) (by omega) a3
  have HP3 := Lib.hid (pick_any a3 n2 · (by omega) (by omega) w3)
  generalize pick n2 a3 = d at *
  obtain ⟨j, hj⟩ : ∃ j, i + d = j := ⟨_, rfl⟩
  have hji : (i : Int) + (d : Int) = (j : Int) := by omega
  have hij : i ≤ j := by omega
  have hjn : j ≤ n := by omega
  have hdj : (j : Int) - (i : Int) = (d : Int) := by omega
  have hdj2 : j - i = d := by omega
  obtain ⟨R, hR⟩ : ∃ R, (ns.drop i).take d = R := ⟨_, rfl⟩
  have hRl : R.length = d := by rw [← hR, List.length_take, List.length_drop]; have := HN.out; omega
  have hRm : ∀ x ∈ R, x < N := fun x hx => hxN x (by rw [← hR] at hx; exact List.mem_of_mem_drop (List.mem_of_mem_take hx))
  have hRs : R.sum ≤ 65536 := by
    have h1 := sum_le R N hRm
    have h2 : R.length * N ≤ 60 * 1024 := Nat.mul_le_mul (by omega) hN1
    omega
  have HRat := Lib.hid (fun q x (hq : ns[i + q]? = some x) (hqd : q < d) => show R[q]? = some x by rw [← hR, List.getElem?_take, if_pos hqd, List.getElem?_drop]; exact hq)
  have HRl := Lib.hid hRl
  have HR := Lib.hid hR
  have HNx := Lib.hid (fun q x (hq : ns[q]? = some x) => hxN x (List.mem_of_getElem? hq))
  clear hn1 hn2 hp2 hp3 hj hR hRl hRm hxN
  go_enter Try.func11, Try.ntmps11
  go_wp2_with fail
  refine (HP1.out _).mono ?_
  rintro e w' ⟨rfl, rfl⟩
  go_wp2_with fail
  refine HNu.out.mono ?_
  rintro e w1 ⟨A1, c1, rfl, hle1, hl1, hn1, _, hb1⟩
  have HL1 := Lib.hid hl1
  have HN1 := Lib.hid hn1
  clear hl1 hn1
  go_wp2_with fail
  refine (HWd.out A1 c1 _ HN1.out HL1.out).mono ?_
  rintro e w2' ⟨A2, vs, c2, rfl, hmade, hmat, _, _, hb2⟩
  have hV := HMW.out vs hmade
  have hvl := HML.out vs hmade
  obtain ⟨S, hSl, hSs, hSm, hSk⟩ := HRF.out vs hmade i j hij hjn
  rw [hdj2] at hSl hSs hSk
  rw [HR.out] at hSs
  have HKt := Lib.hid (fun (m : Nat) W (hm : m < j - i) hW => wkt_in n A2 vs c2 i j m W hV hW hjn hm)
  have HKn := Lib.hid (fun W hW => wkt_none n A2 vs c2 i j d W hV hW hij hjn (by omega))
  have HBl := Lib.hid (fun (x : Int) W hW => wbel_in n A2 vs c2 i j x W hV hW hij hjn)
  simp only [hvl] at HKt HKn HBl
  have HSl := Lib.hid hSl
  have HSs := Lib.hid hSs
  have HSm := Lib.hid hSm
  have HSk := Lib.hid hSk
  clear hvl hV hmade hSl hSs hSm hSk
  go_wp2_with fail
  have hX := Blk.new w2' 25 [.slice A2 kk c2]
  have HMat := Lib.hid (hmat.alloc (.cells #[.slice A2 kk c2] 25))
  have HL2 := Lib.hid ((HL1.out.on hb2).alloc (.cells #[.slice A2 kk c2] 25))
  have HB := Lib.hid (chain (chain hb1 hb2) (bnew w2' (.cells #[.slice A2 kk c2] 25)))
  generalize w2'.alloc (.cells #[.slice A2 kk c2] 25) = w3' at *
  have HX := Lib.hid hX
  have hXl := hX.lt
  clear hmat hb1 hb2 hX
  refine (HP2.out _).mono ?_
  rintro e w' ⟨rfl, rfl⟩
  go_wp2_with fail
  refine (HP3.out _).mono ?_
  rintro e w' ⟨rfl, rfl⟩
  go_wp2_with fail
  go_loop [16, 17] (fun s16 s17 => ∃ q : Nat, q ≤ d ∧ s17 = .int .i64 ((i + q : Nat) : Int) ∧ s16 = .int .i64 ((R.take q).sum : Nat)) (fun _ s17 => j - (intOf s17).toNat)
  case atStart => exact ⟨0, Nat.zero_le _, rfl, rfl⟩
  case round =>
    obtain ⟨q, hq, rfl, rfl⟩ := hrel
    have hsl := sum_take_le R q
    by_cases hlt : q < d
    · obtain ⟨b, o, y, rfl, hb, hy, hc⟩ := HL2.out.at_ (l := ns) (f := fun x : Nat => Value.int .i64 (x : Int)) (k := i + q) (by rw [HN.out]; omega)
      have hst := sum_take R q y (HRat.out q y hy hlt)
      have hy1 := HNx.out _ y hy
      have hsl2 := sum_take_le R (q + 1)
      obtain ⟨u, hu⟩ : ∃ u, (R.take q).sum = u := ⟨_, rfl⟩
      obtain ⟨u2, hu2⟩ : ∃ u2, (R.take (q + 1)).sum = u2 := ⟨_, rfl⟩
      rw [hu] at hsl
      rw [hu, hu2] at hst
      rw [hu]
      have hus : (u : Int) + (y : Int) = (u2 : Int) := by omega
      have hub : u2 ≤ 65536 := by omega
      have HU2 := Lib.hid hu2
      have HU := Lib.hid hu
      obtain ⟨z, hz⟩ : ∃ z, i + q = z := ⟨_, rfl⟩
      rw [hz] at hc ⊢
      have hzn : z < n := by omega
      have hzj : z < j := by omega
      have HZ := Lib.hid hz
      clear hy hst hsl hsl2 hu hu2 hz
      go_wp2_with fail
      go_round
      case rel => exact ⟨q + 1, by omega, by rw [← Nat.add_assoc, HZ.out]; go_num, by rw [HU2.out]⟩
      case measure => simp [intOf]; omega
    · obtain rfl : d = q := by omega
      have hRt : R.take d = R := List.take_of_length_le (by rw [HRl.out]; exact Nat.le_refl _)
      rw [hRt, ← HSs.out]
      have hiq : ((i + d : Nat) : Int) = (j : Int) := by omega
      rw [hiq]
      clear hRt hiq hsl
      go_wp2_with fail
      go_loopw [15, 16, 18] (fun s15 s16 s18 w' => ∃ m la : Nat, m ≤ d ∧ s18 = .int .i64 m ∧ s15 = .int .i64 la ∧ (∀ x, S[m]? = some x → la ≤ x) ∧ s16 = .int .i64 ((S.drop m).sum : Nat) ∧ Below w3'.heap.size w3' w') (fun _ _ s18 _ => d - (intOf s18).toNat)
      case atStart => exact ⟨0, 0, Nat.zero_le _, rfl, rfl, (fun x _ => Nat.zero_le _), rfl, Below.refl _ _⟩
      case round =>
        obtain ⟨m, la, hm, rfl, rfl, hla, rfl, hbl⟩ := hrel
        have HBel := Lib.hid hbl
        have q0 : wr.cell? ⟨w2'.heap.size, 0, none⟩ = some (.slice A2 kk c2) := (HX.out.below hbl hXl).cell 0
        have hlr : w2'.heap.size < wr.heap.size := Nat.lt_of_lt_of_le hXl hbl.size
        have hM0 := Lib.hid (HMat.out.on hbl)
        clear hbl
        have hsd := sum_drop_le S m
        by_cases hmd : m < d
        · obtain ⟨x, hx⟩ : ∃ x, S[m]? = some x := ⟨_, List.getElem?_eq_getElem (by rw [HSl.out]; exact hmd)⟩
          obtain ⟨hkv, u, v, hu, hv, hum, hmv, hvd⟩ := HSk.out m x hx
          have hlax := hla x hx
          have hsum := sum_drop S m x hx
          have hnext := Lib.hid (fun y hy => HSm.out m x y hx hy)
          have hK := fun W hW => HKt.out m W (by omega) hW
          rw [hkv] at hK
          have hB1 := fun W hW => HBl.out (x : Int) W hW
          rw [hu] at hB1
          have hB2 := fun W hW => HBl.out ((x : Int) + 1) W hW
          rw [hv] at hB2
          have HK1 := Lib.hid hK
          have HB1 := Lib.hid hB1
          have HB2 := Lib.hid hB2
          have hSR : S.sum ≤ 65536 := by rw [HSs.out]; exact hRs
          obtain ⟨sm, hsm⟩ : ∃ sm, (S.drop m).sum = sm := ⟨_, rfl⟩
          obtain ⟨sm2, hsm2⟩ : ∃ sm2, (S.drop (m + 1)).sum = sm2 := ⟨_, rfl⟩
          rw [hsm, hsm2] at hsum
          rw [hsm] at hsd ⊢
          have hsub : (sm : Int) - (x : Int) = (sm2 : Int) := by omega
          have HSM2 := Lib.hid hsm2
          have hx6 : x ≤ 65536 := by omega
          have hsm6 : sm ≤ 65536 := by omega
          have d1 : decide (x < la) = false := by simp; omega
          have d2 : decide (m < u) = false := by simp; omega
          have d3 : decide (v ≤ m) = false := by simp; omega
          have hu6 : u ≤ 300 := by omega
          have hv6 : v ≤ 300 := by omega
          clear hkv hu hv hx hK hB1 hB2 hsum hsm hsm2 hla hlax hum hmv hSR hsd
          go_wp2_with fail
          refine (HK1.out _ (by exact hM0.out)).mono ?_
          rintro e w4 ⟨rfl, hb4⟩
          have r0 : w4.cell? ⟨w2'.heap.size, 0, none⟩ = some (.slice A2 kk c2) := (bcell hb4 _ _ hlr).trans q0
          have hM4 := Lib.hid (hM0.out.on hb4)
          have hl4 := Nat.lt_of_lt_of_le hlr hb4.size
          have HB4 := Lib.hid (chain HBel.out hb4)
          clear q0 hb4
          go_wp2_with fail
          refine (HB1.out _ (by exact hM4.out)).mono ?_
          rintro e w5 ⟨rfl, hb5⟩
          have s0 : w5.cell? ⟨w2'.heap.size, 0, none⟩ = some (.slice A2 kk c2) := (bcell hb5 _ _ hl4).trans r0
          have hM5 := Lib.hid (hM4.out.on hb5)
          have HB5 := Lib.hid (chain HB4.out hb5)
          clear r0 hb5
          go_wp2_with fail
          refine (HB2.out _ (by exact hM5.out)).mono ?_
          rintro e w6 ⟨rfl, hb6⟩
          have HB6 := Lib.hid (chain HB5.out hb6)
          clear s0 hb6
          go_wp2_with fail
          go_roundw
          case rel => exact ⟨m + 1, x, by omega, by go_num, rfl, hnext.out, by rw [HSM2.out], HB6.out⟩
          case measure => simp [intOf]; omega
        · obtain rfl : d = m := by omega
          have hs0 : (S.drop d).sum = 0 := by rw [List.drop_of_length_le (by rw [HSl.out]; exact Nat.le_refl _)]; rfl
          rw [hs0]
          clear hs0 hsd
          go_wp2_with fail
          refine (HKn.out _ (by exact hM0.out)).mono ?_
          rintro e w4 ⟨rfl, hb4⟩
          go_wp2_with fail
          go_ret
          exact ⟨rfl, chain HB.out (chain HBel.out hb4)⟩

set_option maxRecDepth 100000 in
theorem lifted (os : Os) (started : os.Started) (H : Type) (enc : TypeId × Value → H) :
    ReturnsInHanded {} Try.checked os 11 .any (Rows.waveSortsSpec.pre6 enc Try.prog Try.f11 Rows.waveSortsRow.domain false) (Rows.waveSortsSpec.post enc Try.prog Try.f11 false true false false) := by
  refine returnsInHanded_of_change_sized (C := Try.checked) own started (by kernel_rfl) Try.func11
    (ChangeSpec.witness6 (enc := enc) (C := Try.checked) false ⟨#[], #[.slice none 0 0, .int .i64 0, .int .i64 0, .int .i64 0], []⟩ 8 (by kernel_rfl) (by kernel_rfl) (by kernel_rfl) (by kernel_rfl)) ?_
  intro W base args ds gs before hval0 hW hcnd hsz0 _
  have hval : ∀ (j : Nat) t v, Try.f11.params[j]? = some t → args[j]? = some v → Value.okWide Try.prog W .any base t v := hval0
  have hW' := hW
  obtain ⟨p, q, hA0, hV, rfl, hfz, hnd⟩ := hW
  have hA : DataW.TrodAll enc Try.prog W 0 (fun _ => true) true Try.f11.params.toList args.toList ds p := hA0
  have hsz : (DataW.weightsEach Try.prog (Try.f11.params.toList ++ Rows.waveSortsSpec.plain.varTypes Try.prog) (ds ++ gs)).all (· ≤ reachBytes) = true := hsz0
  rw [Try.params11] at hA hval hsz
  obtain ⟨v0, vs0, d0, ds0, p0, q0, hargs, rfl, rfl, h0, r0⟩ := trodAll_cons hA
  obtain ⟨v1, vs1, d1, ds1, p1, q1, rfl, rfl, rfl, h1, r1⟩ := trodAll_cons r0
  obtain ⟨v2, vs2, d2, ds2, p2, q2, rfl, rfl, rfl, h2, r2⟩ := trodAll_cons r1
  obtain ⟨v3, vs3, d3, ds3, p3, q3, rfl, rfl, rfl, h3, r3⟩ := trodAll_cons r2
  obtain ⟨rfl, rfl, rfl⟩ := trodAll_nil r3
  obtain rfl : args = #[v0, v1, v2, v3] := by cases args; simp_all
  obtain ⟨rfl, rfl⟩ := trodVars_none hV
  obtain ⟨A0, n0, c0, rfl⟩ := okWide_slice Try.underlying22 (hval 0 22 v0 rfl rfl)
  have k0 := h0
  have lt0 : ∀ x ∈ p0, x.block < W.heap.size := by obtain ⟨m, hm⟩ := k0; exact DataW.trod_lt m _ _ _ hm
  obtain ⟨fuel0, hf0⟩ := h0
  obtain ⟨A0_, l0, c0_, hcs0, hle0, hcap0, hnil0, w0⟩ := rd_ints Try.underlying22 Try.underlying3 (by kernel_rfl) (by kernel_rfl) hf0 (weight_arg hsz (j := 0) (t := 22) rfl rfl)
  have hcs0_ : [Value.slice A0 n0 c0] = [.slice A0_ l0.length c0_] := hcs0
  simp only [List.cons.injEq, Value.slice.injEq, and_true] at hcs0_
  obtain ⟨rfl, rfl, rfl⟩ := hcs0_
  clear hcs0
  obtain ⟨a1, rfl, rfl, rfl, w1⟩ := open_int Try.underlying3 (hval 1 3 v1 rfl rfl) h1
  obtain ⟨a2, rfl, rfl, rfl, w2⟩ := open_int Try.underlying3 (hval 2 3 v2 rfl rfl) h2
  obtain ⟨a3, rfl, rfl, rfl, w3⟩ := open_int Try.underlying3 (hval 3 3 v3 rfl rfl) h3
  clear hA0 hval0
  refine (walk A0 l0 c0 a1 a2 a3 W hle0 hcap0 hnil0 w0 w1 w2 w3).mono fun e W' ⟨he, bel⟩ => ?_
  subst he
  exact ⟨_, rfl, _, _, _, [], _, [], hW', trodAll_mk1 (shut_bool Try.underlying4 _), (trodAll_cons_mk (Below.trod laidOut (by kernel_rfl) (of_decide_eq_true (by kernel_rfl)) k0 bel lt0) (trodAll_cons_mk (shut_int Try.underlying3 w1) (trodAll_cons_mk (shut_int Try.underlying3 w2) (trodAll_cons_mk (shut_int Try.underlying3 w3) trodAll_mk0)))), rfl, bel.frame _, fun h => by cases h⟩

theorem over : Rows.waveSortsRow.holds Try.pinned (OpenSpec.ofChange Rows.waveSortsSpec) :=
  OpenClaim.holds_of_wide 11 Try.f11 rfl rfl rfl rfl rfl rfl rfl ⟨rfl, rfl, rfl, rfl, rfl⟩ rfl rfl rfl rfl rfl (by kernel_rfl) Try.func11 (by kernel_rfl)
    (of_decide_eq_true (by kernel_rfl)) (by unfold Func.isWrapper; first | (rw [if_pos (by decide +kernel)]; kernel_rfl) | (rw [if_neg (by decide +kernel)]; exact ⟨rfl, rfl⟩))
    (fun os started H enc _ => lifted os started H enc)

/-- THE STATEMENT. -/
theorem proved : Rows.WaveSortsSaid := over
#print axioms proved
end Go.Proofs.Ytefgfkicacbmeaa.waveSorts
