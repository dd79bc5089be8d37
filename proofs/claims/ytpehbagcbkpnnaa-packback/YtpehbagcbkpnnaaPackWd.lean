/-
  What pack.Wide, and the document's answer to it, return: contracts, walked over the translated text. No condition but what each theorem names.
-/
import Derived.Test.YtpehbagcbkpnnaaPop
import Derived.Test.YtpehbagcbkpnnaaPacks
import Derived.Test.YtpehbagcbkpnnaaMem
import Derived.IntWalk
namespace Go.Proofs.Ytpehbagcbkpnnaa
open Go.RowKit Words

theorem len8_val (x : Int) (h0 : 0 ≤ x) (h1 : x < 256) (h : x.toNat < Lib.len8tab.size) : ((Lib.len8tab[x.toNat]'h).toNat : Int) = (Lib.bitLen x.toNat : Int) ∧ Lib.bitLen x.toNat ≤ 8 := by
  have e := Lib.len8_of x h0 (by omega)
  refine ⟨?_, Lib.bitLen_le8' x h0 (by omega)⟩
  rw [← e]
  unfold Lib.len8
  rw [ByteArray.getElem?_lt' _ _ h]
  rfl

theorem wrap64_small (n : Nat) (h : n < 1000) : wrap64 (n : Int) = (n : Int) := by unfold wrap64; omega

theorem len_end (x Y : Int) (K N : Nat) (hN : N = 2 ^ K) (hK : K ≤ 56) (h0 : 0 ≤ x) (h1 : x ≤ 18446744073709551615) (hY : Y = x / (N : Int)) (hlt : Y < 256) (hge : (N : Int) ≤ x) (h : Y.toNat < Lib.len8tab.size) :
    wrap64 ((K : Int) + wrap64 ((Lib.len8tab[Y.toNat]'h).toNat : Int)) = (Lib.bitLen x.toNat : Int) := by
  obtain ⟨n, rfl⟩ := Int.eq_ofNat_of_zero_le h0
  have hYn : Y = ((n / N : Nat) : Int) := by rw [hY]; simp
  have hYt : Y.toNat = n / N := by rw [hYn]; rfl
  have hpos : 0 ≤ Y := by rw [hYn]; exact Int.natCast_nonneg _
  obtain ⟨e1, e2⟩ := len8_val Y hpos hlt h
  rw [e1]
  rw [hYt] at e2 ⊢
  have s := Lib.bitLen_shift K n (by rw [← hN]; omega) (by omega)
  rw [← hN] at s
  rw [show (((n : Nat) : Int)).toNat = n from rfl, s]
  generalize Lib.bitLen (n / N) = b at *
  rw [wrap64_small b (by omega)]
  exact wrap64_small (K + b) (by omega)

theorem len_end0 (x : Int) (h0 : 0 ≤ x) (hlt : x < 256) (h : x.toNat < Lib.len8tab.size) :
    wrap64 (wrap64 ((Lib.len8tab[x.toNat]'h).toNat : Int)) = (Lib.bitLen x.toNat : Int) := by
  obtain ⟨e1, e2⟩ := len8_val x h0 hlt h
  rw [e1, wrap64_small _ (by omega), wrap64_small _ (by omega)]

set_option maxHeartbeats 4000000 in
set_option maxRecDepth 100000 in
/-- math/bits.Len64: how many bits a number needs. -/
theorem len64_any (x : Int) (w : World) (h0 : 0 ≤ x) (h1 : x ≤ 18446744073709551615) :
    Calls Try.prog 27 #[.int .u64 x] w fun e w' => e = .returned (.int .i64 (Lib.bitLen x.toNat)) ∧ w' = w := by
  have hsz : (Lib.len8tab.size : Int) = 256 := by rw [Lib.len8tab_size]; rfl
  go_enter Try.func27, Try.ntmps27
  go_wp2
  all_goals (go_ret; refine ⟨congrArg Ending.returned (congrArg (Value.int IntKind.i64) ?_), rfl⟩)
  · exact len_end x _ 56 72057594037927936 (by decide) (by decide) h0 h1 (by omega) (by omega) (by omega) _
  · exact len_end x _ 48 281474976710656 (by decide) (by decide) h0 h1 (by omega) (by omega) (by omega) _
  · exact len_end x _ 40 1099511627776 (by decide) (by decide) h0 h1 (by omega) (by omega) (by omega) _
  · exact len_end x _ 32 4294967296 (by decide) (by decide) h0 h1 (by omega) (by omega) (by omega) _
  · exact len_end x _ 24 16777216 (by decide) (by decide) h0 h1 (by omega) (by omega) (by omega) _
  · exact len_end x _ 16 65536 (by decide) (by decide) h0 h1 (by omega) (by omega) (by omega) _
  · exact len_end x _ 8 256 (by decide) (by decide) h0 h1 (by omega) (by omega) (by omega) _
  · exact len_end0 x h0 (by omega) _

theorem wrap_neg (v : Int) (h0 : v < 0) (h1 : -9223372036854775808 ≤ v) : IntKind.u64.wrap v = ((v + 18446744073709551616).toNat : Int) := by rw [IntKind.wrap_u64]; omega

/-- A number that is not negative and fits into d bits. -/
def Fit (d : Nat) (v : Int) : Prop := 0 ≤ v ∧ v < (2 ^ d : Nat)
instance (d : Nat) (v : Int) : Decidable (Fit d v) := by unfold Fit; infer_instance

/-- pack.fits. -/
theorem fits_any (v : Int) (d : Nat) (w : World) (hw : (Lit.int .i64 v).wf = true) (hd : d ≤ 62) :
    Calls Try.prog 22 #[.int .i64 v, .int .i64 d] w fun e w' => e = .returned (.bool (decide (Fit d v))) ∧ w = w' := by
  have hb := bounds_i64 hw
  have hp := pow62 hd
  clear hw
  by_cases h0 : v < 0
  · have hwr := wrap_neg v h0 hb.1
    obtain ⟨y, hy⟩ : ∃ y : Nat, y = (v + 18446744073709551616).toNat := ⟨_, rfl⟩
    rw [← hy] at hwr
    have hge : 9223372036854775808 ≤ y := by omega
    have hz : ((y : Int) / 2 ^ d == 0) = false := by
      have e : ((y : Int) / 2 ^ d) = ((y / 2 ^ d : Nat) : Int) := by simp
      have : 0 < y / 2 ^ d := Nat.div_pos (by omega) (Nat.two_pow_pos d)
      rw [e, beq_eq_false_iff_ne]
      omega
    have hf : decide (Fit d v) = false := decide_eq_false fun h => by have := h.1; omega
    rw [hf]
    clear hf hy hp
    go_enter Try.func22, Try.ntmps22
    go_wp2
    go_ret
    exact ⟨rfl, rfl⟩
  · obtain ⟨y, rfl⟩ := Int.eq_ofNat_of_zero_le (a := v) (by omega)
    have e : ((y : Int) / 2 ^ d) = ((y / 2 ^ d : Nat) : Int) := by simp
    have hz : ((y : Int) / 2 ^ d == 0) = decide (Fit d y) := by
      rw [e]
      by_cases hl : y < 2 ^ d
      · rw [Nat.div_eq_of_lt hl]; simp [Fit]; exact_mod_cast hl
      · have : 0 < y / 2 ^ d := Nat.div_pos (by omega) (Nat.two_pow_pos d)
        have hf : decide (Fit d y) = false := by
          simp only [decide_eq_false_iff_not]
          rintro ⟨_, h⟩
          exact hl (by exact_mod_cast h)
        rw [hf, beq_eq_false_iff_ne]
        omega
    generalize decide (Fit d (y : Int)) = t at *
    clear e hp
    go_enter Try.func22, Try.ntmps22
    go_wp2
    go_ret
    exact ⟨rfl, rfl⟩

/-- The smallest width of all numbers of a list. -/
def wideOf (l : List Int) : Nat := l.foldl (fun m z => max m (Lib.bitLen z.toNat)) 0

theorem wideOf_step (l : List Int) (i : Nat) (z : Int) (h : l[i]? = some z) : wideOf (l.take (i + 1)) = max (wideOf (l.take i)) (Lib.bitLen z.toNat) := by
  unfold wideOf
  rw [List.take_add_one, h]
  simp [List.foldl_append]

/-- What the document asks of Wide. -/
def wideAns (l : List Int) : Nat × Nat := if (∀ z ∈ l, Fit 62 z) then (wideOf l, 0) else (0, 2)

theorem wideAns_good {l : List Int} (h : ∀ i z, i < l.length → l[i]? = some z → Fit 62 z) : wideAns l = (wideOf l, 0) := if_pos fun z hz => by
  obtain ⟨i, hi, e⟩ := List.getElem_of_mem hz
  exact h i z hi (by rw [List.getElem?_eq_getElem hi, e])
theorem wideAns_bad {l : List Int} {i : Nat} {z : Int} (h : l[i]? = some z) (hz : ¬ Fit 62 z) : wideAns l = (0, 2) := if_neg fun hh => hz (hh z (List.mem_of_getElem? h))

theorem bitLen_62 {z : Int} (h : Fit 62 z) : Lib.bitLen z.toNat ≤ 62 := by
  have h2 : z < 4611686018427387904 := h.2
  rw [bitLen_lt _ (by omega)]
  show z.toNat < 4611686018427387904
  omega

set_option maxHeartbeats 1000000 in
/-- pack.Wide. -/
theorem wide_any (A : Option Addr) (l : List Int) (c : Nat) (w : World) (hn : l.length ≤ 140737488351232) (hw : ∀ z ∈ l, (Lit.int .i64 z).wf = true) (hL : Lies w w.heap.size A (l.map (.int .i64))) :
    Calls Try.prog 16 #[.slice A l.length c] w fun e w' => e = .returned (.tuple #[.int .i64 ((wideAns l).1 : Nat), .int .i64 ((wideAns l).2 : Nat)]) ∧ w = w' := by
  have HL := Lib.hid hL
  have HW := Lib.hid hw
  clear hL hw
  generalize hk : l.length = n at *
  have HN := Lib.hid hk
  clear hk
  go_enter Try.func16, Try.ntmps16
  go_wp2
  go_loop [4, 9] (fun m v => ∃ i y : Nat, i ≤ n ∧ v = .int .i64 i ∧ m = .int .i64 y ∧ y ≤ 62 ∧ y = wideOf (l.take i) ∧ ∀ j z, j < i → l[j]? = some z → Fit 62 z) (fun _ v => n - (intOf v).toNat)
  case atStart => exact ⟨0, 0, Nat.zero_le _, rfl, rfl, by omega, rfl, fun j z h => by omega⟩
  case round =>
    obtain ⟨i, y, hi, rfl, rfl, hy62, hy, hz⟩ := hrel
    have HY := Lib.hid hy
    have HZ := Lib.hid hz
    clear hy hz
    by_cases hlt : i < n
    · obtain ⟨b, o, z, rfl, hb, hx, hc⟩ := HL.out.at_ (k := i) (by rw [HN.out]; exact hlt)
      have HX := Lib.hid hx
      have HF := Lib.hid (fits_any z 62 · (HW.out z (List.mem_of_getElem? hx)) (by omega))
      clear hx
      by_cases hf : Fit 62 z
      · have hd : decide (Fit 62 z) = true := by simpa using hf
        rw [hd] at HF
        have h2 : z < 4611686018427387904 := hf.2
        obtain ⟨x, rfl⟩ := Int.eq_ofNat_of_zero_le hf.1
        have HLen := Lib.hid (len64_any (x : Int) · (by omega) (by omega))
        have h62 := bitLen_62 hf
        have HST := Lib.hid (wideOf_step l i (x : Int) HX.out)
        have HFit := Lib.hid hf
        clear hf hd
        rw [show ((x : Nat) : Int).toNat = x from rfl] at HLen h62 HST
        generalize Lib.bitLen x = bl at *
        go_wp2_with (first
          | (go_at_call 22; refine (HF.out _).mono ?_; rintro e w' ⟨rfl, rfl⟩)
          | (go_at_call 27; refine (HLen.out _).mono ?_; rintro e w' ⟨rfl, rfl⟩))
        go_round
        case rel => exact ⟨i + 1, max y bl, by omega, by go_num, congrArg (Value.int IntKind.i64) (by split <;> omega), by omega, by rw [HST.out, HY.out], fun j z hj hz => by
          by_cases e : j = i
          · rw [e, HX.out] at hz
            rw [← Option.some.inj hz]
            exact HFit.out
          · exact HZ.out j z (by omega) hz⟩
        case measure => simp [intOf]; omega
      · have hd : decide (Fit 62 z) = false := by simpa using hf
        rw [hd] at HF
        have HA := Lib.hid (wideAns_bad HX.out hf)
        clear hf hd
        go_wp2_with (go_at_call 22; refine (HF.out _).mono ?_; rintro e w' ⟨rfl, rfl⟩)
        rw [HA.out]
        go_ret2
        exact ⟨rfl, rfl⟩
    · obtain rfl : i = n := by omega
      have HA := Lib.hid (wideAns_good (l := l) fun j z hj => HZ.out j z (by rw [HN.out] at hj; exact hj))
      have HT := Lib.hid (show wideOf l = y by rw [HY.out, ← HN.out, List.take_length])
      go_wp2
      rw [HA.out, HT.out]
      go_ret2
      exact ⟨rfl, rfl⟩

theorem pow_int2 (k : Nat) (h : k < 63) : IntKind.i64.wrap (2 ^ k) = ((2 ^ k : Nat) : Int) := by
  have hp : 2 ^ k ≤ 4611686018427387904 := pow62 (by omega)
  have e : ((2 : Int) ^ k) = ((2 ^ k : Nat) : Int) := by simp
  rw [e, IntKind.wrap_i64]
  generalize 2 ^ k = p at *
  omega

set_option maxHeartbeats 1000000 in
/-- The document's Wide. -/
theorem rwide_any (A : Option Addr) (l : List Int) (c : Nat) (w : World) (hn : l.length ≤ 140737488351232) (hL : Lies w w.heap.size A (l.map (.int .i64))) :
    Calls Try.prog 17 #[.slice A l.length c] w fun e w' => e = .returned (.tuple #[.int .i64 ((wideAns l).1 : Nat), .int .i64 ((wideAns l).2 : Nat)]) ∧ w = w' := by
  have HL := Lib.hid hL
  clear hL
  generalize hk : l.length = n at *
  have HN := Lib.hid hk
  clear hk
  go_enter Try.func17, Try.ntmps17
  go_wp2
  go_loop [4, 9] (fun m v => ∃ i y : Nat, i ≤ n ∧ v = .int .i64 i ∧ m = .int .i64 y ∧ y ≤ 62 ∧ y = wideOf (l.take i) ∧ ∀ j z, j < i → l[j]? = some z → Fit 62 z) (fun _ v => n - (intOf v).toNat)
  case atStart => exact ⟨0, 0, Nat.zero_le _, rfl, rfl, by omega, rfl, fun j z h => by omega⟩
  case round =>
    obtain ⟨i, y, hi, rfl, rfl, hy62, hy, hz⟩ := hrel
    have HY := Lib.hid hy
    have HZ := Lib.hid hz
    clear hy hz
    by_cases hlt : i < n
    · obtain ⟨b, o, z, rfl, hb, hx, hc⟩ := HL.out.at_ (k := i) (by rw [HN.out]; exact hlt)
      have HX := Lib.hid hx
      clear hx
      by_cases hf : Fit 62 z
      · have h2 : z < 4611686018427387904 := hf.2
        obtain ⟨x, rfl⟩ := Int.eq_ofNat_of_zero_le hf.1
        have h62 := bitLen_62 hf
        have HST := Lib.hid (wideOf_step l i (x : Int) HX.out)
        have HFit := Lib.hid hf
        have HBL := Lib.hid (bitLen_lt x (by omega))
        clear hf
        rw [show ((x : Nat) : Int).toNat = x from rfl] at h62 HST
        generalize Lib.bitLen x = bl at *
        have hd0 : decide ((x : Int) < 0) = false := by simp
        have hd1 : decide (4611686018427387904 ≤ (x : Int)) = false := by simp; omega
        go_wp2
        go_loop [4] (fun m => ∃ q : Nat, m = .int .i64 q ∧ y ≤ q ∧ q ≤ max y bl) (fun m => 64 - (intOf m).toNat)
        case atStart => exact ⟨y, rfl, Nat.le_refl _, by omega⟩
        case round =>
          obtain ⟨q, rfl, hq1, hq2⟩ := hrel
          have hpi := pow_int2 q (by omega)
          have hq62 : q ≤ 62 := by omega
          by_cases hbl : bl ≤ q
          · have hlt2 := (HBL.out q).1 hbl
            generalize 2 ^ q = pw at *
            have hdd : decide (pw ≤ x) = false := by simp; omega
            go_wp2
            go_round
            case rel => exact ⟨i + 1, q, by omega, by go_num, rfl, by omega, by rw [HST.out, ← HY.out]; omega, fun j z hj hz => by
              by_cases e : j = i
              · rw [e, HX.out] at hz
                rw [← Option.some.inj hz]
                exact HFit.out
              · exact HZ.out j z (by omega) hz⟩
            case measure => simp [intOf]; omega
          · have hge : ¬ x < 2 ^ q := fun h => hbl ((HBL.out q).2 h)
            generalize 2 ^ q = pw at *
            have hdd : decide (pw ≤ x) = true := by simp; omega
            go_wp2
            go_round
            case rel => exact ⟨q + 1, by go_num, by omega, by omega⟩
            case measure => simp [intOf]; omega
      · have HA := Lib.hid (wideAns_bad HX.out hf)
        by_cases h0 : z < 0
        · have hd : decide (z < 0) = true := by simpa using h0
          clear hf
          go_wp2
          rw [HA.out]
          go_ret2
          exact ⟨rfl, rfl⟩
        · have hd : decide (z < 0) = false := by simpa using h0
          have hd1 : decide (4611686018427387904 ≤ z) = true := by
            simp only [decide_eq_true_eq]
            rcases Int.lt_or_le z 4611686018427387904 with h | h
            · exact absurd ⟨by omega, h⟩ hf
            · exact h
          clear hf
          go_wp2
          rw [HA.out]
          go_ret2
          exact ⟨rfl, rfl⟩
    · obtain rfl : i = n := by omega
      have HA := Lib.hid (wideAns_good (l := l) fun j z hj => HZ.out j z (by rw [HN.out] at hj; exact hj))
      have HT := Lib.hid (show wideOf l = y by rw [HY.out, ← HN.out, List.take_length])
      go_wp2
      rw [HA.out, HT.out]
      go_ret2
      exact ⟨rfl, rfl⟩
end Go.Proofs.Ytpehbagcbkpnnaa
