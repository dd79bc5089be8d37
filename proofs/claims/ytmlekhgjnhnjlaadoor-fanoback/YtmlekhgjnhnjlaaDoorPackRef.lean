/-
  What the document's answers to pack.May and pack.At return: contracts, walked over the translated text. No condition but what each theorem names.
-/
import Derived.Test.YtmlekhgjnhnjlaaDoorPackRd
namespace Go.Proofs.YtmlekhgjnhnjlaaDoor
open Go.RowKit Words

/-- The document's May: not valid by its numbers. -/
theorem rpmay_num (n d : Int) (s : Value) (w : World) (h : n < 0 ∨ 300 < n ∨ d < 0 ∨ 62 < d) :
    Calls Tryd.prog 18 #[.agg #[.int .i64 n, .int .i64 d, s]] w fun e w' => e = .returned (.bool false) ∧ Below w.heap.size w w' := by
  by_cases h0 : n < 0
  · clear h
    have hd : decide (n < 0) = true := by simpa using h0
    go_enter Tryd.func18, Tryd.ntmps18
    go_wp2
    go_ret
    exact ⟨rfl, bnew _ _⟩
  have hd : decide (n < 0) = false := by simpa using h0
  by_cases h1 : 300 < n
  · clear h
    have hd1 : decide (300 < n) = true := by simpa using h1
    go_enter Tryd.func18, Tryd.ntmps18
    go_wp2
    go_ret
    exact ⟨rfl, bnew _ _⟩
  have hd1 : decide (300 < n) = false := by simpa using h1
  by_cases h2 : d < 0
  · clear h
    have hd2 : decide (d < 0) = true := by simpa using h2
    go_enter Tryd.func18, Tryd.ntmps18
    go_wp2
    go_ret
    exact ⟨rfl, bnew _ _⟩
  have hd2 : decide (d < 0) = false := by simpa using h2
  have hd3 : decide (62 < d) = true := by simp; omega
  clear h
  go_enter Tryd.func18, Tryd.ntmps18
  go_wp2
  go_ret
  exact ⟨rfl, bnew _ _⟩

/-- The document's May: the number of words is another one. -/
theorem rpmay_len (n d u : Nat) (A : Option Addr) (k c : Nat) (w : World) (hk : k ≤ 17592186044416) (hn : n ≤ 300) (hd : d ≤ 62) (hu : n * d = u) (h : k ≠ (u + 63) / 64) :
    Calls Tryd.prog 18 #[.agg #[.int .i64 n, .int .i64 d, .slice A k c]] w fun e w' => e = .returned (.bool false) ∧ Below w.heap.size w w' := by
  have hb := mul_bound hn hd
  rw [hu] at hb
  have hmul : (n : Int) * (d : Int) = (u : Int) := by rw [← hu]; simp
  clear hu
  have h0 : decide ((n : Int) < 0) = false := by simp
  have h1 : decide (300 < (n : Int)) = false := by simp; omega
  have h2 : decide ((d : Int) < 0) = false := by simp
  have h3 : decide (62 < (d : Int)) = false := by simp; omega
  by_cases h4 : 64 * k < u
  · clear h
    have hd2 : decide (64 * (k : Int) < (u : Int)) = true := by simp; omega
    go_enter Tryd.func18, Tryd.ntmps18
    go_wp2
    go_ret
    exact ⟨rfl, bnew _ _⟩
  · have hd2 : decide (64 * (k : Int) < (u : Int)) = false := by simp; omega
    have hd3 : decide ((u : Int) + 64 ≤ 64 * (k : Int)) = true := by simp; omega
    clear h
    go_enter Tryd.func18, Tryd.ntmps18
    go_wp2
    go_ret
    exact ⟨rfl, bnew _ _⟩

set_option maxHeartbeats 1000000 in
/-- The document's May: the bits beyond the last one. -/
theorem rpmay_in (n d u : Nat) (A : Option Addr) (ws : List Nat) (c : Nat) (w : World) (hn : n ≤ 300) (hd : d ≤ 62) (hu : n * d = u) (hl : ws.length = (u + 63) / 64) (hW : Words64 w w.heap.size A ws) (t : Bool) (ht : t = true ↔ PValid n d ws) :
    Calls Tryd.prog 18 #[.agg #[.int .i64 n, .int .i64 d, .slice A ws.length c]] w fun e w' => e = .returned (.bool t) ∧ Below w.heap.size w w' := by
  have hbd := mul_bound hn hd
  rw [hu] at hbd
  have hmul : (n : Int) * (d : Int) = (u : Int) := by rw [← hu]; simp
  have HU := Lib.hid hu
  have HL := Lib.hid hl
  have HT := Lib.hid ht
  have HWs := Lib.hid hW
  have hlo : u ≤ 64 * ws.length := by omega
  have hhi : 64 * ws.length < u + 64 := by omega
  clear hl ht hW hu
  generalize hk : ws.length = k at *
  have HK := Lib.hid hk
  clear hk
  have h0 : decide ((n : Int) < 0) = false := by simp
  have h1 : decide (300 < (n : Int)) = false := by simp; omega
  have h2 : decide ((d : Int) < 0) = false := by simp
  have h3 : decide (62 < (d : Int)) = false := by simp; omega
  have hd2 : decide (64 * (k : Int) < (u : Int)) = false := by simp; omega
  have hd3 : decide ((u : Int) + 64 ≤ 64 * (k : Int)) = false := by simp; omega
  go_enter Tryd.func18, Tryd.ntmps18
  go_wp2
  go_loop [4] (fun v => ∃ i : Nat, u ≤ i ∧ i ≤ 64 * k ∧ v = .int .i64 i ∧ ∀ p, u ≤ p → p < i → bit ws p = false) (fun v => 64 * k - (intOf v).toNat)
  case atStart => exact ⟨u, Nat.le_refl _, hlo, rfl, fun p h1 h2 => by omega⟩
  case round =>
    obtain ⟨i, hi1, hi2, rfl, hz⟩ := hrel
    have HZ := Lib.hid hz
    clear hz
    by_cases hlt : i < 64 * k
    · obtain ⟨b, o, x, rfl, hb, hx, hxl, hc⟩ := HWs.out.at_ (k := i / 64) (by rw [HK.out]; omega)
      have hbo := Lib.hid (bitOf_any x (i % 64) · hxl (by omega))
      have hbit : bit ws i = x.testBit (i % 64) := by unfold bit; simp [List.getD, hx]
      have HX := Lib.hid hx
      clear hx
      cases hxb : x.testBit (i % 64)
      all_goals
        rw [hxb] at hbit hbo
        have HB := Lib.hid hbit
        clear hbit hxb
        go_wp2_with (go_at_call 33; refine (hbo.out _).mono ?_; rintro e w' ⟨rfl, rfl⟩)
      · go_round
        case rel => exact ⟨i + 1, by omega, by omega, by go_num, fun p h1 h2 => by
          by_cases e : p = i
          · rw [e]; exact HB.out
          · exact HZ.out p h1 (by omega)⟩
        case measure => simp [intOf]; omega
      · go_ret
        have hf : t = false := by
          cases t with
          | false => rfl
          | true =>
            have h1 := (HT.out.1 rfl).top i (by rw [HU.out]; omega) (by rw [HK.out]; omega)
            rw [HB.out] at h1
            cases h1
        rw [hf]
        exact ⟨rfl, bnew _ _⟩
    · obtain rfl : i = 64 * k := by omega
      have hf : t = true := HT.out.2 ⟨hn, hd, HK.out.trans (HL.out.trans (by rw [HU.out])), fun p h1 h2 => HZ.out p (by rw [← HU.out]; exact h1) (by rw [HK.out] at h2; omega)⟩
      subst hf
      go_wp2
      go_ret
      exact ⟨rfl, bnew _ _⟩

/-- The document's May of a valid array. -/
theorem rpmay_yes (n d : Nat) (A : Option Addr) (ws : List Nat) (c : Nat) (w : World) (hV : PValid n d ws) (hW : Words64 w w.heap.size A ws) :
    Calls Tryd.prog 18 #[.agg #[.int .i64 n, .int .i64 d, .slice A ws.length c]] w fun e w' => e = .returned (.bool true) ∧ Below w.heap.size w w' :=
  rpmay_in n d _ A ws c w hV.hi hV.wide rfl hV.len hW true ⟨fun _ => hV, fun _ => rfl⟩

/-- The document's May of what is not valid. -/
theorem rpmay_no (n d : Int) (A : Option Addr) (ws : List Nat) (c : Nat) (w : World) (hV : ∀ m k : Nat, n = m → d = k → ¬ PValid m k ws) (hk : ws.length ≤ 17592186044416) (hW : Words64 w w.heap.size A ws) :
    Calls Tryd.prog 18 #[.agg #[.int .i64 n, .int .i64 d, .slice A ws.length c]] w fun e w' => e = .returned (.bool false) ∧ Below w.heap.size w w' := by
  by_cases h : n < 0 ∨ 300 < n ∨ d < 0 ∨ 62 < d
  · exact rpmay_num n d _ w h
  · obtain ⟨m, rfl⟩ := Int.eq_ofNat_of_zero_le (a := n) (by omega)
    obtain ⟨k, rfl⟩ := Int.eq_ofNat_of_zero_le (a := d) (by omega)
    by_cases hl : ws.length = (m * k + 63) / 64
    · exact rpmay_in m k _ A ws c w (by omega) (by omega) rfl hl hW false ⟨(fun h => by cases h), fun h => absurd h (hV m k rfl rfl)⟩
    · exact rpmay_len m k _ A ws.length c w hk (by omega) (by omega) rfl hl

set_option maxHeartbeats 400000 in
/-- The document's At of what is not valid. -/
theorem rpat_form (n d i : Int) (A : Option Addr) (ws : List Nat) (c : Nat) (w : World) (hV : ∀ m k : Nat, n = m → d = k → ¬ PValid m k ws) (hk : ws.length ≤ 17592186044416) (hW : Words64 w w.heap.size A ws) :
    Calls Tryd.prog 21 #[.agg #[.int .i64 n, .int .i64 d, .slice A ws.length c], .int .i64 i] w fun e w' => e = .returned (.tuple #[.int .i64 0, .int .i64 4]) ∧ Below w.heap.size w w' := by
  have HM := Lib.hid (fun W (h : Words64 W W.heap.size A ws) => rpmay_no n d A ws c W hV hk h)
  have HW := Lib.hid hW
  clear hW hV
  go_enter Tryd.func21, Tryd.ntmps21
  go_wp2_with (go_at_call 18; refine (HM.out _ (by exact HW.out.alloc _)).mono ?_; rintro e w1 ⟨rfl, hb1⟩)
  go_ret2
  exact ⟨rfl, chain (bnew _ _) hb1⟩

set_option maxHeartbeats 400000 in
/-- The document's At at a number that the array has not. -/
theorem rpat_out (n d : Nat) (i : Int) (A : Option Addr) (ws : List Nat) (c : Nat) (w : World) (hV : PValid n d ws) (hW : Words64 w w.heap.size A ws) (h : i < 0 ∨ (n : Int) ≤ i) :
    Calls Tryd.prog 21 #[.agg #[.int .i64 n, .int .i64 d, .slice A ws.length c], .int .i64 i] w fun e w' => e = .returned (.tuple #[.int .i64 0, .int .i64 2]) ∧ Below w.heap.size w w' := by
  have HM := Lib.hid (fun W (h : Words64 W W.heap.size A ws) => rpmay_yes n d A ws c W hV h)
  have HW := Lib.hid hW
  clear hW hV
  have hh : i < 0 ∨ (¬ i < 0 ∧ (n : Int) ≤ i) := by omega
  clear h
  rcases hh with h0 | ⟨h0, h1⟩
  all_goals
    go_enter Tryd.func21, Tryd.ntmps21
    go_wp2_with (go_at_call 18; refine (HM.out _ (by exact HW.out.alloc _)).mono ?_; rintro e w1 ⟨rfl, hb1⟩; have hc1 := bcell hb1)
    go_ret2
    exact ⟨rfl, chain (bnew _ _) hb1⟩

theorem pow_int (k : Nat) (h : k < 63) : IntKind.i64.wrap (2 ^ k) = ((2 ^ k : Nat) : Int) := by
  have hp : 2 ^ k ≤ 4611686018427387904 := pow62 (by omega)
  have e : ((2 : Int) ^ k) = ((2 ^ k : Nat) : Int) := by simp
  rw [e, IntKind.wrap_i64]
  generalize 2 ^ k = p at *
  omega

set_option maxHeartbeats 1000000 in
/-- The document's At: the number, bit by bit. -/
theorem rpat_in (n d i : Nat) (A : Option Addr) (ws : List Nat) (c : Nat) (w : World) (hV : PValid n d ws) (hW : Words64 w w.heap.size A ws) (h : i < n) :
    Calls Tryd.prog 21 #[.agg #[.int .i64 n, .int .i64 d, .slice A ws.length c], .int .i64 i] w fun e w' => e = .returned (.tuple #[.int .i64 (numAt ws d i : Nat), .int .i64 0]) ∧ Below w.heap.size w w' := by
  have HM := Lib.hid (fun W (h : Words64 W W.heap.size A ws) => rpmay_yes n d A ws c W hV h)
  have HW := Lib.hid hW
  have hl := hV.len
  have hd := hV.wide
  have hn := hV.hi
  have hb := mul_bound hn hd
  have h1 : (i + 1) * d ≤ n * d := Nat.mul_le_mul_right d h
  rw [Nat.add_mul, Nat.one_mul] at h1
  have hroom : i * d + d ≤ 64 * ws.length := by omega
  have hub : i * d ≤ 18600 := by omega
  have hmul : (i : Int) * (d : Int) = ((i * d : Nat) : Int) := by simp
  unfold numAt
  clear hl hb h1 hV hW
  generalize i * d = u at *
  generalize hk : ws.length = k at *
  have HK := Lib.hid hk
  clear hk
  have hd0 : decide ((i : Int) < 0) = false := by simp
  have hd1 : decide (n ≤ i) = false := by simp; omega
  go_enter Tryd.func21, Tryd.ntmps21
  go_wp2_with (go_at_call 18; refine (HM.out _ (by exact HW.out.alloc _)).mono ?_; rintro e w1 ⟨rfl, hb1⟩; have hc1 := bcell hb1)
  go_loop [6, 7] (fun x v => ∃ q : Nat, q ≤ d ∧ v = .int .i64 q ∧ x = .int .i64 (packTo (fun k => bit ws (u + k)) q : Nat)) (fun _ v => d - (intOf v).toNat)
  case atStart => exact ⟨0, Nat.zero_le _, rfl, rfl⟩
  case round =>
    obtain ⟨q, hq, rfl, rfl⟩ := hrel
    by_cases hlt : q < d
    · obtain ⟨b, o, x, rfl, hb, hx, hxl, hc⟩ := HW.out.at_ (k := (u + q) / 64) (by rw [HK.out]; omega)
      have hbo := Lib.hid (bitOf_any x ((u + q) % 64) · hxl (by omega))
      have hbit : bit ws (u + q) = x.testBit ((u + q) % 64) := by unfold bit; simp [List.getD, hx]
      have hst : packTo (fun k => bit ws (u + k)) (q + 1) = packTo (fun k => bit ws (u + k)) q + (bit ws (u + q)).toNat * 2 ^ q := rfl
      have hpl := packTo_lt (fun k => bit ws (u + k)) q
      have hp2 := pow62 (d := q) (by omega)
      have hpi := pow_int q (by omega)
      rw [hbit] at hst
      clear hx hbit
      generalize packTo (fun k => bit ws (u + k)) q = y at *
      generalize hpw : 2 ^ q = pw at *
      have HPW := Lib.hid hpw
      clear hpw
      generalize hv : u + q = v at *
      have HV := Lib.hid hv
      clear hv
      have hsum : (u : Int) + (q : Int) = (v : Int) := by rw [← HV.out]; simp
      have hvb : v ≤ 18700 := by rw [← HV.out]; omega
      have hvk : v / 64 < k := by rw [← HV.out]; omega
      cases hxb : x.testBit (v % 64)
      all_goals
        rw [hxb] at hst hbo
        have HST := Lib.hid hst
        clear hst hxb
        go_wp2_with (go_at_call 33; refine (hbo.out _).mono ?_; rintro e w' ⟨rfl, rfl⟩)
        go_round
        case rel => exact ⟨q + 1, by omega, by go_num, by rw [HST.out]; first | go_num | (simp; done) | (simp; omega)⟩
        case measure => simp [intOf]; omega
    · obtain rfl : q = d := by omega
      go_wp2
      go_ret2
      exact ⟨rfl, chain (bnew _ _) hb1⟩
end Go.Proofs.YtmlekhgjnhnjlaaDoor
