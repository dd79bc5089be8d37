/-
  What the document's FenSum and FenFind return: contracts, walked over the translated text. No condition but what each theorem names.
-/
import Derived.Test.YtegcpfopdaoebaaFenRg
namespace Go.Proofs.Ytegcpfopdaoebaa
open Go.RowKit Words

theorem own_lies {w : World} {base : Nat} {e : TypeId} {A : Option Addr} {n m c : Nat} {xs : List Value} (h : w.ownsRow base e 1 (.slice A m c) n xs) : Lies w w.heap.size A xs := by
  obtain ⟨A', c', e, _, _, hl, _, _⟩ := own_slice h
  injection e with e1
  rw [e1]; exact hl
theorem own_cap {w : World} {base : Nat} {e : TypeId} {A : Option Addr} {n m c : Nat} {xs : List Value} (h : w.ownsRow base e 1 (.slice A m c) n xs) : n ≤ c ∧ (A = none → n = 0 ∧ c = 0) := by
  rcases h.2 with ⟨hv, h0⟩ | ⟨g, cap, cur, hv, _, _, hn, _⟩
  · injection hv with h1 h2 h3
    subst h3
    exact ⟨by omega, fun _ => ⟨h0, rfl⟩⟩
  · injection hv with h1 h2 h3
    subst h3
    exact ⟨hn, fun e => by rw [e] at h1; cases h1⟩

theorem rfsum_form (A : Option Addr) (l : List Int) (c : Nat) (i : Int) (w : World) (hn : l.length ≤ 17592186044416) (hv : ¬ Valid l) (hL : Lies w w.heap.size A (l.map (.int .i64))) :
    Calls Try.prog 16 #[.slice A l.length c, .int .i64 i] w (Tells8 w 0 4) := by
  have H := Lib.hid (rmay_any A l c w hn hL)
  rw [decide_eq_false hv] at H
  clear hv hL
  generalize l.length = n at *
  go_enter Try.func16, Try.ntmps16
  go_wp2_with fail
  refine H.out.mono ?_
  rintro e w1 ⟨rfl, rfl⟩
  go_wp2_with fail
  go_ret2
  exact ⟨rfl, Below.refl _ _⟩
theorem rfsum_range (A : Option Addr) (l : List Int) (c : Nat) (i : Int) (w : World) (hv : Valid l) (hr : i < 0 ∨ (l.length : Int) < i) (hL : Lies w w.heap.size A (l.map (.int .i64))) :
    Calls Try.prog 16 #[.slice A l.length c, .int .i64 i] w (Tells8 w 0 2) := by
  have hn := hv.1
  have H := Lib.hid (rmay_any A l c w (by omega) hL)
  rw [decide_eq_true hv] at H
  clear hv hL
  generalize l.length = n at *
  by_cases h0 : i < 0
  · go_enter Try.func16, Try.ntmps16
    go_wp2_with fail
    refine H.out.mono ?_
    rintro e w1 ⟨rfl, rfl⟩
    go_wp2_with fail
    go_ret2
    exact ⟨rfl, Below.refl _ _⟩
  · have h1 : (n : Int) < i := by omega
    go_enter Try.func16, Try.ntmps16
    go_wp2_with fail
    refine H.out.mono ?_
    rintro e w1 ⟨rfl, rfl⟩
    go_wp2_with fail
    go_ret2
    exact ⟨rfl, Below.refl _ _⟩

set_option maxHeartbeats 2000000 in
/-- The document's FenSum. -/
theorem rfsum_any (A : Option Addr) (l : List Int) (c i : Nat) (w : World) (hv : Valid l) (hi : i ≤ l.length) (hL : Lies w w.heap.size A (l.map (.int .i64))) :
    Calls Try.prog 16 #[.slice A l.length c, .int .i64 i] w (Tells8 w (S (num (at0 l)) i) 0) := by
  have hn := hv.1
  have H := Lib.hid (rmay_any A l c w (by omega) hL)
  rw [decide_eq_true hv] at H
  have HNu := Lib.hid (rnums_any A l c w hv hL)
  unfold GivesF at HNu
  have HB := Lib.hid (fun i h => num_300 l hv i h)
  have HNB := Lib.hid (fun j h => num_bound (at0 l) l.length hv.1 1099511627776 (by decide) (fun c hc => hv.2.at0 c hc) j h)
  clear hv hL
  generalize at0 l = t at *
  generalize l.length = n at *
  have e1 : decide ((i : Int) < 0) = false := by simp
  have e2 : decide (n < i) = false := by simp; omega
  go_enter Try.func16, Try.ntmps16
  go_wp2_with fail
  refine H.out.mono ?_
  rintro e w1 ⟨rfl, rfl⟩
  go_wp2_with fail
  refine HNu.out.mono ?_
  rintro e w1 ⟨A2, c2, rfl, hown, hb1⟩
  obtain ⟨hcap, hnil⟩ := own_cap hown
  have HOwn := Lib.hid hown
  clear hown
  cases A2 with
  | none =>
    obtain ⟨h0, h00⟩ := hnil rfl
    subst h0 h00
    obtain rfl : i = 0 := by omega
    go_wp2_with fail
    go_loopw [6, 25] (fun s a w' => s = .int .i64 0 ∧ a = .int .i64 0 ∧ w' = w1) (fun _ _ _ => 0)
    case atStart => exact ⟨rfl, rfl, rfl⟩
    case round =>
      obtain ⟨rfl, rfl, rfl⟩ := hrel
      go_wp2_with fail
      go_ret2
      exact ⟨rfl, hb1⟩
  | some ad =>
    have hii : (i : Int) ≤ (c2 : Int) := by omega
    go_wp2_with fail
    go_loopw [6, 25] (fun s a w' => ∃ k : Nat, k ≤ i ∧ s = .int .i64 (S (num t) k) ∧ a = .int .i64 k ∧ w' = w1) (fun _ a _ => i - (intOf a).toNat)
    case atStart => exact ⟨0, Nat.zero_le _, rfl, rfl, rfl⟩
    case round =>
      obtain ⟨k, hk, rfl, rfl, rfl⟩ := hrel
      by_cases hlt : k < i
      · obtain ⟨g, hg, _⟩ := own_at HOwn.out (by omega)
        obtain rfl := Option.some.inj hg
        have hck := own_cell HOwn.out (cellsOf_get (num t) n k (by omega))
        obtain ⟨k1, k2⟩ := HB.out k (by omega)
        obtain ⟨k3, k4⟩ := HNB.out k (by omega)
        have HSt := Lib.hid (S_succ (num t) k)
        generalize num t k = z at *
        generalize S (num t) k = s at *
        go_wp2_with fail
        go_roundw
        case rel => exact ⟨k + 1, by omega, by rw [HSt.out], by go_num, trivial⟩
        case measure => simp [intOf]; omega
      · obtain rfl : i = k := by omega
        go_wp2_with fail
        go_ret2
        exact ⟨rfl, hb1⟩

theorem rffind_form (A : Option Addr) (l : List Int) (c : Nat) (x : Int) (w : World) (hn : l.length ≤ 17592186044416) (hv : ¬ Valid l) (hL : Lies w w.heap.size A (l.map (.int .i64))) :
    Calls Try.prog 18 #[.slice A l.length c, .int .i64 x] w (Tells8 w 0 4) := by
  have H := Lib.hid (rmay_any A l c w hn hL)
  rw [decide_eq_false hv] at H
  clear hv hL
  generalize l.length = n at *
  go_enter Try.func18, Try.ntmps18
  go_wp2_with fail
  refine H.out.mono ?_
  rintro e w1 ⟨rfl, rfl⟩
  go_wp2_with fail
  go_ret2
  exact ⟨rfl, Below.refl _ _⟩

set_option maxHeartbeats 1000000 in
/-- .. of a list with an element below 0. -/
theorem rffind_kind (A : Option Addr) (l : List Int) (c : Nat) (x : Int) (w : World) (hv : Valid l) (hk : ∃ j, j < l.length ∧ num (at0 l) j < 0) (hL : Lies w w.heap.size A (l.map (.int .i64))) :
    Calls Try.prog 18 #[.slice A l.length c, .int .i64 x] w (Tells8 w 0 3) := by
  have hn := hv.1
  have H := Lib.hid (rmay_any A l c w (by omega) hL)
  rw [decide_eq_true hv] at H
  have HNu := Lib.hid (rnums_any A l c w hv hL)
  unfold GivesF at HNu
  have HK := Lib.hid hk
  clear hv hL hk
  generalize at0 l = t at *
  generalize l.length = n at *
  go_enter Try.func18, Try.ntmps18
  go_wp2_with fail
  refine H.out.mono ?_
  rintro e w1 ⟨rfl, rfl⟩
  go_wp2_with fail
  refine HNu.out.mono ?_
  rintro e w1 ⟨A2, c2, rfl, hown, hb1⟩
  have HOwn := Lib.hid hown
  clear hown
  go_wp2_with fail
  go_loopw [19] (fun a w' => ∃ k : Nat, k ≤ n ∧ (∀ j, j < k → 0 ≤ num t j) ∧ a = .int .i64 k ∧ w' = w1) (fun a _ => n - (intOf a).toNat)
  case atStart => exact ⟨0, Nat.zero_le _, (fun j hj => by omega), rfl, rfl⟩
  case round =>
    obtain ⟨k, hk, hp, rfl, rfl⟩ := hrel
    have HP := Lib.hid hp
    clear hp
    by_cases hlt : k < n
    · obtain ⟨g, rfl, _⟩ := own_at HOwn.out (by omega)
      have hck := own_cell HOwn.out (cellsOf_get (num t) n k hlt)
      generalize hz : num t k = z at *
      have HZ := Lib.hid hz
      clear hz
      by_cases hneg : z < 0
      · go_wp2_with fail
        go_ret2
        exact ⟨rfl, hb1⟩
      · go_wp2_with fail
        go_roundw
        case rel => exact ⟨k + 1, by omega, (fun j hj => by
          by_cases e : j = k
          · rw [e, HZ.out]; omega
          · exact HP.out j (by omega)), by go_num, trivial⟩
        case measure => simp [intOf]; omega
    · exfalso
      obtain ⟨j, hj, hneg⟩ := HK.out
      have := HP.out j (by omega)
      omega

/-- Where the sums of f come above x, among n: the index and OK, or 0 and ErrNone. -/
def Comes (f : Nat → Int) (n : Nat) (x v r : Int) : Prop := (∃ i : Nat, i < n ∧ v = i ∧ r = 0 ∧ x < S f (i + 1) ∧ ∀ k, k < i → S f (k + 1) ≤ x) ∨ (v = 0 ∧ r = 7 ∧ ∀ k, k < n → S f (k + 1) ≤ x)
theorem comes_any (f : Nat → Int) (n : Nat) (x : Int) : ∃ v r, Comes f n x v r := by
  induction n with
  | zero => exact ⟨0, 7, .inr ⟨rfl, rfl, fun k hk => by omega⟩⟩
  | succ n ih =>
    obtain ⟨v, r, ⟨i, hi, h1, h2, h3, h4⟩ | ⟨h1, h2, h3⟩⟩ := ih
    · exact ⟨v, r, .inl ⟨i, by omega, h1, h2, h3, h4⟩⟩
    · by_cases h : x < S f (n + 1)
      · exact ⟨n, 0, .inl ⟨n, by omega, rfl, rfl, h, h3⟩⟩
      · refine ⟨v, r, .inr ⟨h1, h2, fun k hk => ?_⟩⟩
        by_cases e : k = n
        · subst e; omega
        · exact h3 k (by omega)
theorem Comes.at_ {f : Nat → Int} {n : Nat} {x v r : Int} (h : Comes f n x v r) {i : Nat} (hi : i < n) (h1 : x < S f (i + 1)) (h2 : ∀ k, k < i → S f (k + 1) ≤ x) : v = i ∧ r = 0 := by
  rcases h with ⟨j, hj, rfl, rfl, h3, h4⟩ | ⟨_, _, h3⟩
  · rcases Nat.lt_trichotomy i j with h | h | h
    · have := h4 i h; omega
    · subst h; exact ⟨rfl, rfl⟩
    · have := h2 j h; omega
  · have := h3 i hi; omega
theorem Comes.none {f : Nat → Int} {n : Nat} {x v r : Int} (h : Comes f n x v r) (h2 : ∀ k, k < n → S f (k + 1) ≤ x) : v = 0 ∧ r = 7 := by
  rcases h with ⟨j, hj, rfl, rfl, h3, h4⟩ | ⟨h1, h2, _⟩
  · have := h2 j hj; omega
  · exact ⟨h1, h2⟩

set_option maxHeartbeats 2000000 in
/-- The document's FenFind. -/
theorem rffind_any (A : Option Addr) (l : List Int) (c : Nat) (x v r : Int) (w : World) (hv : Valid l) (hk : ∀ j, j < l.length → 0 ≤ num (at0 l) j) (hc : Comes (num (at0 l)) l.length x v r) (hL : Lies w w.heap.size A (l.map (.int .i64))) :
    Calls Try.prog 18 #[.slice A l.length c, .int .i64 x] w (Tells8 w v r) := by
  have hn := hv.1
  have H := Lib.hid (rmay_any A l c w (by omega) hL)
  rw [decide_eq_true hv] at H
  have HNu := Lib.hid (rnums_any A l c w hv hL)
  unfold GivesF at HNu
  have HK := Lib.hid hk
  have HCo := Lib.hid hc
  have HB := Lib.hid (fun i h => num_300 l hv i h)
  have HNB := Lib.hid (fun j h => num_bound (at0 l) l.length hv.1 1099511627776 (by decide) (fun c hc => hv.2.at0 c hc) j h)
  clear hv hL hk hc
  generalize at0 l = t at *
  generalize l.length = n at *
  go_enter Try.func18, Try.ntmps18
  go_wp2_with fail
  refine H.out.mono ?_
  rintro e w1 ⟨rfl, rfl⟩
  go_wp2_with fail
  refine HNu.out.mono ?_
  rintro e w1 ⟨A2, c2, rfl, hown, hb1⟩
  have HOwn := Lib.hid hown
  clear hown
  go_wp2_with fail
  go_loopw [19] (fun a w' => ∃ k : Nat, k ≤ n ∧ a = .int .i64 k ∧ w' = w1) (fun a _ => n - (intOf a).toNat)
  case atStart => exact ⟨0, Nat.zero_le _, rfl, rfl⟩
  case round =>
    obtain ⟨k, hk, rfl, rfl⟩ := hrel
    by_cases hlt : k < n
    · obtain ⟨g, rfl, _⟩ := own_at HOwn.out (by omega)
      have hck := own_cell HOwn.out (cellsOf_get (num t) n k hlt)
      have hz := HK.out k hlt
      generalize num t k = z at *
      go_wp2_with fail
      go_roundw
      case rel => exact ⟨k + 1, by omega, by go_num, trivial⟩
      case measure => simp [intOf]; omega
    · obtain rfl : n = k := by omega
      clear hk hlt
      go_wp2_with fail
      go_loopw [9, 28] (fun s a w' => ∃ k : Nat, k ≤ n ∧ (∀ j, j < k → S (num t) (j + 1) ≤ x) ∧ s = .int .i64 (S (num t) k) ∧ a = .int .i64 k ∧ w' = wr) (fun _ a _ => n - (intOf a).toNat)
      case atStart => exact ⟨0, Nat.zero_le _, (fun j hj => by omega), rfl, rfl, rfl⟩
      case round =>
        obtain ⟨k, hk, hp, rfl, rfl, rfl⟩ := hrel
        have HP := Lib.hid hp
        clear hp
        by_cases hlt : k < n
        · obtain ⟨g, rfl, _⟩ := own_at HOwn.out (by omega)
          have hck := own_cell HOwn.out (cellsOf_get (num t) n k hlt)
          obtain ⟨k1, k2⟩ := HB.out k (by omega)
          obtain ⟨k3, k4⟩ := HNB.out k (by omega)
          have hSt := S_succ (num t) k
          have HC2 := Lib.hid (fun h => HCo.out.at_ hlt h HP.out)
          have HSt := Lib.hid hSt
          rw [hSt] at HC2
          clear hSt
          generalize num t k = z at *
          generalize S (num t) k = s at *
          by_cases hx : x < s + z
          · obtain ⟨rfl, rfl⟩ := HC2.out hx
            go_wp2_with fail
            go_ret2
            exact ⟨rfl, hb1⟩
          · go_wp2_with fail
            go_roundw
            case rel => exact ⟨k + 1, by omega, (fun j hj => by
              by_cases e : j = k
              · rw [e, HSt.out]; omega
              · exact HP.out j (by omega)), by rw [HSt.out], by go_num, trivial⟩
            case measure => simp [intOf]; omega
        · obtain rfl : n = k := by omega
          obtain ⟨rfl, rfl⟩ := HCo.out.none HP.out
          go_wp2_with fail
          go_ret2
          exact ⟨rfl, hb1⟩
end Go.Proofs.Ytegcpfopdaoebaa
