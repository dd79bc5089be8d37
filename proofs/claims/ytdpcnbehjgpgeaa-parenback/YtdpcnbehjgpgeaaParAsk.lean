/-
  What the document's partner, ParenMatch and ParenEnclose return: contracts, walked over the translated text. No condition but what each theorem names.
-/
import Derived.Test.YtdpcnbehjgpgeaaParChk
namespace Go.Proofs.Ytdpcnbehjgpgeaa
open Go.RowKit Words

set_option maxHeartbeats 1000000 in
/-- The partner of what opens. -/
theorem partner_open (l : List Bool) (i j : Nat) (w : World) (hn : l.length ≤ 400) (hc : IsClose l i j) :
    Calls Try.prog 27 #[.string (txtP l), .int .i64 i] w fun e w' => e = .returned (.int .i64 j) ∧ ∃ d, w' = w.drewN d := by
  have HC := Lib.hid hc
  have hij := hc.lt
  have hjl := get_lt hc.shuts
  have hsz := txtP_size l
  have hil : i < (txtP l).size := by omega
  have hbi : ((txtP l)[i]'hil).toNat = 40 := txtP_at hc.opens hil
  have HAt := Lib.hid (fun k b (h1 : l[k]? = some b) (h2 : k < (txtP l).size) => txtP_at h1 h2)
  clear hc
  generalize txtP l = bs at *
  go_enter Try.func27, Try.ntmps27
  go_wp2_with fail
  go_loopw [6, 7] (fun a b w' => ∃ k d : Nat, i ≤ k ∧ k ≤ j ∧ a = .int .i64 (dp l k - dp l i) ∧ b = .int .i64 k ∧ w' = w.drewN d) (fun _ b _ => j + 1 - (intOf b).toNat)
  case atStart => exact ⟨i, 0, Nat.le_refl _, by omega, by rw [Int.sub_self], rfl, rfl⟩
  case round =>
    obtain ⟨k, d, h1, h2, rfl, rfl, rfl⟩ := hrel
    have hkl : k < bs.size := by omega
    have hkI : (k : Int) < (bs.size : Int) := by omega
    have hiI : (i : Int) < (bs.size : Int) := by omega
    have d1 := dp_le l k
    have d2 := dp_ge l k
    have d3 := dp_le l i
    have d4 := dp_ge l i
    rcases get_or (show k < l.length by omega) with hb | hb
    · have hbk : (bs[k]'hkl).toNat = 40 := HAt.out k true hb hkl
      have hup := dp_up hb
      have hkj : k < j := by
        rcases Nat.lt_or_ge k j with h | h
        · exact h
        · obtain rfl : k = j := by omega
          have := HC.out.shuts
          rw [hb] at this; cases this
      have hgt := HC.out.btw (k + 1) (by omega) (by omega)
      have HUP := Lib.hid hup
      rw [hup] at hgt
      generalize dp l k = x at *
      generalize dp l i = y at *
      have hne : (x - y + 1 == 0) = false := by rw [beq_eq_false_iff_ne]; omega
      clear hup hb
      go_wp2_with fail
      go_quiet (fail)
      go_wp2_with fail
      go_roundw
      case rel => exact ⟨k + 1, _, by omega, by omega, by rw [HUP.out]; congr 1; omega, by go_num, by first | rfl | (simp only [World.drewN_drewN]; rfl)⟩
      case measure => simp [intOf]; omega
    · have hbk : (bs[k]'hkl).toNat = 41 := HAt.out k false hb hkl
      have hdn := dp_down hb
      have hik : i < k := by
        rcases Nat.lt_or_ge i k with h | h
        · exact h
        · obtain rfl : k = i := by omega
          have := HC.out.opens
          rw [hb] at this; cases this
      have HDN := Lib.hid hdn
      by_cases hkj : k = j
      · have hbk2 := HC.out.back
        rw [← hkj, hdn] at hbk2
        generalize dp l k = x at *
        generalize dp l i = y at *
        have hne : x - y - 1 = 0 := by omega
        clear hdn hb
        subst hkj
        go_wp2_with fail
        go_quiet (fail)
        go_wp2_with fail
        go_ret
        exact ⟨rfl, _, by first | rfl | (simp only [World.drewN_drewN]; rfl)⟩
      · have hgt := HC.out.btw (k + 1) (by omega) (by omega)
        rw [hdn] at hgt
        generalize dp l k = x at *
        generalize dp l i = y at *
        have hne : (x - y - 1 == 0) = false := by rw [beq_eq_false_iff_ne]; omega
        clear hdn hb
        go_wp2_with fail
        go_quiet (fail)
        go_wp2_with fail
        go_roundw
        case rel => exact ⟨k + 1, _, by omega, by omega, by rw [HDN.out]; congr 1; omega, by go_num, by first | rfl | (simp only [World.drewN_drewN]; rfl)⟩
        case measure => simp [intOf]; omega

set_option maxHeartbeats 1000000 in
/-- The partner of what closes. -/
theorem partner_shut (l : List Bool) (i j : Nat) (w : World) (hn : l.length ≤ 400) (hc : IsClose l j i) :
    Calls Try.prog 27 #[.string (txtP l), .int .i64 i] w fun e w' => e = .returned (.int .i64 j) ∧ ∃ d, w' = w.drewN d := by
  have HC := Lib.hid hc
  have hij := hc.lt
  have hjl := get_lt hc.shuts
  have hsz := txtP_size l
  have hil : i < (txtP l).size := by omega
  have hbi : ((txtP l)[i]'hil).toNat = 41 := txtP_at hc.shuts hil
  have HAt := Lib.hid (fun k b (h1 : l[k]? = some b) (h2 : k < (txtP l).size) => txtP_at h1 h2)
  clear hc
  generalize txtP l = bs at *
  go_enter Try.func27, Try.ntmps27
  go_wp2_with fail
  go_loopw [6, 7] (fun a b w' => ∃ k d : Nat, j ≤ k ∧ k ≤ i ∧ a = .int .i64 (dp l (k + 1) - dp l (i + 1)) ∧ b = .int .i64 k ∧ w' = w.drewN d) (fun _ b _ => (intOf b).toNat)
  case atStart => exact ⟨i, 0, by omega, Nat.le_refl _, by rw [Int.sub_self], rfl, rfl⟩
  case round =>
    obtain ⟨k, d, h1, h2, rfl, rfl, rfl⟩ := hrel
    have hkl : k < bs.size := by omega
    have hkI : (k : Int) < (bs.size : Int) := by omega
    have hiI : (i : Int) < (bs.size : Int) := by omega
    have d1 := dp_le l (k + 1)
    have d2 := dp_ge l (k + 1)
    have d3 := dp_le l (i + 1)
    have d4 := dp_ge l (i + 1)
    rcases get_or (show k < l.length by omega) with hb | hb
    · have hbk : (bs[k]'hkl).toNat = 40 := HAt.out k true hb hkl
      have hup := dp_up hb
      have HUP := Lib.hid hup
      have hki : k < i := by
        rcases Nat.lt_or_ge k i with h | h
        · exact h
        · obtain rfl : k = i := by omega
          have := HC.out.shuts
          rw [hb] at this; cases this
      by_cases hkj : k = j
      · have hbk2 := HC.out.back
        rw [← hkj] at hbk2
        generalize dp l (k + 1) = x at *
        generalize dp l (i + 1) = y at *
        have hne : x - y - 1 = 0 := by omega
        clear hup hb
        subst hkj
        go_wp2_with fail
        go_quiet (fail)
        go_wp2_with fail
        go_ret
        exact ⟨rfl, _, by first | rfl | (simp only [World.drewN_drewN]; rfl)⟩
      · have hgt := HC.out.btw k (by omega) (by omega)
        have hbk2 := HC.out.back
        obtain ⟨k1, rfl⟩ : ∃ k1, k = k1 + 1 := ⟨k - 1, by omega⟩
        have hkk : ((k1 + 1 : Nat) : Int) + -1 = (k1 : Int) := by omega
        generalize hx : dp l (k1 + 1 + 1) = x at *
        generalize hy : dp l (i + 1) = y at *
        have hne : (x - y - 1 == 0) = false := by rw [beq_eq_false_iff_ne]; omega
        clear hup hb
        generalize hkq : k1 + 1 = k at *
        have HKQ := Lib.hid hkq
        clear hkq hx hy
        go_wp2_with fail
        go_quiet (fail)
        go_wp2_with fail
        go_roundw
        case rel => exact ⟨k1, _, by omega, by omega, by rw [HKQ.out]; congr 1; have := HUP.out; omega, rfl, by first | rfl | (simp only [World.drewN_drewN]; rfl)⟩
        case measure => simp [intOf]; have := HKQ.out; omega
    · have hbk : (bs[k]'hkl).toNat = 41 := HAt.out k false hb hkl
      have hdn := dp_down hb
      have HDN := Lib.hid hdn
      have hkj : j < k := by
        rcases Nat.lt_or_ge j k with h | h
        · exact h
        · obtain rfl : k = j := by omega
          have := HC.out.opens
          rw [hb] at this; cases this
      have hgt := HC.out.btw k (by omega) (by omega)
      have hbk2 := HC.out.back
      obtain ⟨k1, rfl⟩ : ∃ k1, k = k1 + 1 := ⟨k - 1, by omega⟩
      have hkk : ((k1 + 1 : Nat) : Int) + -1 = (k1 : Int) := by omega
      generalize hx : dp l (k1 + 1 + 1) = x at *
      generalize hy : dp l (i + 1) = y at *
      have hne : (x - y + 1 == 0) = false := by rw [beq_eq_false_iff_ne]; omega
      clear hdn hb
      generalize hkq : k1 + 1 = k at *
      have HKQ := Lib.hid hkq
      clear hkq hx hy
      go_wp2_with fail
      go_quiet (fail)
      go_wp2_with fail
      go_roundw
      case rel => exact ⟨k1, _, by omega, by omega, by rw [HKQ.out]; congr 1; have := HDN.out; omega, rfl, by first | rfl | (simp only [World.drewN_drewN]; rfl)⟩
      case measure => simp [intOf]; have := HKQ.out; omega

/-- The partner. -/
theorem partner_any (l : List Bool) (i j : Nat) (w : World) (hn : l.length ≤ 400) (hm : Mate l i j) :
    Calls Try.prog 27 #[.string (txtP l), .int .i64 i] w fun e w' => e = .returned (.int .i64 j) ∧ ∃ d, w' = w.drewN d := by
  rcases hm with h | h
  · exact partner_open l i j w hn h
  · exact partner_shut l i j w hn h

/-- What a call that returns a number and an error, and only draws, leaves. -/
def Draws2 (w : World) (x k : Int) (e : Ending) (w' : World) : Prop := e = .returned (.tuple #[.int .i64 x, .int .i64 k]) ∧ ∃ d, w' = w.drewN d

/-- The document's ParenMatch of a text that is not balanced, or too long. -/
theorem rmatch_fault (bs : ByteArray) (i r : Int) (w : World) (hr : r ≠ 0) (h : ∀ W, Calls Try.prog 12 #[.string bs] W fun e w' => e = .returned (.int .i64 r) ∧ W = w') :
    Calls Try.prog 14 #[.string bs, .int .i64 i] w (Draws2 w 0 r) := by
  have H := Lib.hid h
  have hne : (r != 0) = true := by simpa using hr
  clear h hr
  go_enter Try.func14, Try.ntmps14
  go_wp2_with (go_at_call 12; refine (H.out _).mono ?_; rintro e w1 ⟨rfl, rfl⟩)
  go_ret2
  exact ⟨rfl, 0, rfl⟩

/-- The document's ParenMatch of no place. -/
theorem rmatch_range (bs : ByteArray) (i : Int) (w : World) (hi : i < 0 ∨ (bs.size : Int) ≤ i) (h : ∀ W, Calls Try.prog 12 #[.string bs] W fun e w' => e = .returned (.int .i64 0) ∧ W = w') :
    Calls Try.prog 14 #[.string bs, .int .i64 i] w (Draws2 w 0 2) := by
  have H := Lib.hid h
  clear h
  have hc : i < 0 ∨ (decide (i < 0) = false ∧ (bs.size : Int) ≤ i) := by
    by_cases h1 : i < 0
    · exact .inl h1
    · exact .inr ⟨by simpa using h1, by omega⟩
  clear hi
  rcases hc with h1 | ⟨h1, h2⟩
  all_goals
    go_enter Try.func14, Try.ntmps14
    go_wp2_with (go_at_call 12; refine (H.out _).mono ?_; rintro e w1 ⟨rfl, rfl⟩)
    go_ret2
    exact ⟨rfl, 0, rfl⟩

/-- A balanced text that is not too long has no fault. -/
theorem rfault_ok {l : List Bool} (hn : l.length ≤ 400) (hb : Bal l) (W : World) : Calls Try.prog 12 #[.string (txtP l)] W fun e w' => e = .returned (.int .i64 0) ∧ W = w' :=
  rfault_any (txtP l) 0 W (by rw [txtP_size]; exact hn) (fun _ => rfl) (fun h => absurd ⟨l, rfl, hb⟩ h)

/-- The document's ParenMatch. -/
theorem rmatch_any (l : List Bool) (i j : Nat) (w : World) (hn : l.length ≤ 400) (hb : Bal l) (hi : i < l.length) (hm : Mate l i j) :
    Calls Try.prog 14 #[.string (txtP l), .int .i64 i] w (Draws2 w j 0) := by
  have H := Lib.hid (fun W => rfault_ok hn hb W)
  have HP := Lib.hid (fun W => partner_any l i j W hn hm)
  have hd : decide (l.length ≤ i) = false := by simp; omega
  have hsz := txtP_size l
  clear hm hb
  generalize txtP l = bs at *
  go_enter Try.func14, Try.ntmps14
  go_wp2_with (first
    | (go_at_call 12; refine (H.out _).mono ?_; rintro e w1 ⟨rfl, rfl⟩)
    | (go_at_call 27; refine (HP.out _).mono ?_; rintro e w1 ⟨rfl, d, rfl⟩))
  go_ret2
  exact ⟨rfl, _, rfl⟩

/-- The document's ParenEnclose of a text that is not balanced, or too long. -/
theorem renc_fault (bs : ByteArray) (i r : Int) (w : World) (hr : r ≠ 0) (h : ∀ W, Calls Try.prog 12 #[.string bs] W fun e w' => e = .returned (.int .i64 r) ∧ W = w') :
    Calls Try.prog 16 #[.string bs, .int .i64 i] w (Draws2 w 0 r) := by
  have H := Lib.hid h
  have hne : (r != 0) = true := by simpa using hr
  clear h hr
  go_enter Try.func16, Try.ntmps16
  go_wp2_with (go_at_call 12; refine (H.out _).mono ?_; rintro e w1 ⟨rfl, rfl⟩)
  go_ret2
  exact ⟨rfl, 0, rfl⟩

/-- The document's ParenEnclose of no place. -/
theorem renc_range (bs : ByteArray) (i : Int) (w : World) (hi : i < 0 ∨ (bs.size : Int) ≤ i) (h : ∀ W, Calls Try.prog 12 #[.string bs] W fun e w' => e = .returned (.int .i64 0) ∧ W = w') :
    Calls Try.prog 16 #[.string bs, .int .i64 i] w (Draws2 w 0 2) := by
  have H := Lib.hid h
  clear h
  have hc : i < 0 ∨ (decide (i < 0) = false ∧ (bs.size : Int) ≤ i) := by
    by_cases h1 : i < 0
    · exact .inl h1
    · exact .inr ⟨by simpa using h1, by omega⟩
  clear hi
  rcases hc with h1 | ⟨h1, h2⟩
  all_goals
    go_enter Try.func16, Try.ntmps16
    go_wp2_with (go_at_call 12; refine (H.out _).mono ?_; rintro e w1 ⟨rfl, rfl⟩)
    go_ret2
    exact ⟨rfl, 0, rfl⟩

/-- What is asked: the answer to Enclose for the pair that opens at a. -/
def encV (l : List Bool) (a : Nat) : Int := match enc l a with | some k => (k : Nat) | none => 0
def encE (l : List Bool) (a : Nat) : Int := match enc l a with | some _ => 0 | none => 7

set_option maxHeartbeats 2000000 in
/-- The document's ParenEnclose. -/
theorem renc_any (l : List Bool) (i a b : Nat) (w : World) (hn : l.length ≤ 400) (hb : Bal l) (hc : IsClose l a b) (hi : i = a ∨ i = b) :
    Calls Try.prog 16 #[.string (txtP l), .int .i64 i] w (Draws2 w (encV l a) (encE l a)) := by
  have H := Lib.hid (fun W => rfault_ok hn hb W)
  have HPa := Lib.hid (fun W => partner_any l a b W hn (.inl hc))
  have HPb := Lib.hid (fun W => partner_any l b a W hn (.inr hc))
  have HPk := Lib.hid (fun k j (h : IsClose l k j) W => partner_any l k j W hn (.inl h))
  have HCl := Lib.hid (fun k (h : l[k]? = some true) => hb.close h)
  have HEn := Lib.hid (enc_iff (l := l) (a := a) (k := ·) (Nat.le_of_lt (get_lt hc.opens)))
  have HNo := Lib.hid (fun k (h : k < a) (hh : enc l a = none) => show dp l a ≤ dp l k by
    have h0 := (enc_none_iff hb (Nat.le_of_lt (get_lt hc.opens))).1 hh
    have := hb.nn k (by have := get_lt hc.opens; omega)
    omega)
  have hab := hc.lt
  have hbl := get_lt hc.shuts
  have HC := Lib.hid hc
  have hsz := txtP_size l
  have HAt := Lib.hid (fun k b (h1 : l[k]? = some b) (h2 : k < (txtP l).size) => txtP_at h1 h2)
  have hil : i < (txtP l).size := by omega
  have hii : decide (l.length ≤ i) = false := by simp; omega
  have hbi : ((txtP l)[i]'hil).toNat = if i = a then 40 else 41 := by
    rcases hi with e | e
    · rw [if_pos e]; exact txtP_at (by rw [e]; exact hc.opens) hil
    · rw [if_neg (by omega)]; exact txtP_at (by rw [e]; exact hc.shuts) hil
  clear hb hc
  generalize txtP l = bs at *
  have hiI : (i : Int) < (bs.size : Int) := by omega
  have HV := Lib.hid (show ∀ m, enc l a = some m → encV l a = (m : Nat) ∧ encE l a = 0 from fun m h => by unfold encV encE; rw [h]; exact ⟨rfl, rfl⟩)
  have HV0 := Lib.hid (show enc l a = none → encV l a = 0 ∧ encE l a = 7 from fun h => by unfold encV encE; rw [h]; exact ⟨rfl, rfl⟩)
  generalize encV l a = xv at *
  generalize encE l a = xe at *
  by_cases hia : i = a
  · subst hia
    rw [if_pos rfl] at hbi
    clear hi
    go_enter Try.func16, Try.ntmps16
    go_wp2_with (first
      | (go_at_call 12; refine (H.out _).mono ?_; rintro e w1 ⟨rfl, rfl⟩)
      | (go_at_call 27; refine (HPa.out _).mono ?_; rintro e w1 ⟨rfl, d, rfl⟩))
    go_loopw [9] (fun s w' => ∃ k d : Nat, k ≤ i ∧ s = .int .i64 ((k : Int) - 1) ∧ w' = w.drewN d ∧ ∀ m, enc l i = some m → m < k) (fun s _ => (intOf s + 1).toNat)
    case atStart => exact ⟨i, _, Nat.le_refl _, rfl, rfl, fun m hm => ((HEn.out m).1 hm).lt⟩
    case round =>
      obtain ⟨k, d, hka, rfl, rfl, hlow⟩ := hrel
      have HLow := Lib.hid hlow
      clear hlow
      rcases Nat.eq_zero_or_pos k with rfl | hk0
      · have hen : enc l i = none := by
          cases he : enc l i with
          | none => rfl
          | some m => have := HLow.out m he; omega
        obtain ⟨rfl, rfl⟩ := HV0.out hen
        clear hen
        have hz : ((0 : Nat) : Int) - 1 = -1 := rfl
        go_wp2_with fail
        go_ret2
        exact ⟨rfl, _, rfl⟩
      · obtain ⟨q, rfl⟩ : ∃ q, k = q + 1 := ⟨k - 1, by omega⟩
        have hq : ((q + 1 : Nat) : Int) - 1 = (q : Int) := by omega
        rw [hq]
        have hql : q < bs.size := by omega
        have hqI : (q : Int) < (bs.size : Int) := by omega
        rcases get_or (show q < l.length by omega) with hb | hb
        · have hbq : (bs[q]'hql).toNat = 40 := HAt.out q true hb hql
          obtain ⟨j, hj⟩ := HCl.out q hb
          have hjl := get_lt hj.shuts
          have HPq := Lib.hid (HPk.out q j hj)
          by_cases he : enc l i = some q
          · have hbj : b < j := enc_far HC.out ((HEn.out q).1 he) hj
            obtain ⟨rfl, rfl⟩ := HV.out q he
            clear he hj hb hq
            go_wp2_with (go_at_call 27; refine (HPq.out _).mono ?_; rintro e w1 ⟨rfl, d1, rfl⟩)
            go_ret2
            exact ⟨rfl, _, by first | rfl | (simp only [World.drewN_drewN]; rfl)⟩
          · have hbj : j ≤ b := by
              cases hen : enc l i with
              | none =>
                rcases Nat.lt_or_ge b j with h | h
                · have h1 := enc_near HC.out (by omega) hj h
                  have h2 := HNo.out q (by omega) hen
                  omega
                · exact h
              | some m =>
                have hm := HLow.out m hen
                exact enc_skip HC.out ((HEn.out m).1 hen) (by
                  rcases Nat.lt_or_ge m q with h | h
                  · exact h
                  · obtain rfl : m = q := by omega
                    exact absurd hen he) (by omega) hj
            have hbd : decide (b < j) = false := by simp; omega
            have HNE := Lib.hid he
            clear he hj hb hq hbj
            go_wp2_with (go_at_call 27; refine (HPq.out _).mono ?_; rintro e w1 ⟨rfl, d1, rfl⟩)
            go_roundw
            case rel => exact ⟨q, _, by omega, rfl, by first | rfl | (simp only [World.drewN_drewN]; rfl), fun m hm => by
              have h1 := HLow.out m hm
              by_cases e : m = q
              · subst e; exact absurd hm HNE.out
              · omega⟩
            case measure => first | (simp [intOf]; omega) | simp [intOf]
        · have hbq : (bs[q]'hql).toNat = 41 := HAt.out q false hb hql
          have HNE := Lib.hid (show enc l i ≠ some q from fun he => by
            have := ((HEn.out q).1 he).opens
            rw [hb] at this; cases this)
          clear hb hq
          go_wp2_with fail
          go_roundw
          case rel => exact ⟨q, _, by omega, rfl, rfl, fun m hm => by
            have h1 := HLow.out m hm
            by_cases e : m = q
            · subst e; exact absurd hm HNE.out
            · omega⟩
          case measure => first | (simp [intOf]; omega) | simp [intOf]
  · obtain rfl : i = b := by omega
    rw [if_neg hia] at hbi
    clear hi hia
    go_enter Try.func16, Try.ntmps16
    go_wp2_with (go_at_call 12; refine (H.out _).mono ?_; rintro e w1 ⟨rfl, rfl⟩)
    refine (HPb.out _).mono ?_
    rintro e w1 ⟨rfl, d, rfl⟩
    go_wp2_with fail
    refine (HPa.out _).mono ?_
    rintro e w1 ⟨rfl, d1, rfl⟩
    go_wp2_with fail
    go_loopw [9] (fun s w' => ∃ k d : Nat, k ≤ a ∧ s = .int .i64 ((k : Int) - 1) ∧ w' = w.drewN d ∧ ∀ m, enc l a = some m → m < k) (fun s _ => (intOf s + 1).toNat)
    case atStart => exact ⟨a, _, Nat.le_refl _, rfl, rfl, fun m hm => ((HEn.out m).1 hm).lt⟩
    case round =>
      obtain ⟨k, d, hka, rfl, rfl, hlow⟩ := hrel
      have HLow := Lib.hid hlow
      clear hlow
      rcases Nat.eq_zero_or_pos k with rfl | hk0
      · have hen : enc l a = none := by
          cases he : enc l a with
          | none => rfl
          | some m => have := HLow.out m he; omega
        obtain ⟨rfl, rfl⟩ := HV0.out hen
        clear hen
        have hz : ((0 : Nat) : Int) - 1 = -1 := rfl
        go_wp2_with fail
        go_ret2
        exact ⟨rfl, _, rfl⟩
      · obtain ⟨q, rfl⟩ : ∃ q, k = q + 1 := ⟨k - 1, by omega⟩
        have hq : ((q + 1 : Nat) : Int) - 1 = (q : Int) := by omega
        rw [hq]
        have hql : q < bs.size := by omega
        have hqI : (q : Int) < (bs.size : Int) := by omega
        rcases get_or (show q < l.length by omega) with hb | hb
        · have hbq : (bs[q]'hql).toNat = 40 := HAt.out q true hb hql
          obtain ⟨j, hj⟩ := HCl.out q hb
          have hjl := get_lt hj.shuts
          have HPq := Lib.hid (HPk.out q j hj)
          by_cases he : enc l a = some q
          · have hbj : i < j := enc_far HC.out ((HEn.out q).1 he) hj
            obtain ⟨rfl, rfl⟩ := HV.out q he
            clear he hj hb hq
            go_wp2_with (go_at_call 27; refine (HPq.out _).mono ?_; rintro e w1 ⟨rfl, d1, rfl⟩)
            go_ret2
            exact ⟨rfl, _, by first | rfl | (simp only [World.drewN_drewN]; rfl)⟩
          · have hbj : j ≤ i := by
              cases hen : enc l a with
              | none =>
                rcases Nat.lt_or_ge i j with h | h
                · have h1 := enc_near HC.out (by omega) hj h
                  have h2 := HNo.out q (by omega) hen
                  omega
                · exact h
              | some m =>
                have hm := HLow.out m hen
                exact enc_skip HC.out ((HEn.out m).1 hen) (by
                  rcases Nat.lt_or_ge m q with h | h
                  · exact h
                  · obtain rfl : m = q := by omega
                    exact absurd hen he) (by omega) hj
            have hbd : decide (i < j) = false := by simp; omega
            have HNE := Lib.hid he
            clear he hj hb hq hbj
            go_wp2_with (go_at_call 27; refine (HPq.out _).mono ?_; rintro e w1 ⟨rfl, d1, rfl⟩)
            go_roundw
            case rel => exact ⟨q, _, by omega, rfl, by first | rfl | (simp only [World.drewN_drewN]; rfl), fun m hm => by
              have h1 := HLow.out m hm
              by_cases e : m = q
              · subst e; exact absurd hm HNE.out
              · omega⟩
            case measure => first | (simp [intOf]; omega) | simp [intOf]
        · have hbq : (bs[q]'hql).toNat = 41 := HAt.out q false hb hql
          have HNE := Lib.hid (show enc l a ≠ some q from fun he => by
            have := ((HEn.out q).1 he).opens
            rw [hb] at this; cases this)
          clear hb hq
          go_wp2_with fail
          go_roundw
          case rel => exact ⟨q, _, by omega, rfl, rfl, fun m hm => by
            have h1 := HLow.out m hm
            by_cases e : m = q
            · subst e; exact absurd hm HNE.out
            · omega⟩
          case measure => first | (simp [intOf]; omega) | simp [intOf]
end Go.Proofs.Ytdpcnbehjgpgeaa
