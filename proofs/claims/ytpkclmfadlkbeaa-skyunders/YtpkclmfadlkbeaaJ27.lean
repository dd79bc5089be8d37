/-
  What the document's isAbove and SkyUnder return: contracts, walked over the translated text. No condition but what each theorem names.
-/
import Derived.Test.YtpkclmfadlkbeaaJ26
import Derived.Test.YtpkclmfadlkbeaaJ18
namespace Go.Proofs.Ytpkclmfadlkbeaa
open Go.RowKit Go.Sort

set_option maxHeartbeats 1000000 in
/-- The document's isAbove. -/
theorem rabove_any (p q : Pt3) (w : World) : Calls Try.prog 27 #[p.val, q.val] w fun e w' => e = .returned (.bool (dom p q)) ∧ Below w.heap.size w w' := by
  obtain ⟨px, py, pw⟩ := p
  obtain ⟨qx, qy, qw⟩ := q
  unfold dom Pt3.val
  have HB := Lib.hid ((bnew w (.cells #[.int .i64 px, .int .i64 py, .int .i64 pw] 30)).alloc (by simp) (.cells #[.int .i64 qx, .int .i64 qy, .int .i64 qw] 30))
  rcases Int.lt_trichotomy qx px with h1 | h1 | h1 <;> rcases Int.lt_trichotomy qy py with h2 | h2 | h2
  all_goals
    have e : (decide (qx ≤ px) && decide (qy ≤ py) && (decide (qx < px) || decide (qy < py))) = decide ((qx ≤ px ∧ qy ≤ py) ∧ (qx < px ∨ qy < py)) := by simp
    first
      | rw [e, decide_eq_true (by omega)]
      | rw [e, decide_eq_false (by omega)]
    clear e
    try subst h1
    try subst h2
    go_enter Try.func27, Try.ntmps27
    go_wp2
    go_ret
    first
      | exact ⟨rfl, HB.out⟩
      | exact ⟨by simp; omega, HB.out⟩
set_option maxHeartbeats 1000000 in
/-- The document's SkyUnder: the errors. -/
theorem runder_err (A : Option Addr) (ps : List Pt3) (c : Nat) (i : Int) (w : World) (hb : ps.length ≤ 17592186044416) (hL : Lies w w.heap.size A (ptC ps)) (he : ptsF ps ≠ 0) :
    Calls Try.prog 9 #[.slice A ps.length c, .int .i64 i] w (TellsG w 0 (ptsF ps)) := by
  have HP := Lib.hid (rpf_any A ps c w hb hL)
  generalize ptsF ps = z at *
  generalize ps.length = n at *
  have hz : (z != 0) = true := by simpa using he
  clear hL he
  go_enter Try.func9, Try.ntmps9
  go_wp2_with fail
  refine HP.out.mono ?_
  rintro e w1 ⟨rfl, hb1⟩
  go_wp2_with fail
  go_ret2
  exact ⟨rfl, hb1⟩
set_option maxHeartbeats 1000000 in
theorem runder_out (A : Option Addr) (ps : List Pt3) (c : Nat) (i : Int) (w : World) (hb : ps.length ≤ 17592186044416) (hL : Lies w w.heap.size A (ptC ps)) (he : ptsF ps = 0) (hi : i < 0 ∨ (ps.length : Int) ≤ i) :
    Calls Try.prog 9 #[.slice A ps.length c, .int .i64 i] w (TellsG w 0 2) := by
  have HP := Lib.hid (rpf_any A ps c w hb hL)
  rw [he] at HP
  generalize ps.length = n at *
  clear hL he
  rcases hi with hi | hi
  all_goals
    go_enter Try.func9, Try.ntmps9
    go_wp2_with fail
    refine HP.out.mono ?_
    rintro e w1 ⟨rfl, hb1⟩
    by_cases h0 : 0 ≤ i
    all_goals
      go_wp2_with fail
      go_ret2
      exact ⟨rfl, hb1⟩
set_option maxHeartbeats 2000000 in
/-- .. the answer: how many the point dominates. -/
theorem runder_ok (A : Option Addr) (ps : List Pt3) (c : Nat) (i : Nat) (w : World) (hL : Lies w w.heap.size A (ptC ps)) (he : ptsF ps = 0) (hi : i < ps.length) :
    Calls Try.prog 9 #[.slice A ps.length c, .int .i64 i] w (TellsG w (undN ps i) 0) := by
  have hn := (ptsF_zero he).1
  have HP := Lib.hid (rpf_any A ps c w (by omega) hL)
  rw [he] at HP
  have HL := Lib.hid hL
  have HSt := Lib.hid (fun m q (hq : ps[m]? = some q) => undTo_step hq i)
  have HLe := Lib.hid (fun m => undTo_le ps i m)
  have HZ := Lib.hid (show undTo ps i 0 = 0 by simp [undTo])
  have HAll := Lib.hid (show undTo ps i ps.length = undN ps i from rfl)
  have HP1 := Lib.hid (ptAt_get hi)
  obtain ⟨a, ha⟩ : ∃ a, ptAt ps i = a := ⟨_, rfl⟩
  rw [ha] at HP1 HSt
  have HAb := Lib.hid (fun q W => rabove_any a q W)
  obtain ⟨n, hk⟩ : ∃ n, ps.length = n := ⟨_, rfl⟩
  have HN := Lib.hid hk
  rw [hk] at hn hi HAll HP ⊢
  clear hk hL he ha
  unfold Pt3.val at HAb
  have hiI : (i : Int) < (n : Int) := by omega
  have hd0 : decide ((i : Int) < 0) = false := by simp
  have hd1 : decide (n ≤ i) = false := by simp; omega
  go_enter Try.func9, Try.ntmps9
  go_wp2_with fail
  refine HP.out.mono ?_
  rintro e w1 ⟨rfl, hb1⟩
  have HB1 := Lib.hid hb1
  have HL1 := Lib.hid (HL.out.on hb1)
  clear hb1
  go_wp2_with fail
  go_loopw [7, 25] (fun v u w' => ∃ k : Nat, k ≤ n ∧ u = .int .i64 k ∧ v = .int .i64 (undTo ps i k) ∧ Below w1.heap.size w1 w') (fun _ u _ => n - (intOf u).toNat)
  case atStart => exact ⟨0, Nat.zero_le _, rfl, by rw [HZ.out]; rfl, Below.refl _ _⟩
  case round =>
    obtain ⟨k, hk, rfl, rfl, hbl⟩ := hrel
    have HLr := Lib.hid (HL1.out.on hbl)
    have hle := HLe.out k
    by_cases hlt : k < n
    · obtain ⟨q, hq⟩ : ∃ q, ps[k]? = some q := ⟨_, List.getElem?_eq_getElem (by rw [HN.out]; exact hlt)⟩
      obtain ⟨b, o, rfl, hb, qx, qy, qw⟩ := pts_at HLr.out hq
      obtain ⟨b2, o2, hAA, hb2, ax, ay, aw⟩ := pts_at HLr.out HP1.out
      cases hAA
      have HSk := Lib.hid (HSt.out k q hq)
      have HA := Lib.hid (fun W => HAb.out q W)
      unfold Pt3.val at HA
      have hkI : (k : Int) < (n : Int) := by omega
      have HBl := Lib.hid hbl
      generalize undTo ps i k = m at *
      generalize dom a q = d at *
      clear hbl hq
      go_wp2_with fail
      have hbA := bnew wr (.cells #[.int .i64 q.x, .int .i64 q.y, .int .i64 q.w] 30)
      have HBx := Lib.hid (chain HBl.out hbA)
      have HK := Blk.new wr 30 [.int .i64 q.x, .int .i64 q.y, .int .i64 q.w]
      have hsz := HK.lt
      have k0 := HK.cell 0
      have k1 := HK.cell 1
      have k2 := HK.cell 2
      have a0 := (bcell hbA _ _ hb2).trans ax
      have a1 := (bcell hbA _ _ hb2).trans ay
      have a2 := (bcell hbA _ _ hb2).trans aw
      clear qx qy qw ax ay aw hbA HK
      generalize wr.alloc (.cells #[.int .i64 q.x, .int .i64 q.y, .int .i64 q.w] 30) = wa at *
      go_region_with (go_at_call 27; refine (HA.out _).mono ?_; rintro e w2 ⟨rfl, hb3⟩)
      all_goals
        cases d with
        | false =>
          go_wp2_with fail
          go_roundw
          case rel => exact ⟨k + 1, by omega, by go_num, by rw [HSk.out]; rfl, chain HBx.out.drew hb3⟩
          case measure => simp [intOf]; omega
        | true =>
          have hmI : IntKind.i64.wrap ((m : Int) + 1) = ((m + 1 : Nat) : Int) := by rw [IntKind.wrap_i64]; omega
          go_wp2_with fail
          go_roundw
          case rel => exact ⟨k + 1, by omega, by go_num, by rw [HSk.out]; rfl, chain HBx.out.drew hb3⟩
          case measure => simp [intOf]; omega
    · obtain rfl : n = k := by omega
      have HBl := Lib.hid hbl
      go_wp2_with fail
      go_ret2
      exact ⟨by rw [HAll.out]; rfl, chain HB1.out HBl.out⟩
end Go.Proofs.Ytpkclmfadlkbeaa
