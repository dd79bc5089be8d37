/-
  What perm.Then and the document's PermThen return: contracts, walked over the translated text. No condition but what each theorem names.
-/
import Derived.Test.YtehmngecpipebaaPermIn
namespace Go.Proofs.Ytehmngecpipebaa
open Go.RowKit Words

theorem thenL_take {p q : List Nat} (i : Nat) (hi : i < p.length) : (thenL p q).take (i + 1) = (thenL p q).take i ++ [st q (st p i)] := by
  rw [List.take_add_one, st_get (by rw [thenL_length]; exact hi), thenL, st_map hi]
  rfl
theorem fill_zero (q : List Nat) : fillR q 0 0 = List.replicate q.length 0 := fillR_zero q 0

set_option maxHeartbeats 1000000 in
/-- perm.Then of what is none. -/
theorem then_err1 (A A2 : Option Addr) (n c n2 c2 : Nat) (r : Int) (w : World) (hr : r ≠ 0) (h : Calls Try.prog 18 #[.slice A n c] w (Says w r)) :
    Calls Try.prog 23 #[.slice A n c, .slice A2 n2 c2] w (NoPL w r) := by
  have H := Lib.hid h
  have hne : (r != 0) = true := by simpa using hr
  clear h hr
  go_enter Try.func23, Try.ntmps23
  go_wp2_with fail
  refine H.out.mono ?_
  rintro e w1 ⟨rfl, hb1⟩
  go_wp2_with fail
  go_ret2
  exact ⟨rfl, hb1⟩
theorem then_err2 (A A2 : Option Addr) (n c n2 c2 : Nat) (r : Int) (w : World) (hr : r ≠ 0) (h : Calls Try.prog 18 #[.slice A n c] w (Says w 0)) (h2 : ∀ W, Below w.heap.size w W → Calls Try.prog 18 #[.slice A2 n2 c2] W (Says W r)) :
    Calls Try.prog 23 #[.slice A n c, .slice A2 n2 c2] w (NoPL w r) := by
  have H := Lib.hid h
  have H2 := Lib.hid h2
  have hne : (r != 0) = true := by simpa using hr
  clear h hr h2
  go_enter Try.func23, Try.ntmps23
  go_wp2_with fail
  refine H.out.mono ?_
  rintro e w1 ⟨rfl, hb1⟩
  go_wp2_with fail
  refine (H2.out _ hb1).mono ?_
  rintro e w2 ⟨rfl, hb2⟩
  go_wp2_with fail
  go_ret2
  exact ⟨rfl, chain hb1 hb2⟩
theorem then_err3 (A A2 : Option Addr) (n c n2 c2 : Nat) (w : World) (hne : n ≠ n2) (h : Calls Try.prog 18 #[.slice A n c] w (Says w 0)) (h2 : ∀ W, Below w.heap.size w W → Calls Try.prog 18 #[.slice A2 n2 c2] W (Says W 0)) :
    Calls Try.prog 23 #[.slice A n c, .slice A2 n2 c2] w (NoPL w 1) := by
  have H := Lib.hid h
  have H2 := Lib.hid h2
  have hne1 : ((n : Int) != (n2 : Int)) = true := by simp; omega
  clear h h2 hne
  go_enter Try.func23, Try.ntmps23
  go_wp2_with fail
  refine H.out.mono ?_
  rintro e w1 ⟨rfl, hb1⟩
  go_wp2_with fail
  refine (H2.out _ hb1).mono ?_
  rintro e w2 ⟨rfl, hb2⟩
  go_wp2_with fail
  go_ret2
  exact ⟨rfl, chain hb1 hb2⟩

set_option maxHeartbeats 2000000 in
/-- perm.Then. -/
theorem then_ok (A A2 : Option Addr) (p q : List Nat) (c c2 : Nat) (w : World) (hp : PermL p) (hq : PermL q) (hl : q.length = p.length) (hn : p.length ≤ 300) (hL : Lies w w.heap.size A (natC p)) (hL2 : Lies w w.heap.size A2 (natC q)) :
    Calls Try.prog 23 #[.slice A p.length c, .slice A2 p.length c2] w (GivesPL w (thenL p q) p.length) := by
  have HL := Lib.hid hL
  have HL2 := Lib.hid hL2
  have HC := Lib.hid (check_ok A p c w hp hn hL)
  have HC2 := Lib.hid (fun W hW => check_ok A2 q c2 W hq (by omega) hW)
  have hmk := make_row (P := Try.prog) 22 3 (.int .i64 0) 8 Try.underlying22 pint_info rfl p.length (by omega) (by omega)
  have HZ := Lib.hid (show natC (fillR (thenL p q) 0 0) = List.replicate p.length (.int .i64 0) by rw [fillR_zero, natC_replicate, thenL_length])
  have HLt := Lib.hid (fun i (hi : i < p.length) => hp.st_lt hi)
  have HTl := Lib.hid (thenL_length p q)
  have HSt := Lib.hid (fun i (hi : i < p.length) => fillR_step (thenL p q) 0 i (st q (st p i)) (by rw [st_get (by rw [thenL_length]; exact hi), thenL, st_map hi]))
  have HAt := Lib.hid (fun i (hi : i < p.length) => fillR_at (thenL p q) 0 i (by rw [thenL_length]; exact hi))
  have HAll := Lib.hid (show fillR (thenL p q) 0 p.length = thenL p q by rw [← thenL_length p q]; exact fillR_all _ _)
  rw [hl] at HC2
  obtain ⟨n, hk⟩ : ∃ n, p.length = n := ⟨_, rfl⟩
  rw [hk] at hn hmk HC HC2 hl ⊢
  have HN := Lib.hid hk
  have HQ := Lib.hid hl
  rw [HN.out] at HZ HLt HTl HSt HAt HAll
  clear hk hL hL2 hp hq hl
  have hne : ((n : Int) != (n : Int)) = false := by simp
  go_enter Try.func23, Try.ntmps23
  go_wp2_with fail
  refine HC.out.mono ?_
  rintro e w0 ⟨rfl, hb0⟩
  have HB0 := Lib.hid hb0
  have HL2a := Lib.hid (HL2.out.on hb0)
  clear hb0
  go_wp2_with fail
  refine (HC2.out _ HL2a.out).mono ?_
  rintro e w1 ⟨rfl, hb1⟩
  have HB1 := Lib.hid (chain HB0.out hb1)
  have HL1 := Lib.hid (HL.out.on HB1.out)
  have HLq := Lib.hid (HL2.out.on HB1.out)
  clear hb1
  go_wp2_with fail
  have hbz := zeros_blk w1 (.int .i64 0) n 3
  rw [← HZ.out] at hbz
  have HBl := Lib.hid (bnew w1 (.cells (zeros (.int .i64 0) n) 3))
  generalize w1.alloc (.cells (zeros (.int .i64 0) n) 3) = w2 at *
  have HBz := Lib.hid hbz
  clear hbz hmk HZ hne
  go_loopw [31] (fun u w' => ∃ i : Nat, i ≤ n ∧ u = .int .i64 i ∧ Blk w' w1.heap.size 3 (natC (fillR (thenL p q) 0 i)) ∧ Below w1.heap.size w1 w') (fun u _ => n - (intOf u).toNat)
  case atStart => exact ⟨0, Nat.zero_le _, rfl, HBz.out, HBl.out⟩
  case round =>
    obtain ⟨i, hi, rfl, hbk, hbl⟩ := hrel
    have HBk := Lib.hid hbk
    have HB2 := Lib.hid hbl
    by_cases hlt : i < n
    · obtain ⟨b, o, rfl, hb, hc⟩ := nat_at (HL1.out.below hbl) (k := i) (by rw [HN.out]; exact hlt)
      have hx := HLt.out i hlt
      have HS := Lib.hid (HSt.out i hlt)
      generalize st p i = x at *
      obtain ⟨b2, o2, rfl, hb2, hc2⟩ := nat_at (HLq.out.below hbl) (k := x) (by rw [HQ.out]; exact hx)
      generalize st q x = y at *
      have hcx := hbk.cell i
      rw [natC_at _ i _ (HAt.out i hlt)] at hcx
      have hfz := hbk.frozen i
      clear hbk hbl
      go_wp2_with fail
      go_roundw
      case rel => exact ⟨i + 1, by omega, by go_num, by
        have := HBk.out.put i (.int .i64 y)
        rw [natC_set, HS.out] at this
        exact this, HB2.out.setCell (Nat.le_refl _) _⟩
      case measure => simp [intOf]; omega
    · obtain rfl : n = i := by omega
      clear hbk hbl
      go_wp2_with fail
      go_ret2
      have hl := HBk.out.lies
      rw [HAll.out] at hl
      have hs := HB1.out.size
      exact ⟨_, _, rfl, Nat.le_refl _, hl, (fun e => by cases e), (fun ad e => by obtain rfl := Option.some.inj e; exact hs), chain HB1.out HB2.out⟩

set_option maxHeartbeats 1000000 in
/-- The document's PermThen of what is none. -/
theorem rthen_err1 (A A2 : Option Addr) (n c n2 c2 : Nat) (r : Int) (w : World) (hr : r ≠ 0) (h : Calls Try.prog 19 #[.slice A n c] w (Says w r)) :
    Calls Try.prog 24 #[.slice A n c, .slice A2 n2 c2] w (NoPL w r) := by
  have H := Lib.hid h
  have hne : (r != 0) = true := by simpa using hr
  have heq : (r == 0) = false := by simpa using hr
  clear h hr
  go_enter Try.func24, Try.ntmps24
  go_wp2_with fail
  refine H.out.mono ?_
  rintro e w1 ⟨rfl, hb1⟩
  go_wp2_with fail
  go_ret2
  exact ⟨rfl, hb1⟩
theorem rthen_err2 (A A2 : Option Addr) (n c n2 c2 : Nat) (r : Int) (w : World) (hr : r ≠ 0) (h : Calls Try.prog 19 #[.slice A n c] w (Says w 0)) (h2 : ∀ W, Below w.heap.size w W → Calls Try.prog 19 #[.slice A2 n2 c2] W (Says W r)) :
    Calls Try.prog 24 #[.slice A n c, .slice A2 n2 c2] w (NoPL w r) := by
  have H := Lib.hid h
  have H2 := Lib.hid h2
  have hne : (r != 0) = true := by simpa using hr
  have heq : (r == 0) = false := by simpa using hr
  clear h hr h2
  go_enter Try.func24, Try.ntmps24
  go_wp2_with fail
  refine H.out.mono ?_
  rintro e w1 ⟨rfl, hb1⟩
  go_wp2_with fail
  refine (H2.out _ hb1).mono ?_
  rintro e w2 ⟨rfl, hb2⟩
  go_wp2_with fail
  go_ret2
  exact ⟨rfl, chain hb1 hb2⟩
theorem rthen_err3 (A A2 : Option Addr) (n c n2 c2 : Nat) (w : World) (hne : n ≠ n2) (h : Calls Try.prog 19 #[.slice A n c] w (Says w 0)) (h2 : ∀ W, Below w.heap.size w W → Calls Try.prog 19 #[.slice A2 n2 c2] W (Says W 0)) :
    Calls Try.prog 24 #[.slice A n c, .slice A2 n2 c2] w (NoPL w 1) := by
  have H := Lib.hid h
  have H2 := Lib.hid h2
  have hne1 : ((n : Int) != (n2 : Int)) = true := by simp; omega
  clear h h2 hne
  go_enter Try.func24, Try.ntmps24
  go_wp2_with fail
  refine H.out.mono ?_
  rintro e w1 ⟨rfl, hb1⟩
  go_wp2_with fail
  refine (H2.out _ hb1).mono ?_
  rintro e w2 ⟨rfl, hb2⟩
  go_wp2_with fail
  go_ret2
  exact ⟨rfl, chain hb1 hb2⟩

set_option maxHeartbeats 2000000 in
/-- The document's PermThen. -/
theorem rthen_ok (A A2 : Option Addr) (p q : List Nat) (c c2 : Nat) (w : World) (hp : PermL p) (hq : PermL q) (hl : q.length = p.length) (hn : p.length ≤ 300) (hnone : A = none → c = 0) (hnone2 : A2 = none → c2 = 0) (hL : Lies w w.heap.size A (natC p)) (hL2 : Lies w w.heap.size A2 (natC q)) :
    Calls Try.prog 24 #[.slice A p.length c, .slice A2 p.length c2] w (GivesPL w (thenL p q) p.length) := by
  have HL := Lib.hid hL
  have HL2 := Lib.hid hL2
  have HC := Lib.hid (rfault_ok11 A p c w hp hn hnone hL)
  have HC2 := Lib.hid (fun W hW => rfault_ok11 A2 q c2 W hq (by omega) hnone2 hW)
  have HLt := Lib.hid (fun i (hi : i < p.length) => hp.st_lt hi)
  have HTl := Lib.hid (thenL_length p q)
  have HPt := Lib.hid (fun (i : Nat) (hi : i < p.length) => thenL_take (q := q) i hi)
  rw [hl] at HC2
  obtain ⟨n, hk⟩ : ∃ n, p.length = n := ⟨_, rfl⟩
  rw [hk] at hn HC HC2 hl ⊢
  have HN := Lib.hid hk
  have HQ := Lib.hid hl
  rw [HN.out] at HLt HTl HPt
  clear hk hL hL2 hp hq hl hnone hnone2
  have hne : ((n : Int) != (n : Int)) = false := by simp
  go_enter Try.func24, Try.ntmps24
  go_wp2_with fail
  refine HC.out.mono ?_
  rintro e w0 ⟨rfl, hb0⟩
  have HB0 := Lib.hid hb0
  have HL2a := Lib.hid (HL2.out.on hb0)
  clear hb0
  go_wp2_with fail
  refine (HC2.out _ HL2a.out).mono ?_
  rintro e w1 ⟨rfl, hb1⟩
  have HB1 := Lib.hid (chain HB0.out hb1)
  have HL1 := Lib.hid (HL.out.on HB1.out)
  have HLq := Lib.hid (HL2.out.on HB1.out)
  clear hb1
  go_wp2_with fail
  clear hne
  go_loopw [7, 29] (fun v u w' => ∃ i : Nat, i ≤ n ∧ u = .int .i64 i ∧ w'.ownsRow w1.heap.size 3 1 v i (natC ((thenL p q).take i)) ∧ Below w1.heap.size w1 w') (fun _ u _ => n - (intOf u).toNat)
  case atStart => exact ⟨0, Nat.zero_le _, rfl, by rw [List.take_zero]; exact World.ownsRow_nil _ _ _ _, Below.refl _ _⟩
  case round =>
    obtain ⟨i, hi, rfl, hown, hbl⟩ := hrel
    have HB2 := Lib.hid hbl
    have hsz := hbl.size
    by_cases hlt : i < n
    · obtain ⟨b, o, rfl, hb, hc⟩ := nat_at (HL1.out.below hbl) (k := i) (by rw [HN.out]; exact hlt)
      have hx := HLt.out i hlt
      have HPx := Lib.hid (HPt.out i hlt)
      generalize st p i = x at *
      obtain ⟨b2, o2, rfl, hb2, hc2⟩ := nat_at (HLq.out.below hbl) (k := x) (by rw [HQ.out]; exact hx)
      generalize st q x = y at *
      clear hbl
      go_wp2_with (at_builtin; go_loud (refine append_one _ rfl (.tmp 32) (.tmp 40) 22 rfl w1.heap.size 3 (.int .i64 0) 8 Try.underlying22 pint_info rfl u7 i _ rfl (hown.alloc _) wr.heap.size 1 (.int .i64 y) rfl (by simp) rfl (by simp only [maxLen]; omega) (by omega) (by simp; omega) ?_))
      intro v1 w2 hown1 hg1
      go_wp2_with fail
      go_roundw
      case rel => exact ⟨i + 1, by omega, by go_num, by rw [HPx.out, natC_snoc]; exact hown1, (HB2.out.alloc hsz _).grown hg1 (by simp; omega) (fun q hq => (hown.lt q hq).1)⟩
      case measure => simp [intOf]; omega
    · obtain rfl : n = i := by omega
      rw [List.take_of_length_le (by rw [HTl.out]; exact Nat.le_refl _)] at hown
      obtain ⟨A3, c3, rfl, hle3, _, hl3, hnone3, hnew3⟩ := own_slice hown
      clear hown
      go_wp2_with fail
      go_ret2
      have hs := HB1.out.size
      exact ⟨_, _, rfl, hle3, hl3, hnone3, hnew3.mono hs, chain HB1.out HB2.out⟩
end Go.Proofs.Ytehmngecpipebaa
