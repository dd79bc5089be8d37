/-
  What perm.Inverse, perm.Then and the document's answers return: contracts, walked over the translated text. No condition but what each theorem names.
-/
import Derived.Test.YtehmngecpipebaaPermCk
namespace Go.Proofs.Ytehmngecpipebaa
open Go.RowKit Words

/-- A number, by its place. -/
theorem nat_at {w : World} {B : Nat} {A : Option Addr} {p : List Nat} (h : Lies w B A (natC p)) {k : Nat} (hk : k < p.length) :
    ∃ b o, A = some ⟨b, o, none⟩ ∧ b < B ∧ w.cell? ⟨b, o + k, none⟩ = some (.int .i64 (st p k : Nat)) := by
  obtain ⟨b, o, x, e, hb, hx, hc⟩ := Lies.at_ (f := fun x : Nat => Value.int .i64 (x : Int)) h hk
  exact ⟨b, o, e, hb, by rw [st_of hx]; exact hc⟩

/-- A list of numbers and OK; no list and an error. -/
def GivesPL (w : World) (q : List Nat) (n : Nat) (e : Ending) (w' : World) : Prop := ∃ A c, e = .returned (.tuple #[.slice A n c, .int .i64 0]) ∧ n ≤ c ∧ Lies w' w'.heap.size A (natC q) ∧ (A = none → c = 0) ∧ New w.heap.size A ∧ Below w.heap.size w w'
def NoPL (w : World) (r : Int) (e : Ending) (w' : World) : Prop := e = .returned (.tuple #[.slice none 0 0, .int .i64 r]) ∧ Below w.heap.size w w'

theorem own_givesPL {w w' : World} {q : List Nat} {n : Nat} {v : Value} (h : w'.ownsRow w.heap.size 3 1 v n (natC q)) (hb : Below w.heap.size w w') : ∃ A c, v = .slice A n c ∧ n ≤ c ∧ Lies w' w'.heap.size A (natC q) ∧ (A = none → c = 0) ∧ New w.heap.size A ∧ Below w.heap.size w w' := by
  obtain ⟨A', c', e, hle, _, hl, hnone, hnew⟩ := own_slice h
  exact ⟨A', c', e, hle, hl, hnone, hnew, hb⟩

/-- Where a number stands. -/
def plc (p : List Nat) (x : Nat) : Int := if x ∈ p then (p.idxOf x : Int) else -1
theorem idx_first {p : List Nat} {i x : Nat} (h : p[i]? = some x) (hn : x ∉ p.take i) : p.idxOf x = i := by
  obtain ⟨hi, e⟩ := List.getElem?_eq_some_iff.1 h
  have sp : p = p.take i ++ x :: p.drop (i + 1) := by
    conv => lhs; rw [← List.take_append_drop i p, List.drop_eq_getElem_cons hi, e]
  rw [sp, List.idxOf_append, if_neg hn, List.idxOf_cons_self, List.length_take]
  omega
theorem plc_here {p : List Nat} {i x : Nat} (h : p[i]? = some x) (hn : x ∉ p.take i) : plc p x = i := by
  unfold plc
  rw [if_pos (List.mem_of_getElem? h), idx_first h hn]
theorem plc_mem {p : List Nat} {x : Nat} (h : x ∈ p) : plc p x = (p.idxOf x : Int) := if_pos h
theorem plc_none {p : List Nat} {x : Nat} (hn : x ∉ p) : plc p x = -1 := if_neg hn
theorem plc_bounds (p : List Nat) (x : Nat) : -1 ≤ plc p x ∧ plc p x ≤ p.length := by
  unfold plc
  split
  · have := List.idxOf_le_length (l := p) (a := x)
    omega
  · omega

set_option maxHeartbeats 1000000 in
/-- The document's placeOf. -/
theorem place_any (A : Option Addr) (p : List Nat) (c x : Nat) (w : World) (hn : p.length ≤ 17592186044416) (hL : Lies w w.heap.size A (natC p)) :
    Calls Try.prog 48 #[.slice A p.length c, .int .i64 x] w fun e w' => e = .returned (.int .i64 (plc p x)) ∧ w = w' := by
  have HL := Lib.hid hL
  obtain ⟨n, hk⟩ : ∃ n, p.length = n := ⟨_, rfl⟩
  obtain ⟨r, hr⟩ : ∃ r, plc p x = r := ⟨_, rfl⟩
  have HR := Lib.hid hr
  rw [hr]
  rw [hk] at hn ⊢
  have HN := Lib.hid hk
  clear hk hL hr
  go_enter Try.func48, Try.ntmps48
  go_wp2_with fail
  go_loop [9] (fun u => ∃ i : Nat, i ≤ n ∧ u = .int .i64 i ∧ x ∉ p.take i) (fun u => n - (intOf u).toNat)
  case atStart => exact ⟨0, Nat.zero_le _, rfl, by simp⟩
  case round =>
    obtain ⟨i, hi, rfl, hso⟩ := hrel
    have HSo := Lib.hid hso
    clear hso
    by_cases hlt : i < n
    · have hg := Lib.hid (st_get (p := p) (i := i) (by rw [HN.out]; exact hlt))
      obtain ⟨b, o, rfl, hb, hc⟩ := nat_at HL.out (k := i) (by rw [HN.out]; exact hlt)
      generalize st p i = z at *
      by_cases he : z = x
      · subst he
        have hne : ((z : Int) == (z : Int)) = true := by simp
        have HF := Lib.hid (plc_here hg.out HSo.out)
        go_wp2_with fail
        go_ret
        exact ⟨by rw [← HR.out, HF.out]; rfl, rfl⟩
      · have hne : ((z : Int) == (x : Int)) = false := by simp; omega
        go_wp2_with fail
        go_round
        case rel => exact ⟨i + 1, by omega, by go_num, by
          rw [List.take_add_one, hg.out, List.mem_append]
          rintro (h | h)
          · exact HSo.out h
          · exact he (by simp at h; omega)⟩
        case measure => simp [intOf]; omega
    · obtain rfl : n = i := by omega
      have HF := Lib.hid (plc_none (p := p) (x := x) (by have := HSo.out; rwa [List.take_of_length_le (by rw [HN.out]; exact Nat.le_refl _)] at this))
      go_wp2_with fail
      go_ret
      exact ⟨by rw [← HR.out, HF.out]; rfl, rfl⟩

/-- The inverse while it is made. -/
def invTo (p : List Nat) (i : Nat) : List Nat := (List.range p.length).map fun x => if p.idxOf x < i then p.idxOf x else 0
theorem invTo_length (p : List Nat) (i : Nat) : (invTo p i).length = p.length := by simp [invTo]
theorem invTo_zero (p : List Nat) : invTo p 0 = List.replicate p.length 0 := by
  unfold invTo
  apply List.ext_getElem?
  intro i
  by_cases h : i < p.length
  · rw [List.getElem?_map, List.getElem?_range h, List.getElem?_replicate, if_pos h]; simp
  · rw [List.getElem?_eq_none (by simp; omega), List.getElem?_eq_none (by simp; omega)]
theorem invTo_all {p : List Nat} (h : PermL p) : invTo p p.length = invL p :=
  List.map_congr_left fun _ hx => if_pos (idx_lt h (List.mem_range.1 hx))
theorem invTo_step {p : List Nat} (h : PermL p) {i : Nat} (hi : i < p.length) : (invTo p i).set (st p i) i = invTo p (i + 1) := by
  apply List.ext_getElem?
  intro j
  by_cases hj : j < p.length
  · have e2 : (invTo p (i + 1))[j]? = some (if p.idxOf j < i + 1 then p.idxOf j else 0) := by unfold invTo; rw [List.getElem?_map, List.getElem?_range hj]; rfl
    have e1 : (invTo p i)[j]? = some (if p.idxOf j < i then p.idxOf j else 0) := by unfold invTo; rw [List.getElem?_map, List.getElem?_range hj]; rfl
    rw [e2]
    by_cases e : st p i = j
    · subst e
      rw [List.getElem?_set_self (by rw [invTo_length]; exact hj), idx_st h hi, if_pos (by omega)]
    · rw [List.getElem?_set_ne e, e1]
      have : p.idxOf j ≠ i := fun e3 => e (by rw [← e3]; exact st_idx h hj)
      by_cases c : p.idxOf j < i
      · rw [if_pos c, if_pos (by omega)]
      · rw [if_neg c, if_neg (by omega)]
  · rw [List.getElem?_eq_none (by rw [List.length_set, invTo_length]; omega), List.getElem?_eq_none (by rw [invTo_length]; omega)]

set_option maxHeartbeats 1000000 in
/-- perm.Inverse of what is none. -/
theorem inverse_err (A : Option Addr) (n c : Nat) (r : Int) (w : World) (hr : r ≠ 0) (h : Calls Try.prog 18 #[.slice A n c] w (Says w r)) :
    Calls Try.prog 20 #[.slice A n c] w (NoPL w r) := by
  have H := Lib.hid h
  have hne : (r != 0) = true := by simpa using hr
  clear h hr
  go_enter Try.func20, Try.ntmps20
  go_wp2_with fail
  refine H.out.mono ?_
  rintro e w1 ⟨rfl, hb1⟩
  go_wp2_with fail
  go_ret2
  exact ⟨rfl, hb1⟩

set_option maxHeartbeats 2000000 in
/-- perm.Inverse. -/
theorem inverse_ok (A : Option Addr) (p : List Nat) (c : Nat) (w : World) (hp : PermL p) (hn : p.length ≤ 300) (hL : Lies w w.heap.size A (natC p)) :
    Calls Try.prog 20 #[.slice A p.length c] w (GivesPL w (invL p) p.length) := by
  have HL := Lib.hid hL
  have HC := Lib.hid (check_ok A p c w hp hn hL)
  have hmk := make_row (P := Try.prog) 22 3 (.int .i64 0) 8 Try.underlying22 pint_info rfl p.length (by omega) (by omega)
  have HZ := Lib.hid (show natC (invTo p 0) = List.replicate p.length (.int .i64 0) by rw [invTo_zero, natC_replicate])
  have HSt := Lib.hid (fun i (hi : i < p.length) => invTo_step hp hi)
  have HAll := Lib.hid (invTo_all hp)
  have HLt := Lib.hid (fun i (hi : i < p.length) => hp.st_lt hi)
  have HIL := Lib.hid (invTo_length p)
  obtain ⟨n, hk⟩ : ∃ n, p.length = n := ⟨_, rfl⟩
  rw [hk] at hn hmk HC ⊢
  have HN := Lib.hid hk
  rw [HN.out] at HZ HSt HAll HLt
  clear hk hL hp
  go_enter Try.func20, Try.ntmps20
  go_wp2_with fail
  refine HC.out.mono ?_
  rintro e w1 ⟨rfl, hb1⟩
  have HL1 := Lib.hid (HL.out.on hb1)
  have HB1 := Lib.hid hb1
  clear hb1
  go_wp2_with fail
  have hbz := zeros_blk w1 (.int .i64 0) n 3
  rw [← HZ.out] at hbz
  have HBl := Lib.hid (bnew w1 (.cells (zeros (.int .i64 0) n) 3))
  have HL2 := Lib.hid (HL1.out.below HBl.out)
  generalize w1.alloc (.cells (zeros (.int .i64 0) n) 3) = w2 at *
  have HBz := Lib.hid hbz
  clear hbz hmk HZ
  go_loopw [18] (fun u w' => ∃ i : Nat, i ≤ n ∧ u = .int .i64 i ∧ Blk w' w1.heap.size 3 (natC (invTo p i)) ∧ Below w1.heap.size w1 w') (fun u _ => n - (intOf u).toNat)
  case atStart => exact ⟨0, Nat.zero_le _, rfl, HBz.out, HBl.out⟩
  case round =>
    obtain ⟨i, hi, rfl, hbk, hbl⟩ := hrel
    have HBk := Lib.hid hbk
    have HB2 := Lib.hid hbl
    by_cases hlt : i < n
    · obtain ⟨b, o, rfl, hb, hc⟩ := nat_at (HL1.out.below hbl) (k := i) (by rw [HN.out]; exact hlt)
      have hx := HLt.out i hlt
      have HS := Lib.hid (HSt.out i hlt)
      generalize st p i = x at *
      have hcx := hbk.cell x
      rw [natC_at _ x _ (st_get (by rw [HIL.out, HN.out]; exact hx))] at hcx
      have hfz := hbk.frozen x
      clear hbk hbl
      go_wp2_with fail
      go_roundw
      case rel => exact ⟨i + 1, by omega, by go_num, by
        have := HBk.out.put x (.int .i64 i)
        rw [natC_set, HS.out] at this
        exact this, HB2.out.setCell (Nat.le_refl _) _⟩
      case measure => simp [intOf]; omega
    · obtain rfl : n = i := by omega
      clear hbk hbl
      go_wp2_with fail
      go_ret2
      have hl := HBk.out.lies
      rw [HAll.out] at hl
      have hs := HB1.out.size
      exact ⟨_, _, rfl, Nat.le_refl _, hl, (fun e => by cases e), (fun ad e => by obtain rfl := Option.some.inj e; exact hs), chain HB1.out HB2.out⟩

set_option maxHeartbeats 1000000 in
/-- The document's PermInverse of what is none. -/
theorem rinverse_err (A : Option Addr) (n c : Nat) (r : Int) (w : World) (hr : r ≠ 0) (h : Calls Try.prog 19 #[.slice A n c] w (Says w r)) :
    Calls Try.prog 21 #[.slice A n c] w (NoPL w r) := by
  have H := Lib.hid h
  have hne : (r != 0) = true := by simpa using hr
  clear h hr
  go_enter Try.func21, Try.ntmps21
  go_wp2_with fail
  refine H.out.mono ?_
  rintro e w1 ⟨rfl, hb1⟩
  go_wp2_with fail
  go_ret2
  exact ⟨rfl, hb1⟩

/-- The document's PermFault of a permutation. -/
theorem rfault_ok11 (A : Option Addr) (p : List Nat) (c : Nat) (w : World) (hp : PermL p) (hn : p.length ≤ 300) (hnone : A = none → c = 0) (hL : Lies w w.heap.size A (natC p)) :
    Calls Try.prog 19 #[.slice A p.length c] w (Says w 0) := by
  have h := rfault_any11 A (ofN p) c w (by rw [ofN_length]; omega) hnone (by unfold ofN; rw [← natC_map]; exact hL)
  rwa [ofN_length, chk_ofN hp hn] at h

theorem invL_take {p : List Nat} (i : Nat) (hi : i < p.length) : (invL p).take (i + 1) = (invL p).take i ++ [p.idxOf i] := by
  rw [List.take_add_one, st_get (by rw [invL_length]; exact hi), st_inv hi]
  rfl

set_option maxHeartbeats 2000000 in
/-- The document's PermInverse. -/
theorem rinverse_ok (A : Option Addr) (p : List Nat) (c : Nat) (w : World) (hp : PermL p) (hn : p.length ≤ 300) (hnone : A = none → c = 0) (hL : Lies w w.heap.size A (natC p)) :
    Calls Try.prog 21 #[.slice A p.length c] w (GivesPL w (invL p) p.length) := by
  have HL := Lib.hid hL
  have HC := Lib.hid (rfault_ok11 A p c w hp hn hnone hL)
  have HPl := Lib.hid (fun (x : Nat) W hW => place_any A p c x W (by omega) hW)
  have HPv := Lib.hid (fun (x : Nat) (hx : x < p.length) => plc_mem (hp.mem hx))
  have HPt := Lib.hid (fun (i : Nat) (hi : i < p.length) => invL_take i hi)
  have HPb := Lib.hid (fun (x : Nat) (hx : x < p.length) => idx_lt hp hx)
  have HIL := Lib.hid (invL_length p)
  obtain ⟨n, hk⟩ : ∃ n, p.length = n := ⟨_, rfl⟩
  rw [hk] at hn HC ⊢
  have HN := Lib.hid hk
  rw [HN.out] at HPl HPv HPt HPb HIL
  clear hk hL hp hnone
  go_enter Try.func21, Try.ntmps21
  go_wp2_with fail
  refine HC.out.mono ?_
  rintro e w1 ⟨rfl, hb1⟩
  have HL1 := Lib.hid (HL.out.on hb1)
  have HB1 := Lib.hid hb1
  clear hb1
  go_wp2_with fail
  go_loopw [5, 14] (fun v u w' => ∃ i : Nat, i ≤ n ∧ u = .int .i64 i ∧ w'.ownsRow w1.heap.size 3 1 v i (natC ((invL p).take i)) ∧ Below w1.heap.size w1 w') (fun _ u _ => n - (intOf u).toNat)
  case atStart => exact ⟨0, Nat.zero_le _, rfl, by rw [List.take_zero]; exact World.ownsRow_nil _ _ _ _, Below.refl _ _⟩
  case round =>
    obtain ⟨i, hi, rfl, hown, hbl⟩ := hrel
    have HB2 := Lib.hid hbl
    have hsz := hbl.size
    by_cases hlt : i < n
    · have HP1 := Lib.hid (HPl.out i · )
      have hv := HPv.out i hlt
      rw [hv] at HP1
      have HPx := Lib.hid (HPt.out i hlt)
      have HLw := Lib.hid (HL1.out.on hbl)
      have hb9 := HPb.out i hlt
      clear hv hbl
      generalize p.idxOf i = y at *
      go_wp2_with (first
        | (go_at_call 48; refine (HP1.out _ HLw.out).mono ?_; rintro e w' ⟨rfl, rfl⟩)
        | (at_builtin; go_loud (refine append_one _ rfl (.tmp 17) (.tmp 21) 22 rfl w1.heap.size 3 (.int .i64 0) 8 Try.underlying22 pint_info rfl u5 i _ rfl (hown.alloc _) wr.heap.size 1 (.int .i64 y) rfl (by simp) rfl (by simp only [maxLen]; omega) (by omega) (by simp; omega) ?_)))
      intro v1 w2 hown1 hg1
      go_wp2_with fail
      go_roundw
      case rel => exact ⟨i + 1, by omega, by go_num, by rw [HPx.out, natC_snoc]; exact hown1, (HB2.out.alloc hsz _).grown hg1 (by simp; omega) (fun q hq => (hown.lt q hq).1)⟩
      case measure => simp [intOf]; omega
    · obtain rfl : n = i := by omega
      rw [List.take_of_length_le (by rw [HIL.out]; exact Nat.le_refl _)] at hown
      obtain ⟨A2, c2, rfl, hle2, _, hl2, hnone2, hnew2⟩ := own_slice hown
      clear hown
      go_wp2_with fail
      go_ret2
      have hs := HB1.out.size
      exact ⟨_, _, rfl, hle2, hl2, hnone2, hnew2.mono hs, chain HB1.out HB2.out⟩
end Go.Proofs.Ytehmngecpipebaa
