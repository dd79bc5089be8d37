/-
  What perm.Check and the document's PermFault return: contracts, walked over the translated text. What perm.Inverse, perm.Then and the document's answers return: contracts, walked over the translated text. What perm.Then and the document's PermThen return: contracts, walked over the translated text. What perm.lessBehind, perm.Swaps and the document's PermSwaps return: contracts, walked over the translated text. What Shuffle and then of the keeps return: contracts, walked over the translated text. No condition but what each theorem names.
-/
import Derived.Test.YtpkclmfadlkbeaaJ27
import Derived.Test.YtpkclmfadlkbeaaJ13
import Derived.Test.YtpkclmfadlkbeaaJ01
import Derived.Test.YtpkclmfadlkbeaaJ09
import Derived.Test.YtpkclmfadlkbeaaJ02
import Derived.IntWalk
import Derived.Deep.RegionHeld3
import Derived.Deep.QuietTactic
import Derived.BigQuiet
import Derived.Test.YtpkclmfadlkbeaaJ24
import Derived.Test.YtpkclmfadlkbeaaJ04
import Derived.BigRegion
namespace Go.Proofs.Ytpkclmfadlkbeaa
open Go.RowKit Go.Sort Words

theorem pint_info : (Try.prog.info? 3).map (fun i => (i.zero, i.size, i.bytes)) = some (some (.int .i64 0), 1, 8) := by kernel_rfl
theorem pbool_info : (Try.prog.info? 4).map (fun i => (i.zero, i.size, i.bytes)) = some (some (.bool false), 1, 1) := by kernel_rfl

/-- A call that returns an error's number, and makes memory at most. -/
def Says (w : World) (r : Int) (e : Ending) (w' : World) : Prop := e = .returned (.int .i64 r) ∧ Below w.heap.size w w'

/-- Which numbers below n stand among the first ones. -/
def marks (n : Nat) (l : List Int) : List Value := (List.range n).map fun x : Nat => .bool (decide ((x : Int) ∈ l))
theorem marks_length (n : Nat) (l : List Int) : (marks n l).length = n := by simp [marks]
theorem marks_get (n : Nat) (l : List Int) (x : Nat) (h : x < n) : (marks n l)[x]? = some (.bool (decide ((x : Int) ∈ l))) := by unfold marks; rw [List.getElem?_map, List.getElem?_range h]; rfl
theorem marks_nil (n : Nat) : marks n [] = List.replicate n (.bool false) := by
  apply List.ext_getElem?
  intro i
  by_cases h : i < n
  · rw [marks_get n [] i h, List.getElem?_replicate, if_pos h]; simp
  · rw [List.getElem?_eq_none (by rw [marks_length]; omega), List.getElem?_eq_none (by simp; omega)]
theorem marks_set (n : Nat) (l : List Int) (x : Nat) : (marks n l).set x (.bool true) = marks n (l ++ [(x : Int)]) := by
  apply List.ext_getElem?
  intro i
  by_cases hi : i < n
  · rw [marks_get n _ i hi]
    by_cases e : x = i
    · subst e
      rw [List.getElem?_set_self (by rw [marks_length]; exact hi)]
      simp
    · rw [List.getElem?_set_ne e, marks_get n l i hi]
      have : ((i : Int) ∈ l ++ [(x : Int)]) ↔ (i : Int) ∈ l := by
        rw [List.mem_append, List.mem_singleton]
        exact ⟨fun h => h.elim id fun e2 => by omega, Or.inl⟩
      simp only [this]
  · rw [List.getElem?_eq_none (by rw [List.length_set, marks_length]; omega), List.getElem?_eq_none (by rw [marks_length]; omega)]

/-- What is known of the first numbers of a list while it is checked. -/
def SoFar (l : List Int) (i : Nat) : Prop := (l.take i).Nodup ∧ ∀ z ∈ l.take i, 0 ≤ z ∧ z < (l.length : Int)
theorem SoFar.zero (l : List Int) : SoFar l 0 := ⟨by rw [List.take_zero]; exact List.nodup_nil, fun z hz => by rw [List.take_zero] at hz; cases hz⟩
theorem SoFar.step {l : List Int} {i : Nat} {z : Int} (h : SoFar l i) (hz : l[i]? = some z) (h0 : 0 ≤ z) (h1 : z < (l.length : Int)) (hm : z ∉ l.take i) : SoFar l (i + 1) := by
  have e : l.take (i + 1) = l.take i ++ [z] := by rw [List.take_add_one, hz]; rfl
  refine ⟨?_, fun y hy => ?_⟩
  · rw [e, List.nodup_append]
    exact ⟨h.1, List.nodup_cons.2 ⟨by simp, List.nodup_nil⟩, fun a ha b hb e2 => hm (by rw [List.mem_singleton] at hb; rw [← hb, ← e2]; exact ha)⟩
  · rw [e, List.mem_append, List.mem_singleton] at hy
    rcases hy with hy | rfl
    · exact h.2 y hy
    · exact ⟨h0, h1⟩
theorem SoFar.all {l : List Int} (h : SoFar l l.length) : isPerm l = true := by
  unfold SoFar at h
  rw [List.take_length] at h
  exact decide_eq_true h
theorem not_perm_out {l : List Int} {i : Nat} {z : Int} (hz : l[i]? = some z) (h : z < 0 ∨ (l.length : Int) ≤ z) : isPerm l = false := decide_eq_false fun hp => by
  have := hp.2 z (List.mem_of_getElem? hz)
  omega
theorem not_perm_twice {l : List Int} {i : Nat} {z : Int} (hz : l[i]? = some z) (h : z ∈ l.take i) : isPerm l = false := decide_eq_false fun hp => by
  have hi : i < l.length := (List.getElem?_eq_some_iff.1 hz).1
  have e : l = l.take i ++ z :: l.drop (i + 1) := by
    have e2 : l[i] = z := (List.getElem?_eq_some_iff.1 hz).2
    conv => lhs; rw [← List.take_append_drop i l, List.drop_eq_getElem_cons hi, e2]
  have hn := hp.1
  rw [e, List.nodup_append] at hn
  exact hn.2.2 z h z (List.mem_cons_self ..) rfl

set_option maxHeartbeats 1000000 in
/-- perm.Check. -/
theorem check_size (A : Option Addr) (n c : Nat) (w : World) (hn : 300 < n) (hb : n ≤ 17592186044416) :
    Calls Try.prog 30 #[.slice A n c] w (Says w 1) := by
  go_enter Try.func30, Try.ntmps30
  go_wp2_with fail
  go_ret
  exact ⟨rfl, Below.refl _ _⟩

set_option maxHeartbeats 2000000 in
theorem check_small (A : Option Addr) (l : List Int) (c : Nat) (w : World) (hn : l.length ≤ 300) (hw : ∀ z ∈ l, (Lit.int .i64 z).wf = true) (hL : Lies w w.heap.size A (l.map (.int .i64))) :
    Calls Try.prog 30 #[.slice A l.length c] w (Says w (if isPerm l then 0 else 4)) := by
  have HL := Lib.hid hL
  have HW := Lib.hid hw
  have hmk := make_row (P := Try.prog) 34 4 (.bool false) 1 Try.underlying34 pbool_info rfl l.length (by omega) (by omega)
  obtain ⟨n, hk⟩ : ∃ n, l.length = n := ⟨_, rfl⟩
  have HM := Lib.hid (show marks n [] = List.replicate n (.bool false) from marks_nil n)
  rw [hk] at hn hmk ⊢
  have HN := Lib.hid hk
  obtain ⟨r, hr⟩ : ∃ r : Int, (if isPerm l then 0 else 4) = r := ⟨_, rfl⟩
  rw [hr]
  have HR := Lib.hid hr
  clear hk hL hw hr
  go_enter Try.func30, Try.ntmps30
  go_wp2_with fail
  have hbz := zeros_blk w (.bool false) n 4
  rw [← HM.out] at hbz
  have HBl := Lib.hid (bnew w (.cells (zeros (.bool false) n) 4))
  have HL1 := Lib.hid (HL.out.below HBl.out)
  generalize w.alloc (.cells (zeros (.bool false) n) 4) = w1 at *
  have HBz := Lib.hid hbz
  have HSet := Lib.hid (fun (k : List Int) (x : Nat) => marks_set n k x)
  have HGet := Lib.hid (fun (k : List Int) (x : Nat) (h : x < n) => marks_get n k x h)
  have HOut := Lib.hid (fun (i : Nat) (z : Int) (hz : l[i]? = some z) (h : z < 0 ∨ (l.length : Int) ≤ z) => not_perm_out hz h)
  have HTw := Lib.hid (fun (i : Nat) (z : Int) (hz : l[i]? = some z) (h : z ∈ l.take i) => not_perm_twice hz h)
  clear hbz hmk HM
  go_loopw [14] (fun u w' => ∃ i : Nat, i ≤ n ∧ u = .int .i64 i ∧ SoFar l i ∧ Blk w' w.heap.size 4 (marks n (l.take i)) ∧ Below w.heap.size w w') (fun u _ => n - (intOf u).toNat)
  case atStart => exact ⟨0, Nat.zero_le _, rfl, SoFar.zero l, by rw [List.take_zero]; exact HBz.out, HBl.out⟩
  case round =>
    obtain ⟨i, hi, rfl, hso, hbk, hbl⟩ := hrel
    have HBk := Lib.hid hbk
    have HB2 := Lib.hid hbl
    have HSo := Lib.hid hso
    by_cases hlt : i < n
    · obtain ⟨b, o, z, rfl, hb, hz, hc⟩ := (HL.out.below hbl).at_ (k := i) (by rw [HN.out]; exact hlt)
      have hzw := bounds_i64 (HW.out z (List.mem_of_getElem? hz))
      have HZ := Lib.hid hz
      clear hz hbl hso
      by_cases h0 : z < 0
      · have HF := Lib.hid (HOut.out i z HZ.out (.inl h0))
        clear hbk
        go_wp2_with fail
        go_ret
        exact ⟨by rw [← HR.out, HF.out]; rfl, HB2.out⟩
      · by_cases h1 : (n : Int) ≤ z
        · have HF := Lib.hid (HOut.out i z HZ.out (.inr (by rw [HN.out]; exact h1)))
          clear hbk
          go_wp2_with fail
          go_ret
          exact ⟨by rw [← HR.out, HF.out]; rfl, HB2.out⟩
        · obtain ⟨x, rfl⟩ := Int.eq_ofNat_of_zero_le (a := z) (by omega)
          have hxn : x < n := by omega
          have hcx := hbk.cell x
          rw [HGet.out _ x hxn] at hcx
          have hfz := hbk.frozen x
          clear hbk
          by_cases hm : (x : Int) ∈ l.take i
          · rw [decide_eq_true hm] at hcx
            have HF := Lib.hid (HTw.out i x HZ.out hm)
            clear hm h0 h1
            go_wp2_with fail
            go_ret
            exact ⟨by rw [← HR.out, HF.out]; rfl, HB2.out⟩
          · rw [decide_eq_false hm] at hcx
            have HS := Lib.hid (HSo.out.step HZ.out (by omega) (by rw [HN.out]; omega) hm)
            clear hm h0 h1
            go_wp2_with fail
            go_roundw
            case rel => exact ⟨i + 1, by omega, by go_num, HS.out, by
              rw [List.take_add_one, HZ.out]
              have := HBk.out.put x (.bool true)
              rw [HSet.out] at this
              exact this, HB2.out.setCell (Nat.le_refl _) _⟩
            case measure => simp [intOf]; omega
    · obtain rfl : n = i := by omega
      have HF := Lib.hid (SoFar.all (l := l) (by rw [HN.out]; exact HSo.out))
      clear hbk hbl hso
      go_wp2_with fail
      go_ret
      exact ⟨by rw [← HR.out, HF.out]; rfl, HB2.out⟩
/-- perm.Check of whatever list. -/
theorem check_any (A : Option Addr) (l : List Int) (c : Nat) (w : World) (hb : l.length ≤ 17592186044416) (hw : ∀ z ∈ l, (Lit.int .i64 z).wf = true) (hL : Lies w w.heap.size A (l.map (.int .i64))) :
    Calls Try.prog 30 #[.slice A l.length c] w (Says w (chk l)) := by
  unfold chk
  by_cases h : 300 < l.length
  · rw [if_pos h]; exact check_size A l.length c w h hb
  · rw [if_neg h]; exact check_small A l c w (by omega) hw hL
/-- .. of a permutation. -/
theorem check_ok (A : Option Addr) (p : List Nat) (c : Nat) (w : World) (hp : PermL p) (hn : p.length ≤ 300) (hL : Lies w w.heap.size A (natC p)) :
    Calls Try.prog 30 #[.slice A p.length c] w (Says w 0) := by
  have h := check_any A (ofN p) c w (by rw [ofN_length]; omega) (fun z hz => by
    obtain ⟨x, hx, rfl⟩ := List.mem_map.1 hz
    have := hp.lt x hx
    simp [Lit.wf, IntKind.min, IntKind.max, IntKind.signed, IntKind.bits]
    omega) (by unfold ofN; rw [← natC_map]; exact hL)
  rwa [ofN_length, chk_ofN hp hn] at h

end Go.Proofs.Ytpkclmfadlkbeaa

namespace Go.Proofs.Ytpkclmfadlkbeaa
open Go.RowKit Words

/-- A number, by its place. -/
theorem nat_at {w : World} {B : Nat} {A : Option Addr} {p : List Nat} (h : Lies w B A (natC p)) {k : Nat} (hk : k < p.length) :
    ∃ b o, A = some ⟨b, o, none⟩ ∧ b < B ∧ w.cell? ⟨b, o + k, none⟩ = some (.int .i64 (st p k : Nat)) := by
  obtain ⟨b, o, x, e, hb, hx, hc⟩ := Lies.at_ (f := fun x : Nat => Value.int .i64 (x : Int)) h hk
  exact ⟨b, o, e, hb, by rw [st_of hx]; exact hc⟩

/-- A list of numbers and OK; no list and an error. -/
def GivesPL (w : World) (q : List Nat) (n : Nat) (e : Ending) (w' : World) : Prop := ∃ A c, e = .returned (.tuple #[.slice A n c, .int .i64 0]) ∧ n ≤ c ∧ Lies w' w'.heap.size A (natC q) ∧ (A = none → c = 0) ∧ New w.heap.size A ∧ Below w.heap.size w w'
def NoPL (w : World) (r : Int) (e : Ending) (w' : World) : Prop := e = .returned (.tuple #[.slice none 0 0, .int .i64 r]) ∧ Below w.heap.size w w'

theorem own_givesPL {w w' : World} {q : List Nat} {n : Nat} {v : Value} (h : w'.ownsRow w.heap.size 3 1 v n (natC q)) (hb : Below w.heap.size w w') : ∃ A c, v = .slice A n c ∧ n ≤ c ∧ Lies w' w'.heap.size A (natC q) ∧ (A = none → c = 0) ∧ New w.heap.size A ∧ Below w.heap.size w w' := by
  obtain ⟨A', c', e, hle, _, hl, hnone, hnew⟩ := own_slice h
  exact ⟨A', c', e, hle, hl, hnone, hnew, hb⟩

/-- Where a number stands. -/
def plcP (p : List Nat) (x : Nat) : Int := if x ∈ p then (p.idxOf x : Int) else -1
theorem idx_first {p : List Nat} {i x : Nat} (h : p[i]? = some x) (hn : x ∉ p.take i) : p.idxOf x = i := by
  obtain ⟨hi, e⟩ := List.getElem?_eq_some_iff.1 h
  have sp : p = p.take i ++ x :: p.drop (i + 1) := by
    conv => lhs; rw [← List.take_append_drop i p, List.drop_eq_getElem_cons hi, e]
  rw [sp, List.idxOf_append, if_neg hn, List.idxOf_cons_self, List.length_take]
  omega
theorem plc_here {p : List Nat} {i x : Nat} (h : p[i]? = some x) (hn : x ∉ p.take i) : plcP p x = i := by
  unfold plcP
  rw [if_pos (List.mem_of_getElem? h), idx_first h hn]
theorem plc_mem {p : List Nat} {x : Nat} (h : x ∈ p) : plcP p x = (p.idxOf x : Int) := if_pos h
theorem plc_none {p : List Nat} {x : Nat} (hn : x ∉ p) : plcP p x = -1 := if_neg hn
theorem plc_bounds (p : List Nat) (x : Nat) : -1 ≤ plcP p x ∧ plcP p x ≤ p.length := by
  unfold plcP
  split
  · have := List.idxOf_le_length (l := p) (a := x)
    omega
  · omega


/-- The inverse while it is made. -/
def invTo (p : List Nat) (i : Nat) : List Nat := (List.range p.length).map fun x => if p.idxOf x < i then p.idxOf x else 0
theorem invTo_length (p : List Nat) (i : Nat) : (invTo p i).length = p.length := by simp [invTo]
theorem invTo_zero (p : List Nat) : invTo p 0 = List.replicate p.length 0 := by
  unfold invTo
  apply List.ext_getElem?
  intro i
  by_cases h : i < p.length
  · rw [List.getElem?_map, List.getElem?_range h, List.getElem?_replicate, if_pos h]; simp
  · rw [List.getElem?_eq_none (by simp; omega), List.getElem?_eq_none (by simp; omega)]
theorem invTo_all {p : List Nat} (h : PermL p) : invTo p p.length = invL p :=
  List.map_congr_left fun _ hx => if_pos (idx_lt h (List.mem_range.1 hx))
theorem invTo_step {p : List Nat} (h : PermL p) {i : Nat} (hi : i < p.length) : (invTo p i).set (st p i) i = invTo p (i + 1) := by
  apply List.ext_getElem?
  intro j
  by_cases hj : j < p.length
  · have e2 : (invTo p (i + 1))[j]? = some (if p.idxOf j < i + 1 then p.idxOf j else 0) := by unfold invTo; rw [List.getElem?_map, List.getElem?_range hj]; rfl
    have e1 : (invTo p i)[j]? = some (if p.idxOf j < i then p.idxOf j else 0) := by unfold invTo; rw [List.getElem?_map, List.getElem?_range hj]; rfl
    rw [e2]
    by_cases e : st p i = j
    · subst e
      rw [List.getElem?_set_self (by rw [invTo_length]; exact hj), idx_st h hi, if_pos (by omega)]
    · rw [List.getElem?_set_ne e, e1]
      have : p.idxOf j ≠ i := fun e3 => e (by rw [← e3]; exact st_idx h hj)
      by_cases c : p.idxOf j < i
      · rw [if_pos c, if_pos (by omega)]
      · rw [if_neg c, if_neg (by omega)]
  · rw [List.getElem?_eq_none (by rw [List.length_set, invTo_length]; omega), List.getElem?_eq_none (by rw [invTo_length]; omega)]


end Go.Proofs.Ytpkclmfadlkbeaa

namespace Go.Proofs.Ytpkclmfadlkbeaa
open Go.RowKit Words

theorem thenL_take {p q : List Nat} (i : Nat) (hi : i < p.length) : (thenL p q).take (i + 1) = (thenL p q).take i ++ [st q (st p i)] := by
  rw [List.take_add_one, st_get (by rw [thenL_length]; exact hi), thenL, st_map hi]
  rfl
theorem fill_zero (q : List Nat) : fillR q 0 0 = List.replicate q.length 0 := fillR_zero q 0


end Go.Proofs.Ytpkclmfadlkbeaa

namespace Go.Proofs.Ytpkclmfadlkbeaa
open Go.RowKit Words

/-- A slice from a place on. -/
theorem slice_low {P : Program} (t : TypeId) (ht : P.underlying t = some (.slice (P.elem t))) (hsz : ∀ W, (sizeOf (P.elem t)).run P W = .ok 1 W) {w : World} {B : Nat} {A : Option Addr} {n c a : Nat} {xs : List Value} (h1 : a ≤ n) (hnc : n ≤ c) (hL : Lies w B A xs) (hn : xs.length = n) (hnone : A = none → c = 0) :
    ∃ A3, (∀ W, (Instr.sliceAt t (.slice A n c) (some (.int .i64 (a : Int))) none none).run P W = .ok (.slice A3 (n - a) (c - a)) W) ∧ Lies w B A3 (xs.drop a) ∧ (A3 = none → c - a = 0) := by
  refine ⟨if c = a then A else A.map (·.add (a * 1)), fun W => ?_, ?_, ?_⟩
  · rw [run_sliceAt_slice W t _ _ _ _ ht, run_slice_l W t A n c ht .i64 (a : Int) (by omega) (by omega), hsz]
    rfl
  · intro hne
    have hab : a < n := by
      rcases Nat.lt_or_ge a n with h | h
      · exact h
      · exact absurd (by rw [List.drop_of_length_le (by omega)]) hne
    obtain ⟨bk, o, e, hb, hc⟩ := hL (by intro e; subst e; simp at hn; omega)
    subst e
    rw [if_neg (by omega)]
    refine ⟨bk, o + a * 1, by rw [Option.map_some, Addr.add_lit], hb, fun j v hv => ?_⟩
    rw [List.getElem?_drop] at hv
    have := hc (a + j) v hv
    rwa [show o + a * 1 + j = o + (a + j) by omega]
  · intro e
    by_cases hca : c = a
    · omega
    · rw [if_neg hca] at e
      cases A with
      | none => have := hnone rfl; omega
      | some ad => cases e

/-- A number and an error. -/
def TellsN (w : World) (x r : Int) (e : Ending) (w' : World) : Prop := e = .returned (.tuple #[.int .i64 x, .int .i64 r]) ∧ Below w.heap.size w w'

theorem natC_drop (p : List Nat) (a : Nat) : (natC p).drop a = natC (p.drop a) := by unfold natC; rw [List.map_drop]

set_option maxHeartbeats 2000000 in
/-- perm.lessBehind. -/
theorem behind_any11 (A : Option Addr) (p : List Nat) (c i : Nat) (w : World) (hn : p.length ≤ 300) (hi : i < p.length) (hnc : p.length ≤ c) (hnone : A = none → c = 0) (hL : Lies w w.heap.size A (natC p)) :
    Calls Try.prog 31 #[.slice A p.length c, .int .i64 i] w fun e w' => e = .returned (.int .i64 (cnt (st p i) (p.drop (i + 1)) : Nat)) ∧ w = w' := by
  obtain ⟨A3, hsa, hl3, hnone3⟩ := slice_low (P := Try.prog) 31 (by kernel_rfl) (fun W => by kernel_rfl) (a := i + 1) hi hnc hL (natC_length p) hnone
  rw [natC_drop] at hl3
  have HL3 := Lib.hid hl3
  obtain ⟨b, o, rfl, hb, hcx⟩ := nat_at hL hi
  have HStep := Lib.hid (fun k (hk : k < (p.drop (i + 1)).length) => cnt_take_step (x := st p i) hk)
  have HLe := Lib.hid (fun k => cnt_le (st p i) ((p.drop (i + 1)).take k))
  have HTk := Lib.hid (fun k => List.length_take_le k (p.drop (i + 1)))
  have hdl : (p.drop (i + 1)).length = p.length - (i + 1) := List.length_drop
  clear hL hl3 hnone
  generalize p.drop (i + 1) = q at *
  generalize st p i = x at *
  generalize p.length = n at *
  obtain ⟨m, hm⟩ : ∃ m, n - (i + 1) = m := ⟨_, rfl⟩
  obtain ⟨c3, hc3⟩ : ∃ m, c - (i + 1) = m := ⟨_, rfl⟩
  rw [hm, hc3] at hsa
  rw [hm] at hdl
  have HD := Lib.hid hdl
  have hmn : m ≤ 300 := by omega
  have hin : i < n := hi
  rw [show ((i + 1 : Nat) : Int) = (i : Int) + 1 by omega] at hsa
  clear hdl hm hc3 hnone3 hi
  go_enter Try.func31, Try.ntmps31
  go_wp2_with fail
  go_loop [5, 13] (fun v u => ∃ k : Nat, k ≤ m ∧ u = .int .i64 k ∧ v = .int .i64 (cnt x (q.take k) : Nat)) (fun _ u => m - (intOf u).toNat)
  case atStart => exact ⟨0, Nat.zero_le _, rfl, by simp [cnt]⟩
  case round =>
    obtain ⟨k, hk, rfl, rfl⟩ := hrel
    have hle := HLe.out k
    have htk := HTk.out k
    by_cases hlt : k < m
    · have HS := Lib.hid (HStep.out k (by rw [HD.out]; exact hlt))
      obtain ⟨b3, o3, rfl, hb3, hc3⟩ := nat_at HL3.out (k := k) (by rw [HD.out]; exact hlt)
      generalize st q k = y at *
      generalize cnt x (q.take k) = z at *
      by_cases hyx : y < x
      · have HS2 := Lib.hid (show cnt x (q.take (k + 1)) = z + 1 by rw [HS.out, if_pos hyx])
        have hz : z ≤ 300 := by omega
        clear HS hle htk
        go_wp2_with fail
        go_round
        case rel => exact ⟨k + 1, by omega, by go_num, by rw [HS2.out]; go_num⟩
        case measure => simp [intOf]; omega
      · have HS2 := Lib.hid (show cnt x (q.take (k + 1)) = z by rw [HS.out, if_neg hyx]; rfl)
        have hz : z ≤ 300 := by omega
        clear HS hle htk
        go_wp2_with fail
        go_round
        case rel => exact ⟨k + 1, by omega, by go_num, by rw [HS2.out]⟩
        case measure => simp [intOf]; omega
    · obtain rfl : m = k := by omega
      have HT := Lib.hid (show q.take m = q from List.take_of_length_le (by rw [HD.out]; exact Nat.le_refl _))
      rw [HT.out]
      clear hle htk
      go_wp2_with fail
      go_ret
      exact ⟨rfl, rfl⟩

set_option maxHeartbeats 1000000 in
/-- perm.Swaps of what is none. -/
theorem swaps_err (A : Option Addr) (n c : Nat) (r : Int) (w : World) (hr : r ≠ 0) (h : Calls Try.prog 30 #[.slice A n c] w (Says w r)) :
    Calls Try.prog 16 #[.slice A n c] w (TellsN w 0 r) := by
  have H := Lib.hid h
  have hne : (r != 0) = true := by simpa using hr
  clear h hr
  go_enter Try.func16, Try.ntmps16
  go_wp2_with fail
  refine H.out.mono ?_
  rintro e w1 ⟨rfl, hb1⟩
  go_wp2_with fail
  go_ret2
  exact ⟨rfl, hb1⟩

theorem swp_small {p : List Nat} (hn : p.length ≤ 300) : swp p ≤ 90000 := by
  have h1 := swp_le p
  have h2 : p.length * p.length ≤ 300 * 300 := Nat.mul_le_mul hn hn
  omega

set_option maxHeartbeats 2000000 in
/-- perm.Swaps. -/
theorem swaps_ok (A : Option Addr) (p : List Nat) (c : Nat) (w : World) (hp : PermL p) (hn : p.length ≤ 300) (hnc : p.length ≤ c) (hnone : A = none → c = 0) (hL : Lies w w.heap.size A (natC p)) :
    Calls Try.prog 16 #[.slice A p.length c] w (TellsN w (swp p : Nat) 0) := by
  have HL := Lib.hid hL
  have HC := Lib.hid (check_ok A p c w hp hn hL)
  have HBh := Lib.hid (fun i W (hi : i < p.length) hW => behind_any11 A p c i W hn hi hnc hnone hW)
  have HD := Lib.hid (fun i (hi : i < p.length) => swp_drop hi)
  have HE := Lib.hid (show swp (p.drop p.length) = 0 by rw [List.drop_length]; rfl)
  have HZ := Lib.hid (show swp (p.drop 0) = swp p by rw [List.drop_zero])
  have hsm := swp_small hn
  obtain ⟨n, hk⟩ : ∃ n, p.length = n := ⟨_, rfl⟩
  rw [hk] at hn hnc HC ⊢
  have HN := Lib.hid hk
  rw [HN.out] at HBh HD HE
  clear hk hL hp hnone
  generalize swp p = S at *
  go_enter Try.func16, Try.ntmps16
  go_wp2_with fail
  refine HC.out.mono ?_
  rintro e w1 ⟨rfl, hb1⟩
  have HL1 := Lib.hid (HL.out.on hb1)
  have HB1 := Lib.hid hb1
  clear hb1
  go_wp2_with fail
  go_loop [5, 14] (fun v u => ∃ i m : Nat, i ≤ n ∧ u = .int .i64 i ∧ v = .int .i64 m ∧ m + swp (p.drop i) = S) (fun _ u => n - (intOf u).toNat)
  case atStart => exact ⟨0, 0, Nat.zero_le _, rfl, rfl, by rw [HZ.out]; omega⟩
  case round =>
    obtain ⟨i, m, hi, rfl, rfl, hm⟩ := hrel
    have hms : m ≤ 90000 := by omega
    have HM := Lib.hid hm
    clear hm
    by_cases hlt : i < n
    · have HB := Lib.hid (HBh.out i · hlt)
      have hd := HD.out i hlt
      have hm := HM.out
      generalize cnt (st p i) (p.drop (i + 1)) = z at *
      have hz : z ≤ 90000 := by omega
      have HM2 := Lib.hid (show m + z + swp (p.drop (i + 1)) = S by omega)
      clear hd hm
      go_wp2_with fail
      refine (HB.out _ HL1.out).mono ?_
      rintro e w' ⟨rfl, rfl⟩
      go_wp2_with fail
      go_round
      case rel => exact ⟨i + 1, m + z, by omega, by go_num, by go_num, HM2.out⟩
      case measure => simp [intOf]; omega
    · obtain rfl : n = i := by omega
      have hm := HM.out
      rw [HE.out] at hm
      obtain rfl : S = m := by omega
      clear hm
      go_wp2_with fail
      go_ret2
      exact ⟨rfl, HB1.out⟩

end Go.Proofs.Ytpkclmfadlkbeaa

namespace Go.Proofs.Ytpkclmfadlkbeaa
open Go.RowKit Words

/-- The place that a number is exchanged with, and the order after i exchanges. -/
def shk (l : List Int) (n i : Nat) : Nat := i + pick (n - i) (if i < l.length then l.getD i 0 else (i : Int) * 7)
def shufTo (l : List Int) (n : Nat) : Nat → List Nat
  | 0 => List.range n
  | i + 1 => exch (shufTo l n i) i (shk l n i)
def shuf (l : List Int) (n : Nat) : List Nat := shufTo l n n
theorem shufTo_length (l : List Int) (n : Nat) : ∀ i, (shufTo l n i).length = n
  | 0 => by rw [shufTo, List.length_range]
  | i + 1 => by rw [shufTo, exch_length, shufTo_length]
theorem shk_lt (l : List Int) {n i : Nat} (hi : i < n) : shk l n i < n := by
  unfold shk
  have := pick_lt (n := n - i) (by omega) (if i < l.length then l.getD i 0 else (i : Int) * 7)
  omega
theorem shufTo_perm (l : List Int) (n : Nat) : ∀ i, i ≤ n → PermL (shufTo l n i)
  | 0, _ => PermL.range n
  | i + 1, h => by
    rw [shufTo]
    exact (shufTo_perm l n i (by omega)).of_eq (exch_perm (by rw [shufTo_length]; omega) (by rw [shufTo_length]; exact shk_lt l (by omega)))
theorem shuf_perm (l : List Int) (n : Nat) : PermL (shuf l n) := shufTo_perm l n n (Nat.le_refl _)
theorem shuf_length (l : List Int) (n : Nat) : (shuf l n).length = n := shufTo_length l n n
/-- Of noughts: the numbers in order. -/
theorem shuf_none (n : Nat) : shuf (List.replicate n 0) n = List.range n := by
  have h : ∀ i, i ≤ n → shufTo (List.replicate n 0) n i = List.range n := by
    intro i
    induction i with
    | zero => intro _; rfl
    | succ i ih =>
      intro hi
      have hk : shk (List.replicate n 0) n i = i := by
        unfold shk
        rw [if_pos (by simp; omega), List.getD_eq_getElem?_getD, List.getElem?_replicate, if_pos (by omega)]
        show i + pick (n - i) 0 = i
        unfold pick
        simp
      rw [shufTo, hk, exch_self, ih (by omega)]
  exact h n (Nat.le_refl _)

/-- A list of numbers, new. -/
def GivesL (w : World) (q : List Nat) (n : Nat) (e : Ending) (w' : World) : Prop := ∃ A c, e = .returned (.slice A n c) ∧ n ≤ c ∧ Lies w' w'.heap.size A (natC q) ∧ (A = none → c = 0) ∧ New w.heap.size A ∧ Below w.heap.size w w'

set_option maxHeartbeats 4000000 in
/-- damaskkeep.Shuffle. -/
theorem shuffle_any (A : Option Addr) (l : List Int) (c n : Nat) (w : World) (hn1 : 1 ≤ n) (hn : n ≤ 300) (hl : l.length ≤ 17592186044416) (hw : ∀ z ∈ l, (Lit.int .i64 z).wf = true) (hL : Lies w w.heap.size A (l.map (.int .i64))) :
    Calls Try.prog 15 #[.slice A l.length c, .int .i64 n] w (GivesL w (shuf l n) n) := by
  have HL := Lib.hid hL
  have HW := Lib.hid hw
  have HS0 := Lib.hid (show shufTo l n 0 = List.range n from rfl)
  have HSt := Lib.hid (fun i => show shufTo l n (i + 1) = exch (shufTo l n i) i (shk l n i) from rfl)
  have HSl := Lib.hid (fun i => shufTo_length l n i)
  have HKl := Lib.hid (fun i (hi : i < n) => shk_lt l hi)
  have HK1 := Lib.hid (fun i z (h : l[i]? = some z) => show shk l n i = i + pick (n - i) z by
    unfold shk
    rw [if_pos (List.getElem?_eq_some_iff.1 h).1, List.getD_eq_getElem?_getD, h]; rfl)
  have HK2 := Lib.hid (fun i (h : ¬ i < l.length) => show shk l n i = i + pick (n - i) ((i : Int) * 7) by
    unfold shk
    rw [if_neg h])
  have HFin := Lib.hid (show shuf l n = shufTo l n n from rfl)
  obtain ⟨m, hm⟩ : ∃ m, l.length = m := ⟨_, rfl⟩
  rw [hm] at hl HK2 ⊢
  have HM := Lib.hid hm
  clear hL hw hm
  go_enter Try.func15, Try.ntmps15
  go_wp2_with fail
  go_loopw [5, 6] (fun v u w' => ∃ i : Nat, i ≤ n ∧ u = .int .i64 i ∧ w'.ownsRow w.heap.size 3 1 v i (natC (List.range i)) ∧ Below w.heap.size w w') (fun _ u _ => n - (intOf u).toNat)
  case atStart => exact ⟨0, Nat.zero_le _, rfl, World.ownsRow_nil _ _ _ _, Below.refl _ _⟩
  case round =>
    obtain ⟨i, hi, rfl, hown, hbl⟩ := hrel
    have HB2 := Lib.hid hbl
    have hsz := hbl.size
    by_cases hlt : i < n
    · clear hbl
      go_wp2_with (at_builtin; go_loud (refine append_one _ rfl (.tmp 15) (.tmp 17) 31 rfl w.heap.size 3 (.int .i64 0) 8 Try.underlying31 pint_info rfl u5 i _ rfl (hown.alloc _) wr.heap.size 1 (.int .i64 i) rfl (by simp) rfl (by simp only [maxLen]; omega) (by omega) (by simp; omega) ?_))
      intro v1 w3 hown1 hg1
      go_wp2_with fail
      go_roundw
      case rel => exact ⟨i + 1, by omega, by go_num, by rw [range_natC]; exact hown1, (HB2.out.alloc hsz _).grown hg1 (by simp; omega) (fun q hq => (hown.lt q hq).1)⟩
      case measure => simp [intOf]; omega
    · obtain rfl : n = i := by omega
      obtain ⟨A2, c2, rfl, _, _, _, _, _⟩ := own_slice hown
      obtain ⟨g, rfl, hgb⟩ := own_at hown (by omega)
      rw [← HS0.out] at hown
      have HOw := Lib.hid hown
      clear hown hbl
      go_wp2_with fail
      go_loopw [7] (fun u w' => ∃ i : Nat, i ≤ n ∧ u = .int .i64 i ∧ w'.ownsRow w.heap.size 3 1 (.slice (some ⟨g, 0, none⟩) n c2) n (natC (shufTo l n i)) ∧ Below w.heap.size w w') (fun u _ => n - (intOf u).toNat)
      case atStart => exact ⟨0, Nat.zero_le _, rfl, HOw.out, HB2.out⟩
      case round =>
        rename World => wz
        obtain ⟨i, hi, rfl, hown, hbl⟩ := hrel
        have HO2 := Lib.hid hown
        have HB3 := Lib.hid hbl
        by_cases hlt : i < n
        · have hkl := HKl.out i hlt
          have hst := HSt.out i
          have hlen := HSl.out i
          have hfi := own_frozen hown i
          have hci := own_cell hown (natC_at _ i _ (st_get (p := shufTo l n i) (i := i) (by omega)))
          have hck := own_cell hown (natC_at _ _ _ (st_get (p := shufTo l n i) (i := shk l n i) (by omega)))
          have hfk := own_frozen hown (shk l n i)
          obtain ⟨a, ha⟩ : ∃ a, st (shufTo l n i) i = a := ⟨_, rfl⟩
          obtain ⟨b, hb⟩ : ∃ b, st (shufTo l n i) (shk l n i) = b := ⟨_, rfl⟩
          unfold exch at hst
          rw [ha, hb] at hst
          rw [ha] at hci
          rw [hb] at hck
          have HStep := Lib.hid hst
          have hlw := HL.out.below hbl
          have HOk := Lib.hid (fun (k : Nat) (x y : Nat) => own_put (own_put HO2.out i (.int .i64 (x : Int))) k (.int .i64 (y : Int)))
          obtain ⟨k, hk⟩ : ∃ k, shk l n i = k := ⟨_, rfl⟩
          by_cases hlm : i < m
          · obtain ⟨bl, ol, z, rfl, hbz, hz, hcz⟩ := hlw.at_ (k := i) (by rw [HM.out]; exact hlm)
            have hkk := HK1.out i z hz
            have hwz := HW.out z (List.mem_of_getElem? hz)
            have HP := Lib.hid (fun W => pick_any z (n - i) W (by omega) (by omega) hwz)
            rw [hk] at hkk
            have hpl := pick_lt (n := n - i) (by omega) (z)
            rw [hk] at hkl hck hfk HStep
            generalize pick (n - i) (z) = q at *
            have hiq : (i : Int) + (q : Int) = (k : Int) := by omega
            obtain ⟨d, hd⟩ : ∃ d, n - i = d := ⟨_, rfl⟩
            rw [hd] at HP
            have hni : (n : Int) - (i : Int) = (d : Int) := by omega
            clear hd
            clear hkk hown hbl hst hlen hlw ha hb
            go_wp2_with fail
            refine (HP.out _).mono ?_
            rintro e w' ⟨rfl, rfl⟩
            go_wp2_with fail
            have hki : (k : Int) < (n : Int) := by omega
            have hii : (i : Int) < (n : Int) := by omega
            have ho1 := own_put HO2.out i (.int .i64 (b : Int))
            rw [natC_set] at ho1
            have hc2 := own_cell ho1 (natC_at _ k _ (st_get (p := (shufTo l n i).set i b) (i := k) (by rw [List.length_set, HSl.out]; exact hkl)))
            have hf2 := own_frozen ho1 k
            generalize st ((shufTo l n i).set i b) k = a2 at *
            clear HP hiq hni hpl ho1
            go_region
            go_wp2
            go_roundw
            case rel => exact ⟨i + 1, by omega, by go_num, by
              have h := HOk.out k b a
              rw [natC_set, natC_set, ← HStep.out] at h
              exact own_keep h fun q _ => rfl, ((HB3.out.setCell hgb _).setCell hgb _).drew⟩
            case measure => simp [intOf]; omega
          · have hkk := HK2.out i hlm
            have HP := Lib.hid (fun W => pick_any ((i : Int) * 7) (n - i) W (by omega) (by omega) (wf_small _ (by omega) (by omega)))
            rw [hk] at hkk
            have hpl := pick_lt (n := n - i) (by omega) ((i : Int) * 7)
            rw [hk] at hkl hck hfk HStep
            generalize pick (n - i) ((i : Int) * 7) = q at *
            have hiq : (i : Int) + (q : Int) = (k : Int) := by omega
            obtain ⟨d, hd⟩ : ∃ d, n - i = d := ⟨_, rfl⟩
            rw [hd] at HP
            have hni : (n : Int) - (i : Int) = (d : Int) := by omega
            clear hd
            clear hkk hown hbl hst hlen hlw ha hb
            go_wp2_with fail
            refine (HP.out _).mono ?_
            rintro e w' ⟨rfl, rfl⟩
            go_wp2_with fail
            have hki : (k : Int) < (n : Int) := by omega
            have hii : (i : Int) < (n : Int) := by omega
            have ho1 := own_put HO2.out i (.int .i64 (b : Int))
            rw [natC_set] at ho1
            have hc2 := own_cell ho1 (natC_at _ k _ (st_get (p := (shufTo l n i).set i b) (i := k) (by rw [List.length_set, HSl.out]; exact hkl)))
            have hf2 := own_frozen ho1 k
            generalize st ((shufTo l n i).set i b) k = a2 at *
            clear HP hiq hni hpl ho1
            go_region
            go_wp2
            go_roundw
            case rel => exact ⟨i + 1, by omega, by go_num, by
              have h := HOk.out k b a
              rw [natC_set, natC_set, ← HStep.out] at h
              exact own_keep h fun q _ => rfl, ((HB3.out.setCell hgb _).setCell hgb _).drew⟩
            case measure => simp [intOf]; omega
        · obtain rfl : n = i := by omega
          obtain ⟨A3, c3, e3, hle3, _, hl3, hn3, hnew3⟩ := own_slice hown
          injection e3 with e4 _ e5
          subst e4 e5
          have HL3 := Lib.hid hl3
          clear hown hbl hl3 hn3
          go_wp2_with fail
          go_ret
          exact ⟨_, _, rfl, hle3, by rw [HFin.out]; exact HL3.out, (fun e => by cases e), hnew3, HB3.out⟩



end Go.Proofs.Ytpkclmfadlkbeaa
