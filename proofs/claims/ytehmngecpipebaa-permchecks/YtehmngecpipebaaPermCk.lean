/-
  What perm.Check and the document's PermFault return: contracts, walked over the translated text. No condition but what each theorem names.
-/
import Derived.Test.YtehmngecpipebaaPerms
import Derived.Test.YtehmngecpipebaaSrtRow
import Derived.Test.YtehmngecpipebaaNatC
import Derived.Test.YtehmngecpipebaaPop
import Derived.Test.YtehmngecpipebaaMem
import Derived.IntWalk
import Derived.Deep.RegionHeld3
namespace Go.Proofs.Ytehmngecpipebaa
open Go.RowKit Go.Sort Words

theorem pint_info : (Try.prog.info? 3).map (fun i => (i.zero, i.size, i.bytes)) = some (some (.int .i64 0), 1, 8) := by kernel_rfl
theorem pbool_info : (Try.prog.info? 4).map (fun i => (i.zero, i.size, i.bytes)) = some (some (.bool false), 1, 1) := by kernel_rfl

/-- A call that returns an error's number, and makes memory at most. -/
def Says (w : World) (r : Int) (e : Ending) (w' : World) : Prop := e = .returned (.int .i64 r) ∧ Below w.heap.size w w'

/-- Which numbers below n stand among the first ones. -/
def marks (n : Nat) (l : List Int) : List Value := (List.range n).map fun x : Nat => .bool (decide ((x : Int) ∈ l))
theorem marks_length (n : Nat) (l : List Int) : (marks n l).length = n := by simp [marks]
theorem marks_get (n : Nat) (l : List Int) (x : Nat) (h : x < n) : (marks n l)[x]? = some (.bool (decide ((x : Int) ∈ l))) := by unfold marks; rw [List.getElem?_map, List.getElem?_range h]; rfl
theorem marks_nil (n : Nat) : marks n [] = List.replicate n (.bool false) := by
  apply List.ext_getElem?
  intro i
  by_cases h : i < n
  · rw [marks_get n [] i h, List.getElem?_replicate, if_pos h]; simp
  · rw [List.getElem?_eq_none (by rw [marks_length]; omega), List.getElem?_eq_none (by simp; omega)]
theorem marks_set (n : Nat) (l : List Int) (x : Nat) : (marks n l).set x (.bool true) = marks n (l ++ [(x : Int)]) := by
  apply List.ext_getElem?
  intro i
  by_cases hi : i < n
  · rw [marks_get n _ i hi]
    by_cases e : x = i
    · subst e
      rw [List.getElem?_set_self (by rw [marks_length]; exact hi)]
      simp
    · rw [List.getElem?_set_ne e, marks_get n l i hi]
      have : ((i : Int) ∈ l ++ [(x : Int)]) ↔ (i : Int) ∈ l := by
        rw [List.mem_append, List.mem_singleton]
        exact ⟨fun h => h.elim id fun e2 => by omega, Or.inl⟩
      simp only [this]
  · rw [List.getElem?_eq_none (by rw [List.length_set, marks_length]; omega), List.getElem?_eq_none (by rw [marks_length]; omega)]

/-- What is known of the first numbers of a list while it is checked. -/
def SoFar (l : List Int) (i : Nat) : Prop := (l.take i).Nodup ∧ ∀ z ∈ l.take i, 0 ≤ z ∧ z < (l.length : Int)
theorem SoFar.zero (l : List Int) : SoFar l 0 := ⟨by rw [List.take_zero]; exact List.nodup_nil, fun z hz => by rw [List.take_zero] at hz; cases hz⟩
theorem SoFar.step {l : List Int} {i : Nat} {z : Int} (h : SoFar l i) (hz : l[i]? = some z) (h0 : 0 ≤ z) (h1 : z < (l.length : Int)) (hm : z ∉ l.take i) : SoFar l (i + 1) := by
  have e : l.take (i + 1) = l.take i ++ [z] := by rw [List.take_add_one, hz]; rfl
  refine ⟨?_, fun y hy => ?_⟩
  · rw [e, List.nodup_append]
    exact ⟨h.1, List.nodup_cons.2 ⟨by simp, List.nodup_nil⟩, fun a ha b hb e2 => hm (by rw [List.mem_singleton] at hb; rw [← hb, ← e2]; exact ha)⟩
  · rw [e, List.mem_append, List.mem_singleton] at hy
    rcases hy with hy | rfl
    · exact h.2 y hy
    · exact ⟨h0, h1⟩
theorem SoFar.all {l : List Int} (h : SoFar l l.length) : isPerm l = true := by
  unfold SoFar at h
  rw [List.take_length] at h
  exact decide_eq_true h
theorem not_perm_out {l : List Int} {i : Nat} {z : Int} (hz : l[i]? = some z) (h : z < 0 ∨ (l.length : Int) ≤ z) : isPerm l = false := decide_eq_false fun hp => by
  have := hp.2 z (List.mem_of_getElem? hz)
  omega
theorem not_perm_twice {l : List Int} {i : Nat} {z : Int} (hz : l[i]? = some z) (h : z ∈ l.take i) : isPerm l = false := decide_eq_false fun hp => by
  have hi : i < l.length := (List.getElem?_eq_some_iff.1 hz).1
  have e : l = l.take i ++ z :: l.drop (i + 1) := by
    have e2 : l[i] = z := (List.getElem?_eq_some_iff.1 hz).2
    conv => lhs; rw [← List.take_append_drop i l, List.drop_eq_getElem_cons hi, e2]
  have hn := hp.1
  rw [e, List.nodup_append] at hn
  exact hn.2.2 z h z (List.mem_cons_self ..) rfl

set_option maxHeartbeats 1000000 in
/-- perm.Check. -/
theorem check_size (A : Option Addr) (n c : Nat) (w : World) (hn : 300 < n) (hb : n ≤ 17592186044416) :
    Calls Try.prog 18 #[.slice A n c] w (Says w 1) := by
  go_enter Try.func18, Try.ntmps18
  go_wp2_with fail
  go_ret
  exact ⟨rfl, Below.refl _ _⟩

set_option maxHeartbeats 2000000 in
theorem check_small (A : Option Addr) (l : List Int) (c : Nat) (w : World) (hn : l.length ≤ 300) (hw : ∀ z ∈ l, (Lit.int .i64 z).wf = true) (hL : Lies w w.heap.size A (l.map (.int .i64))) :
    Calls Try.prog 18 #[.slice A l.length c] w (Says w (if isPerm l then 0 else 4)) := by
  have HL := Lib.hid hL
  have HW := Lib.hid hw
  have hmk := make_row (P := Try.prog) 54 4 (.bool false) 1 Try.underlying54 pbool_info rfl l.length (by omega) (by omega)
  obtain ⟨n, hk⟩ : ∃ n, l.length = n := ⟨_, rfl⟩
  have HM := Lib.hid (show marks n [] = List.replicate n (.bool false) from marks_nil n)
  rw [hk] at hn hmk ⊢
  have HN := Lib.hid hk
  obtain ⟨r, hr⟩ : ∃ r : Int, (if isPerm l then 0 else 4) = r := ⟨_, rfl⟩
  rw [hr]
  have HR := Lib.hid hr
  clear hk hL hw hr
  go_enter Try.func18, Try.ntmps18
  go_wp2_with fail
  have hbz := zeros_blk w (.bool false) n 4
  rw [← HM.out] at hbz
  have HBl := Lib.hid (bnew w (.cells (zeros (.bool false) n) 4))
  have HL1 := Lib.hid (HL.out.below HBl.out)
  generalize w.alloc (.cells (zeros (.bool false) n) 4) = w1 at *
  have HBz := Lib.hid hbz
  have HSet := Lib.hid (fun (k : List Int) (x : Nat) => marks_set n k x)
  have HGet := Lib.hid (fun (k : List Int) (x : Nat) (h : x < n) => marks_get n k x h)
  have HOut := Lib.hid (fun (i : Nat) (z : Int) (hz : l[i]? = some z) (h : z < 0 ∨ (l.length : Int) ≤ z) => not_perm_out hz h)
  have HTw := Lib.hid (fun (i : Nat) (z : Int) (hz : l[i]? = some z) (h : z ∈ l.take i) => not_perm_twice hz h)
  clear hbz hmk HM
  go_loopw [14] (fun u w' => ∃ i : Nat, i ≤ n ∧ u = .int .i64 i ∧ SoFar l i ∧ Blk w' w.heap.size 4 (marks n (l.take i)) ∧ Below w.heap.size w w') (fun u _ => n - (intOf u).toNat)
  case atStart => exact ⟨0, Nat.zero_le _, rfl, SoFar.zero l, by rw [List.take_zero]; exact HBz.out, HBl.out⟩
  case round =>
    obtain ⟨i, hi, rfl, hso, hbk, hbl⟩ := hrel
    have HBk := Lib.hid hbk
    have HB2 := Lib.hid hbl
    have HSo := Lib.hid hso
    by_cases hlt : i < n
    · obtain ⟨b, o, z, rfl, hb, hz, hc⟩ := (HL.out.below hbl).at_ (k := i) (by rw [HN.out]; exact hlt)
      have hzw := bounds_i64 (HW.out z (List.mem_of_getElem? hz))
      have HZ := Lib.hid hz
      clear hz hbl hso
      by_cases h0 : z < 0
      · have HF := Lib.hid (HOut.out i z HZ.out (.inl h0))
        clear hbk
        go_wp2_with fail
        go_ret
        exact ⟨by rw [← HR.out, HF.out]; rfl, HB2.out⟩
      · by_cases h1 : (n : Int) ≤ z
        · have HF := Lib.hid (HOut.out i z HZ.out (.inr (by rw [HN.out]; exact h1)))
          clear hbk
          go_wp2_with fail
          go_ret
          exact ⟨by rw [← HR.out, HF.out]; rfl, HB2.out⟩
        · obtain ⟨x, rfl⟩ := Int.eq_ofNat_of_zero_le (a := z) (by omega)
          have hxn : x < n := by omega
          have hcx := hbk.cell x
          rw [HGet.out _ x hxn] at hcx
          have hfz := hbk.frozen x
          clear hbk
          by_cases hm : (x : Int) ∈ l.take i
          · rw [decide_eq_true hm] at hcx
            have HF := Lib.hid (HTw.out i x HZ.out hm)
            clear hm h0 h1
            go_wp2_with fail
            go_ret
            exact ⟨by rw [← HR.out, HF.out]; rfl, HB2.out⟩
          · rw [decide_eq_false hm] at hcx
            have HS := Lib.hid (HSo.out.step HZ.out (by omega) (by rw [HN.out]; omega) hm)
            clear hm h0 h1
            go_wp2_with fail
            go_roundw
            case rel => exact ⟨i + 1, by omega, by go_num, HS.out, by
              rw [List.take_add_one, HZ.out]
              have := HBk.out.put x (.bool true)
              rw [HSet.out] at this
              exact this, HB2.out.setCell (Nat.le_refl _) _⟩
            case measure => simp [intOf]; omega
    · obtain rfl : n = i := by omega
      have HF := Lib.hid (SoFar.all (l := l) (by rw [HN.out]; exact HSo.out))
      clear hbk hbl hso
      go_wp2_with fail
      go_ret
      exact ⟨by rw [← HR.out, HF.out]; rfl, HB2.out⟩
/-- perm.Check of whatever list. -/
theorem check_any (A : Option Addr) (l : List Int) (c : Nat) (w : World) (hb : l.length ≤ 17592186044416) (hw : ∀ z ∈ l, (Lit.int .i64 z).wf = true) (hL : Lies w w.heap.size A (l.map (.int .i64))) :
    Calls Try.prog 18 #[.slice A l.length c] w (Says w (chk l)) := by
  unfold chk
  by_cases h : 300 < l.length
  · rw [if_pos h]; exact check_size A l.length c w h hb
  · rw [if_neg h]; exact check_small A l c w (by omega) hw hL
/-- .. of a permutation. -/
theorem check_ok (A : Option Addr) (p : List Nat) (c : Nat) (w : World) (hp : PermL p) (hn : p.length ≤ 300) (hL : Lies w w.heap.size A (natC p)) :
    Calls Try.prog 18 #[.slice A p.length c] w (Says w 0) := by
  have h := check_any A (ofN p) c w (by rw [ofN_length]; omega) (fun z hz => by
    obtain ⟨x, hx, rfl⟩ := List.mem_map.1 hz
    have := hp.lt x hx
    simp [Lit.wf, IntKind.min, IntKind.max, IntKind.signed, IntKind.bits]
    omega) (by unfold ofN; rw [← natC_map]; exact hL)
  rwa [ofN_length, chk_ofN hp hn] at h

theorem srt_perm_eq {p : List Nat} (h : PermL p) : srt (ofN p) = ofN (List.range p.length) := by
  refine List.Perm.eq_of_pairwise (le := (· ≤ ·)) (fun a b _ _ h1 h2 => Int.le_antisymm h1 h2) (srt_sorted _) ?_ ((srt_perm _).trans (h.perm.map _))
  unfold ofN
  rw [List.pairwise_map]
  exact List.pairwise_lt_range.imp fun h => by omega
theorem srt_no {l : List Int} {i : Nat} {z : Int} (hz : (srt l)[i]? = some z) (h : z ≠ (i : Int)) : isPerm l = false := by
  cases hp : isPerm l
  · rfl
  · obtain ⟨p, hpl, rfl⟩ := isPerm_ex hp
    rw [srt_perm_eq hpl, ofN_get] at hz
    by_cases hi : i < p.length
    · rw [List.getElem?_range hi] at hz
      exact absurd (Option.some.inj hz).symm h
    · rw [List.getElem?_eq_none (by simpa using hi)] at hz
      cases hz
theorem srt_yes {l : List Int} (h : ∀ i, i < l.length → (srt l)[i]? = some (i : Int)) : isPerm l = true := by
  have e : srt l = ofN (List.range l.length) := by
    apply List.ext_getElem?
    intro i
    by_cases hi : i < l.length
    · rw [h i hi, ofN_get, List.getElem?_range hi]; rfl
    · rw [List.getElem?_eq_none (by rw [srt_length]; omega), List.getElem?_eq_none (by rw [ofN_length]; simpa using hi)]
  have hp : l.Perm (ofN (List.range l.length)) := by rw [← e]; exact (srt_perm l).symm
  refine decide_eq_true ⟨hp.symm.nodup (nodup_map (fun a b e => by omega) List.nodup_range), fun z hz => ?_⟩
  obtain ⟨x, hx, rfl⟩ := List.mem_map.1 (hp.mem_iff.1 hz)
  have := List.mem_range.1 hx
  omega

set_option maxHeartbeats 1000000 in
/-- The document's PermFault. -/
theorem rfault_size11 (A : Option Addr) (n c : Nat) (w : World) (hn : 300 < n) (hb : n ≤ 17592186044416) :
    Calls Try.prog 19 #[.slice A n c] w (Says w 1) := by
  go_enter Try.func19, Try.ntmps19
  go_wp2_with fail
  go_ret
  exact ⟨rfl, Below.refl _ _⟩

set_option maxHeartbeats 2000000 in
theorem rfault_small (A : Option Addr) (l : List Int) (c : Nat) (w : World) (hn : l.length ≤ 300) (hnone : A = none → c = 0) (hL : Lies w w.heap.size A (l.map (.int .i64))) :
    Calls Try.prog 19 #[.slice A l.length c] w (Says w (if isPerm l then 0 else 4)) := by
  have HL := Lib.hid hL
  have HNn := Lib.hid hnone
  have HO := Lib.hid (cells_one l)
  have HSL := Lib.hid (srt_length l)
  obtain ⟨n, hk⟩ : ∃ n, l.length = n := ⟨_, rfl⟩
  have HLn := Lib.hid (show (l.map (Value.int .i64)).length = n by rw [List.length_map, hk])
  obtain ⟨r, hr⟩ : ∃ r : Int, (if isPerm l then 0 else 4) = r := ⟨_, rfl⟩
  rw [hr]
  have HR := Lib.hid hr
  have HSI := Lib.hid (fun v W (h : W.ownsRow w.heap.size 3 1 v l.length (l.map (.int .i64))) => sortInts_own w.heap.size v l W h (by omega))
  have HNo := Lib.hid (fun (i : Nat) (z : Int) (hz : (srt l)[i]? = some z) (h : z ≠ (i : Int)) => srt_no hz h)
  have HYes := Lib.hid (fun (h : ∀ i, i < l.length → (srt l)[i]? = some (i : Int)) => srt_yes h)
  rw [hk] at hn ⊢
  have HN := Lib.hid hk
  clear hk hL hr hnone
  go_enter Try.func19, Try.ntmps19
  go_wp2_with (at_builtin; go_loud (refine append_from _ rfl (.const (.slice none 0 0)) (.tmp 9) 22 rfl w.heap.size 3 (.int .i64 0) 8 Try.underlying22 pint_info rfl (.slice none 0 0) 0 [] rfl (World.ownsRow_nil _ _ _ _) A n c (l.map (.int .i64)) rfl HLn.out HNn.out HL.out HO.out (by simp only [maxLen]; omega) (by omega) (Nat.le_refl _) ?_))
  intro v1 w1 hown1 hg1
  have hownL : w1.ownsRow w.heap.size 3 1 v1 l.length (l.map (.int .i64)) := by rw [HN.out]; simpa using hown1
  have hb1 : Below w.heap.size w w1 := (Below.refl _ _).grown hg1 (Nat.le_refl _) (fun q hq => by cases hq)
  have HB1 := Lib.hid hb1
  have hv1 := Lib.hid (fun q hq => (hownL.lt q hq).1)
  have HS := Lib.hid (HSI.out v1 w1 hownL)
  clear hownL hown1 hg1 hb1
  go_wp2_with fail
  refine HS.out.mono ?_
  rintro e w2 ⟨rfl, hown2, hg2⟩
  have HB2 := Lib.hid (HB1.out.grown hg2 (by have := HB1.out.size; omega) (fun q hq => (hv1.out q hq)))
  obtain ⟨A4, c4, rfl, hle4, hlen4, hl4, hn4, _⟩ := own_slice hown2
  rw [HN.out]
  have HL4 := Lib.hid hl4
  clear hown2 hg2 hl4 hn4 hlen4 hle4
  go_wp2_with fail
  go_loop [15] (fun u => ∃ i : Nat, i ≤ n ∧ u = .int .i64 i ∧ ∀ j, j < i → (srt l)[j]? = some (j : Int)) (fun u => n - (intOf u).toNat)
  case atStart => exact ⟨0, Nat.zero_le _, rfl, fun j hj => by omega⟩
  case round =>
    obtain ⟨i, hi, rfl, hso⟩ := hrel
    have HSo := Lib.hid hso
    clear hso
    by_cases hlt : i < n
    · obtain ⟨b, o, z, rfl, hb, hz, hc⟩ := HL4.out.at_ (k := i) (by rw [HSL.out, HN.out]; exact hlt)
      have HZ := Lib.hid hz
      clear hz
      by_cases he : z = (i : Int)
      · subst he
        have hne : ((i : Int) != (i : Int)) = false := by simp
        go_wp2_with fail
        go_round
        case rel => exact ⟨i + 1, by omega, by go_num, fun j hj => by
          by_cases e : j = i
          · subst e; exact HZ.out
          · exact HSo.out j (by omega)⟩
        case measure => simp [intOf]; omega
      · have hne : (z != (i : Int)) = true := by simpa using he
        have HF := Lib.hid (HNo.out i z HZ.out he)
        clear he
        go_wp2_with fail
        go_ret
        exact ⟨by rw [← HR.out, HF.out]; rfl, HB2.out⟩
    · obtain rfl : n = i := by omega
      have HF := Lib.hid (HYes.out (by rw [HN.out]; exact HSo.out))
      go_wp2_with fail
      go_ret
      exact ⟨by rw [← HR.out, HF.out]; rfl, HB2.out⟩

/-- .. of whatever list. -/
theorem rfault_any11 (A : Option Addr) (l : List Int) (c : Nat) (w : World) (hb : l.length ≤ 17592186044416) (hnone : A = none → c = 0) (hL : Lies w w.heap.size A (l.map (.int .i64))) :
    Calls Try.prog 19 #[.slice A l.length c] w (Says w (chk l)) := by
  unfold chk
  by_cases h : 300 < l.length
  · rw [if_pos h]; exact rfault_size11 A l.length c w h hb
  · rw [if_neg h]; exact rfault_small A l c w (by omega) hnone hL
end Go.Proofs.Ytehmngecpipebaa
