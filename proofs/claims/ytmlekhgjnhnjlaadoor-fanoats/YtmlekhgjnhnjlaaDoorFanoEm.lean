/-
  What fano.elements returns where bound, low parts and width are right: contracts, walked over the translated text. No condition but what each theorem names.
-/
import Derived.Test.YtmlekhgjnhnjlaaDoorFanoEl
namespace Go.Proofs.YtmlekhgjnhnjlaaDoor
open Go.RowKit Words

theorem shl_sel (x d : Nat) (hx : x ≤ 4096) (hd : d ≤ 20) : IntKind.i64.wrap ((x : Int) * 2 ^ d) = ((x * 2 ^ d : Nat) : Int) := by
  have h : x * 2 ^ d ≤ 4096 * 2 ^ 20 := Nat.mul_le_mul hx (Nat.pow_le_pow_right (by decide) hd)
  have e : (x : Int) * 2 ^ d = ((x * 2 ^ d : Nat) : Int) := by simp
  rw [e, IntKind.wrap_i64]
  generalize x * 2 ^ d = q at *
  omega

theorem intVals_snoc (l : List Nat) (x : Nat) : intVals (l ++ [x]) = intVals l ++ [.int .i64 x] := by simp [intVals, asInts]

/-- A row of n numbers, of which the first are l. -/
def rowTo (n : Nat) (l : List Nat) : List Value := intVals l ++ List.replicate (n - l.length) (.int .i64 0)
theorem rowTo_nil (n : Nat) : rowTo n [] = List.replicate n (.int .i64 0) := by simp [rowTo, intVals, asInts]
theorem rowTo_all (l : List Nat) : rowTo l.length l = intVals l := by simp [rowTo]
theorem rowTo_at (n : Nat) (l : List Nat) (h : l.length < n) : (rowTo n l)[l.length]? = some (.int .i64 0) := by
  unfold rowTo
  rw [List.getElem?_append_right (by rw [intVals_length]; exact Nat.le_refl _), intVals_length, Nat.sub_self, List.getElem?_replicate, if_pos (by omega)]
theorem rowTo_step (n : Nat) (l : List Nat) (x : Nat) (h : l.length < n) : (rowTo n l).set l.length (.int .i64 x) = rowTo n (l ++ [x]) := by
  unfold rowTo
  rw [show n - l.length = (n - (l ++ [x]).length) + 1 by simp; omega, List.replicate_succ, List.set_append, intVals_length, if_neg (Nat.lt_irrefl _), Nat.sub_self, List.set_cons_zero, intVals_snoc, List.append_assoc]
  rfl

theorem enc_made {B d n : Nat} {lw : List Nat} {m : Int} {hw l : List Nat} (hP : Places d lw m hw l) (hl : l.length = n) (ns : List Nat) (B' : Nat) (h : Enc B n d lw m hw ns B') : B' = B ∧ ns = l :=
  ⟨by have := h.bound; omega, hP.enc h rfl (by rw [hl])⟩

/-- What fano.elements leaves: the numbers that are encoded, or none. -/
def Elems (Z n d : Int) (lw : List Nat) (m : Int) (hw : List Nat) (w : World) (e : Ending) (w' : World) : Prop :=
  (∃ ns B, Enc Z n d lw m hw ns B ∧ GivesNums w ns e w') ∨ ((∀ ns B, ¬ Enc Z n d lw m hw ns B) ∧ NoNums w e w')

set_option maxRecDepth 100000 in
set_option maxHeartbeats 4000000 in
theorem elem_main (B n : Nat) (A : Option Addr) (lw : List Nat) (c : Nat) (m : Int) (A2 : Option Addr) (hw : List Nat) (c2 : Nat) (w : World) (hT : Tab w) (hB : B ≤ 1048576) (hV : PValid n (fw n B) lw) (hW : Words64 w w.heap.size A lw) (hH : Words64 w w.heap.size A2 hw) :
    Calls Tryd.prog 24 #[.agg #[.int .i64 B, .int .i64 n, .int .i64 (fw n B : Nat), .slice A lw.length c, .int .i64 m, .slice A2 hw.length c2]] w (Elems B n (fw n B : Nat) lw m hw w) := by
  have HA := Lib.hid (allowed_yes B · hB)
  have HM := Lib.hid (fun W hW => pmay_yes n (fw n B) A lw c W hV hW)
  have HF := Lib.hid (widthFor_any B n · hB hV.hi)
  have HW := Lib.hid hW
  have HH := Lib.hid hH
  have HT := Lib.hid hT
  have HV := Lib.hid hV
  have hd := fw_le n B
  have hn := hV.hi
  have hne : (((fw n B : Nat) : Int) != ((fw n B : Nat) : Int)) = false := by simp
  have HAt := Lib.hid (fun i W hW hi => pat_in n (fw n B) i A lw c W hV hW hi)
  have hmk := make_row (P := Tryd.prog) 29 3 (.int .i64 0) 8 Tryd.underlying29 fint_info rfl n (by omega) (by omega)
  clear hV hW hH hT
  generalize hdd : fw n B = d at *
  have HD := Lib.hid hdd
  clear hdd
  generalize hk : lw.length = k at *
  generalize hkk : hw.length = k2 at *
  have HK2 := Lib.hid hkk
  clear hk hkk
  go_enter Tryd.func24, Tryd.ntmps24
  go_wp2_with fail
  have hbx := Blk.new w 28 [.int .i64 B, .int .i64 n, .int .i64 d, .slice A k c, .int .i64 m, .slice A2 k2 c2]
  have hbw := bnew w (.cells #[.int .i64 B, .int .i64 n, .int .i64 d, .slice A k c, .int .i64 m, .slice A2 k2 c2] 28)
  have hlt := hbx.lt
  have HWx := Lib.hid (HW.out.on hbw)
  generalize w.alloc (.cells #[.int .i64 B, .int .i64 n, .int .i64 d, .slice A k c, .int .i64 m, .slice A2 k2 c2] 28) = w0 at *
  have r0 : w0.cell? ⟨w.heap.size, 0, none⟩ = some (.int .i64 B) := hbx.cell 0
  have r1 : w0.cell? ⟨w.heap.size, 1, none⟩ = some (.int .i64 n) := hbx.cell 1
  have r2 : w0.cell? ⟨w.heap.size, 2, none⟩ = some (.int .i64 d) := hbx.cell 2
  have r3 : w0.cell? ⟨w.heap.size, 3, none⟩ = some (.slice A k c) := hbx.cell 3
  go_region_held3 (fun w' => w'.cell? ⟨w.heap.size, 0, none⟩ = some (.int .i64 B) ∧ w'.cell? ⟨w.heap.size, 1, none⟩ = some (.int .i64 n) ∧ w'.cell? ⟨w.heap.size, 2, none⟩ = some (.int .i64 d) ∧ w'.cell? ⟨w.heap.size, 3, none⟩ = some (.slice A k c))
    (first | exact ⟨r0, r1, r2, r3⟩ | exact ⟨(hc1 _ _ hlt).trans r0, (hc1 _ _ hlt).trans r1, (hc1 _ _ hlt).trans r2, (hc1 _ _ hlt).trans r3⟩)
    (first
      | (go_at_call 26; refine (HA.out _).mono ?_; rintro e w' ⟨rfl, rfl⟩)
      | (go_at_call 28; refine (HF.out _).mono ?_; rintro e w' ⟨rfl, rfl⟩)
      | (go_at_call 36; refine (HM.out _ (by exact HWx.out.drew)).mono ?_; rintro e w1 ⟨rfl, hb1⟩; have hc1 : ∀ b o, b < w0.heap.size → w1.cell? ⟨b, o, none⟩ = w0.cell? ⟨b, o, none⟩ := fun b o h => bcell hb1 b o h))
  have hx1 := hbx.drew.below hb1 hlt
  have HB1 := Lib.hid (chain hbw.drew hb1)
  have hx1l := hx1.lt
  clear hbx r0 r1 r2 r3 hc1 hb1 hlt hbw HWx
  have r1 : w1.cell? ⟨w.heap.size, 1, none⟩ = some (.int .i64 n) := hx1.cell 1
  go_wp2
  clear r1
  go_loopw [40] (fun v w' => ∃ (i : Nat) (l : List Nat), i ≤ n ∧ v = .int .i64 i ∧ l.length = i ∧ Places d lw m hw l ∧ Blk w' w1.heap.size 3 (rowTo n l) ∧ Below w1.heap.size w1 w') (fun v _ => n - (intOf v).toNat)
  case atStart => exact ⟨0, [], Nat.zero_le _, rfl, rfl, Places.nil _ _ _ _, by rw [rowTo_nil]; exact zeros_blk w1 (.int .i64 0) n 3, bnew _ _⟩
  case round =>
    obtain ⟨i, l, hi, rfl, hli, hpl, hBk, hbl⟩ := hrel
    have HLI := Lib.hid hli
    have HPL := Lib.hid hpl
    have hbA := chain HB1.out hbl
    have hxr := hx1.below hbl hx1l
    clear hli hpl
    by_cases hlt : i < n
    · have q4 : wr.cell? ⟨w.heap.size, 4, none⟩ = some (.int .i64 m) := hxr.cell 4
      have q5 : wr.cell? ⟨w.heap.size, 5, none⟩ = some (.slice A2 k2 c2) := hxr.cell 5
      by_cases hVH : ∃ m' : Nat, m = m' ∧ Valid m' hw
      · obtain ⟨m', rfl, hVm⟩ := hVH
        have hm4 := hVm.hi
        by_cases ht : tally (bit hw) m' ≤ i
        · have HS := Lib.hid (fun W hW => bsel_none m' i true A2 hw c2 W hVm hW (by omega) (by rw [tally_kind_true _ _ _ (Nat.le_refl _)]; exact ht))
          rw [HK2.out] at HS
          have HNo := Lib.hid (no_enc_none (Z := B) (d := d) (lw := lw) (n := n) (m' := m') rfl (Nat.lt_of_le_of_lt ht hlt))
          clear ht hVm
          go_wp2_with fail
          refine (HS.out _ (by exact HH.out.on hbA)).mono ?_
          rintro e w2 ⟨rfl, hb2⟩
          go_wp2
          go_ret2
          exact .inr ⟨HNo.out, rfl, chain hbA hb2⟩
        · obtain ⟨p, hp, hpb, hpc⟩ := tally_hit (bit hw) i m' (by omega)
          have hip : i ≤ p := by rw [← hpc]; exact tally_le _ _
          have HS := Lib.hid (fun W hT hW => bsel_some m' i p true A2 hw c2 W hT hVm hW hp hpb (by rw [tally_kind_true _ _ _ (Nat.le_of_lt hp)]; exact hpc))
          rw [HK2.out] at HS
          have HPN := Lib.hid (HPL.out.snoc (x := (p - i) * 2 ^ d + numAt lw d i) rfl hp hpb (by rw [HLI.out]; exact hpc) (by rw [HLI.out]))
          have hnum : numAt lw d i < 2 ^ d := numAt_lt lw d i
          have hpw : 2 ^ d ≤ 1048576 := Nat.pow_le_pow_right (n := 2) (j := 20) (by decide) hd
          have hsub : (p : Int) - (i : Int) = ((p - i : Nat) : Int) := by omega
          have hshl := shl_sel (p - i) d (by omega) hd
          have hqb : (p - i) * 2 ^ d ≤ 4096 * 1048576 := Nat.mul_le_mul (by omega) hpw
          have HAi := Lib.hid (fun W hW => HAt.out i W hW hlt)
          have HST := Lib.hid (rowTo_step n l ((p - i) * 2 ^ d + numAt lw d i) (by rw [HLI.out]; exact hlt))
          have HRA := Lib.hid (rowTo_at n l (by rw [HLI.out]; exact hlt))
          rw [HLI.out] at HST HRA
          have hp4 : p ≤ 4096 := by omega
          clear ht hpb hpc hp hVm
          generalize numAt lw d i = y at *
          generalize (p - i) * 2 ^ d = q at *
          generalize 2 ^ d = pw at *
          go_wp2_with fail
          refine (HS.out _ (by exact HT.out.on hbA) (by exact HH.out.on hbA)).mono ?_
          rintro e w2 ⟨rfl, hb2⟩
          have hxr2 := hxr.below hb2 hxr.lt
          have q1 : w2.cell? ⟨w.heap.size, 1, none⟩ = some (.int .i64 n) := hxr2.cell 1
          have q2 : w2.cell? ⟨w.heap.size, 2, none⟩ = some (.int .i64 d) := hxr2.cell 2
          have q3 : w2.cell? ⟨w.heap.size, 3, none⟩ = some (.slice A k c) := hxr2.cell 3
          clear q4 q5
          go_wp2_with fail
          refine (HAi.out _ (by exact HW.out.on (chain hbA hb2))).mono ?_
          rintro e w3 ⟨rfl, hb3⟩
          have hxr3 := hxr2.below hb3 hxr2.lt
          have q2' : w3.cell? ⟨w.heap.size, 2, none⟩ = some (.int .i64 d) := hxr3.cell 2
          have hB3 := (hBk.below hb2 hBk.lt).below hb3 (hBk.below hb2 hBk.lt).lt
          have hcell : w3.cell? ⟨w1.heap.size, i, none⟩ = some (.int .i64 0) := by rw [hB3.cell]; exact HRA.out
          have hfz := hB3.frozen i
          have HP := Lib.hid (hB3.put i (.int .i64 (q + y : Nat)))
          have HBn := Lib.hid (hbl.trans ((chain hb2 hb3).mono hbl.size))
          clear q1 q2 q3 hxr hxr2 hxr3 hBk hB3 hb2 hb3 hbl hbA
          go_wp2
          go_roundw
          case rel => exact ⟨i + 1, l ++ [q + y], by omega, by go_num, by rw [List.length_append, HLI.out]; rfl, HPN.out, by rw [← HST.out]; exact HP.out, HBn.out.setCell (Nat.le_refl _) _⟩
          case measure => simp [intOf]; omega
      · have hVN : ∀ m' : Nat, m = m' → ¬ Valid m' hw := fun m' e hv => hVH ⟨m', e, hv⟩
        have HS := Lib.hid (fun W hW => bsel_form m i true A2 hw c2 W hVN hW)
        rw [HK2.out] at HS
        have HNo := Lib.hid (no_enc_form (Z := B) (d := d) (lw := lw) (n := n) hVN)
        clear hVN hVH
        go_wp2_with fail
        refine (HS.out _ (by exact HH.out.on hbA)).mono ?_
        rintro e w2 ⟨rfl, hb2⟩
        go_wp2
        go_ret2
        exact .inr ⟨HNo.out, rfl, chain hbA hb2⟩
    · obtain rfl : n = i := by omega
      have q0 : wr.cell? ⟨w.heap.size, 0, none⟩ = some (.int .i64 B) := hxr.cell 0
      have hrow : rowTo n l = intVals l := by rw [← HLI.out]; exact rowTo_all l
      rw [hrow] at hBk
      have HLi := Lib.hid hBk.lies
      clear hrow hlt hi
      by_cases hg : AllGood B (asInts l)
      · have hR := rises_of_good hg
        have HMk := Lib.hid (fun W hL => fmake_any B (some ⟨w1.heap.size, 0, none⟩) l n W (by rw [HLI.out]; exact hn) hB hL hR)
        unfold MadeFano at HMk
        rw [HLI.out, HD.out] at HMk
        have HLo := Lib.hid (HPL.out.low (by rw [HLI.out]; exact HV.out) HW.out.2)
        have HEn := Lib.hid (fun (h1 : m = (fhigh B l).length) (h2 : rowOf (fhigh B l) = hw) => (show Enc B n d lw m hw l B from ⟨rfl, hB, by rw [HLI.out]; exact hn, hR, by rw [HLI.out], by rw [HLI.out, HD.out], by rw [HLI.out, HD.out]; exact HLo.out.symm, h1, h2.symm⟩))
        have HN1 := Lib.hid (fun (h1 : m ≠ (fhigh B l).length) ns B' (he : Enc B n d lw m hw ns B') => (show False by
          obtain ⟨rfl, rfl⟩ := enc_made HPL.out HLI.out ns B' he
          exact h1 he.hlen))
        have HN2 := Lib.hid (fun (h2 : rowOf (fhigh B l) ≠ hw) ns B' (he : Enc B n d lw m hw ns B') => (show False by
          obtain ⟨rfl, rfl⟩ := enc_made HPL.out HLI.out ns B' he
          exact h2 he.high.symm))
        have hhl : (rowOf (fhigh B l)).length ≤ 17592186044416 := by
          have := fhigh_short (ns := l) hB
          rw [rowOf_length]
          rw [HLI.out] at this
          omega
        clear hR hg
        generalize packWords d (flow d l) = lw2 at *
        generalize rowOf (fhigh B l) = hw2 at *
        generalize (fhigh B l).length = m2 at *
        go_wp2_with fail
        refine (HMk.out _ HLi.out).mono ?_
        rintro e w2 ⟨A3, c3, A4, c4, rfl, hW3, hW4, _, _, hb2⟩
        have hxr2 := hxr.below hb2 hxr.lt
        have HW4 := Lib.hid hW4
        have q4 : w2.cell? ⟨w.heap.size, 4, none⟩ = some (.int .i64 m) := hxr2.cell 4
        have q5 : w2.cell? ⟨w.heap.size, 5, none⟩ = some (.slice A2 k2 c2) := hxr2.cell 5
        have hs2 := hxr2.lt
        have HBw := Lib.hid (chain hbA hb2)
        have HL2 := Lib.hid (HLi.out.on hb2)
        clear hW3 hW4 q0 hxr hxr2 hBk hbl hbA hb2 HLi
        by_cases hm : m = m2
        · have hmb : ((m2 : Int) != m) = false := by simp [hm]
          by_cases hwE : hw2 = hw
          · have HE := Lib.hid (fun A A' c c' W h1 h2 => equal_any A A' hw2 hw c c' W true hhl h1 h2 ⟨fun _ => hwE, fun _ => rfl⟩)
            rw [HK2.out] at HE
            have HEnc := Lib.hid (HEn.out hm hwE)
            clear hm hwE
            go_wp2_with fail
            refine (HE.out _ _ _ _ _ (by exact HW4.out.alloc _) (by exact (HH.out.on HBw.out).alloc _)).mono ?_
            rintro e w3 ⟨rfl, hb3⟩
            go_wp2
            go_ret2
            exact .inl ⟨l, B, HEnc.out, some ⟨w1.heap.size, 0, none⟩, n, by rw [HLI.out]; rfl, by rw [HLI.out]; exact Nat.le_refl _, (HL2.out.alloc _).on hb3, chain (chain HBw.out (bnew _ _)) hb3⟩
          · have HE := Lib.hid (fun A A' c c' W h1 h2 => equal_any A A' hw2 hw c c' W false hhl h1 h2 ⟨(fun e => by cases e), fun e => absurd e hwE⟩)
            rw [HK2.out] at HE
            have HNo := Lib.hid (HN2.out hwE)
            clear hm hwE
            go_wp2_with fail
            refine (HE.out _ _ _ _ _ (by exact HW4.out.alloc _) (by exact (HH.out.on HBw.out).alloc _)).mono ?_
            rintro e w3 ⟨rfl, hb3⟩
            go_wp2
            go_ret2
            exact .inr ⟨HNo.out, rfl, chain (chain HBw.out (bnew _ _)) hb3⟩
        · have hmb : ((m2 : Int) != m) = true := by simpa using fun e => hm e.symm
          have HNo := Lib.hid (HN1.out hm)
          clear hm
          go_wp2
          go_ret2
          exact .inr ⟨HNo.out, rfl, chain HBw.out (bnew _ _)⟩
      · have HMk := Lib.hid (fun W hL => fmake_form B (some ⟨w1.heap.size, 0, none⟩) (asInts l) n W (by rw [asInts_length, HLI.out]; exact hn) hB hL hg)
        rw [asInts_length, HLI.out] at HMk
        have HNo := Lib.hid (fun ns B' (he : Enc B n d lw m hw ns B') => (show False by
          obtain ⟨rfl, rfl⟩ := enc_made HPL.out HLI.out ns B' he
          exact hg (rises_good he.rises)))
        clear hg
        go_wp2_with fail
        refine (HMk.out _ HLi.out).mono ?_
        rintro e w2 ⟨rfl, hb2⟩
        go_wp2
        go_ret2
        exact .inr ⟨HNo.out, rfl, chain (chain hbA hb2) (bnew _ _)⟩

/-- fano.elements, whatever it is asked of. -/
theorem elem_any (Z n d : Int) (A : Option Addr) (lw : List Nat) (c : Nat) (m : Int) (A2 : Option Addr) (hw : List Nat) (c2 : Nat) (w : World) (hT : Tab w) (hW : Words64 w w.heap.size A lw) (hH : Words64 w w.heap.size A2 hw) :
    Calls Tryd.prog 24 #[.agg #[.int .i64 Z, .int .i64 n, .int .i64 d, .slice A lw.length c, .int .i64 m, .slice A2 hw.length c2]] w (Elems Z n d lw m hw w) := by
  by_cases hz : Z < 0 ∨ 1048576 < Z
  · refine (elem_bound Z n d A lw c m A2 hw c2 w hz).mono fun _ _ h => .inr ⟨fun ns B he => ?_, h⟩
    have h1 := he.bound
    have h2 := he.hB
    omega
  obtain ⟨B, rfl⟩ := Int.eq_ofNat_of_zero_le (a := Z) (by omega)
  have hB : B ≤ 1048576 := by omega
  by_cases hV : ∃ a b : Nat, n = a ∧ d = b ∧ PValid a b lw
  · obtain ⟨a, b, rfl, rfl, hV⟩ := hV
    by_cases hd : b = fw a B
    · subst hd
      exact elem_main B a A lw c m A2 hw c2 w hT hB hV hW hH
    · refine (elem_width B a b A lw c m A2 hw c2 w hB hV hW hd).mono fun _ _ h => .inr ⟨fun ns B' he => ?_, h⟩
      have h1 := he.bound
      have h2 := he.len
      have h3 := he.wide
      obtain rfl : B' = B := by omega
      obtain rfl : a = ns.length := by omega
      exact hd (by omega)
  · refine (elem_low B n d A lw c m A2 hw c2 w hB (fun a b h1 h2 h3 => hV ⟨a, b, h1, h2, h3⟩) hW).mono fun _ _ h => .inr ⟨fun ns B' he => ?_, h⟩
    obtain ⟨d', _, e1, _, _, h3, _⟩ := he.parts
    exact hV ⟨_, d', he.len, e1, h3⟩

theorem Elems.yes {Z n d m : Int} {lw hw ns : List Nat} {B : Nat} {w w' : World} {e : Ending} (h : Elems Z n d lw m hw w e w') (he : Enc Z n d lw m hw ns B) : GivesNums w ns e w' := by
  rcases h with ⟨ns2, B2, h2, hg⟩ | ⟨hno, _⟩
  · obtain ⟨d1, m1, e1, e2, _, _, _, hr⟩ := he.parts
    obtain ⟨d2, m2, e3, e4, _, _, _, hr2⟩ := h2.parts
    obtain rfl : d1 = d2 := by omega
    obtain rfl : m1 = m2 := by omega
    rw [← hr, hr2]
    exact hg
  · exact absurd he (hno ns B)
theorem Elems.no {Z n d m : Int} {lw hw : List Nat} {w w' : World} {e : Ending} (h : Elems Z n d lw m hw w e w') (hno : ∀ ns B, ¬ Enc Z n d lw m hw ns B) : NoNums w e w' := by
  rcases h with ⟨ns, B, h2, _⟩ | ⟨_, h⟩
  · exact absurd h2 (hno ns B)
  · exact h
end Go.Proofs.YtmlekhgjnhnjlaaDoor
