/-
  What the document's reader of an encoding returns: contracts, walked over the translated text. No condition but what each theorem names.
-/
import Derived.Test.YtmlekhgjnhnjlaaDoorFanoEm
import Derived.Test.YtmlekhgjnhnjlaaDoorFanoRMk
import Derived.Test.YtmlekhgjnhnjlaaDoorPackRef
import Derived.Test.YtmlekhgjnhnjlaaDoorBitsRef
import Derived.Test.YtmlekhgjnhnjlaaDoorWordsEq
namespace Go.Proofs.YtmlekhgjnhnjlaaDoor
open Go.RowKit Words

/-- What a call owns it owns behind a call that made memory alone. -/
theorem own_on {w w' : World} {base : Nat} {e : TypeId} {size : Nat} {v : Value} {n : Nat} {xs : List Value} (h : w.ownsRow base e size v n xs) (hb : Below w.heap.size w w') : w'.ownsRow base e size v n xs := by
  refine ⟨h.1, ?_⟩
  rcases h.2 with h2 | ⟨g, cap, cur, h1, h3, hh, hr⟩
  · exact .inl h2
  · refine .inr ⟨g, cap, cur, h1, h3, ?_, hr⟩
    refine (hb.block g ?_).trans hh
    rcases Nat.lt_or_ge g w.heap.size with h4 | h4
    · exact h4
    · rw [Array.getElem?_eq_none h4] at hh; cases hh

theorem enc_made2 {Z : Int} {B d n m : Nat} {lw hw l : List Nat} (hZ : Z = B) (hl : freadI d (numAt lw d) (bit hw) m = asInts l) (ns : List Nat) (B' : Nat) (h : Enc Z n d lw m hw ns B') : B' = B ∧ ns = l :=
  ⟨by have := h.bound; omega, enc_list h rfl rfl hl⟩

set_option maxRecDepth 100000 in
set_option maxHeartbeats 1000000 in
/-- The document's reader: the low parts are no array. -/
theorem read_low (Z n d : Int) (A : Option Addr) (lw : List Nat) (c : Nat) (m : Int) (A2 : Option Addr) (hw : List Nat) (c2 : Nat) (w : World) (hV : ∀ a b : Nat, n = a → d = b → ¬ PValid a b lw) (hk : lw.length ≤ 17592186044416) (hW : Words64 w w.heap.size A lw) :
    Calls Tryd.prog 8 #[.agg #[.int .i64 Z, .int .i64 n, .int .i64 d, .slice A lw.length c, .int .i64 m, .slice A2 hw.length c2]] w (NoNums w) := by
  have HM := Lib.hid (fun W hW => rpmay_no n d A lw c W hV hk hW)
  have HW := Lib.hid hW
  clear hV hW hk
  generalize lw.length = k at *
  generalize hw.length = k2 at *
  go_enter Tryd.func8, Tryd.ntmps8
  go_wp2_with fail
  refine (HM.out _ (by exact HW.out.alloc _)).mono ?_
  rintro e w1 ⟨rfl, hb1⟩
  go_wp2
  go_ret2
  exact ⟨rfl, chain (bnew _ _) hb1⟩

set_option maxRecDepth 100000 in
set_option maxHeartbeats 1000000 in
/-- The document's reader: the high part is no vector. -/
theorem read_high (Z : Int) (n d : Nat) (A : Option Addr) (lw : List Nat) (c : Nat) (m : Int) (A2 : Option Addr) (hw : List Nat) (c2 : Nat) (w : World) (hV : PValid n d lw) (hVH : ∀ m' : Nat, m = m' → ¬ Valid m' hw) (hk : hw.length ≤ 17592186044416) (hW : Words64 w w.heap.size A lw) (hH : Words64 w w.heap.size A2 hw) :
    Calls Tryd.prog 8 #[.agg #[.int .i64 Z, .int .i64 n, .int .i64 d, .slice A lw.length c, .int .i64 m, .slice A2 hw.length c2]] w (NoNums w) := by
  have HM := Lib.hid (fun W hW => rpmay_yes n d A lw c W hV hW)
  have HMB := Lib.hid (fun W hW => rmay_no m A2 hw c2 W hVH hk hW)
  have HW := Lib.hid hW
  have HH := Lib.hid hH
  clear hV hW hk hH hVH
  generalize lw.length = k at *
  generalize hw.length = k2 at *
  go_enter Tryd.func8, Tryd.ntmps8
  go_wp2_with fail
  refine (HM.out _ (by exact HW.out.alloc _)).mono ?_
  rintro e w1 ⟨rfl, hb1⟩
  have hx1 := (Blk.new w 28 [.int .i64 Z, .int .i64 n, .int .i64 d, .slice A k c, .int .i64 m, .slice A2 k2 c2]).below hb1 (by simp)
  have q4 : w1.cell? ⟨w.heap.size, 4, none⟩ = some (.int .i64 m) := hx1.cell 4
  have q5 : w1.cell? ⟨w.heap.size, 5, none⟩ = some (.slice A2 k2 c2) := hx1.cell 5
  go_wp2_with fail
  refine (HMB.out _ (by exact (HH.out.alloc _).on hb1)).mono ?_
  rintro e w2 ⟨rfl, hb2⟩
  go_wp2
  go_ret2
  exact ⟨rfl, chain (chain (bnew _ _) hb1) hb2⟩

set_option maxRecDepth 100000 in
set_option maxHeartbeats 4000000 in
/-- The document's reader, of a valid array and a valid vector. -/
theorem read_main (Z : Int) (n d : Nat) (A : Option Addr) (lw : List Nat) (c : Nat) (m : Nat) (A2 : Option Addr) (hw : List Nat) (c2 : Nat) (w : World) (hV : PValid n d lw) (hVH : Valid m hw) (hW : Words64 w w.heap.size A lw) (hH : Words64 w w.heap.size A2 hw) :
    Calls Tryd.prog 8 #[.agg #[.int .i64 Z, .int .i64 n, .int .i64 d, .slice A lw.length c, .int .i64 m, .slice A2 hw.length c2]] w (Elems Z n d lw m hw w) := by
  have HM := Lib.hid (fun W hW => rpmay_yes n d A lw c W hV hW)
  have HMB := Lib.hid (fun W hW => rmay_yes m A2 hw c2 W hVH hW)
  have HBo := Lib.hid (fun W hW => bools_any m A2 hw c2 W hVH hW)
  have HAi := Lib.hid (fun i W hW hi => rpat_in n d i A lw c W hV hW hi)
  have HAo := Lib.hid (fun (i : Nat) W hW (hi : n ≤ i) => rpat_out n d i A lw c W hV hW (.inr (by omega)))
  have HW := Lib.hid hW
  have HH := Lib.hid hH
  have HV := Lib.hid hV
  have HVH := Lib.hid hVH
  have hn := hV.hi
  have hd := hV.wide
  have hm4 := hVH.hi
  have hl1 : lw.length ≤ 300 := by
    have h1 := hV.len
    have h2 := mul_bound hn hd
    omega
  have hl2 : hw.length ≤ 64 := by
    have h1 := hVH.len
    omega
  clear hV hW hH hVH
  generalize hkk1 : lw.length = k at *
  have HK1 := Lib.hid hkk1
  generalize hkk : hw.length = k2 at *
  have HK2 := Lib.hid hkk
  clear hkk hkk1
  have HBL := Lib.hid (show ((List.range m).map fun i => Value.bool (bit hw i)).length = m by simp)
  go_enter Tryd.func8, Tryd.ntmps8
  go_wp2_with fail
  refine (HM.out _ (by exact HW.out.alloc _)).mono ?_
  rintro e w1 ⟨rfl, hb1⟩
  have hx1 := (Blk.new w 28 [.int .i64 Z, .int .i64 n, .int .i64 d, .slice A k c, .int .i64 m, .slice A2 k2 c2]).below hb1 (by simp)
  have q4 : w1.cell? ⟨w.heap.size, 4, none⟩ = some (.int .i64 m) := hx1.cell 4
  have q5 : w1.cell? ⟨w.heap.size, 5, none⟩ = some (.slice A2 k2 c2) := hx1.cell 5
  go_wp2_with fail
  refine (HMB.out _ (by exact (HH.out.alloc _).on hb1)).mono ?_
  rintro e w2 ⟨rfl, hb2⟩
  have hx2 := hx1.below hb2 hx1.lt
  have p4 : w2.cell? ⟨w.heap.size, 4, none⟩ = some (.int .i64 m) := hx2.cell 4
  have p5 : w2.cell? ⟨w.heap.size, 5, none⟩ = some (.slice A2 k2 c2) := hx2.cell 5
  clear q4 q5
  go_wp2_with fail
  refine (HBo.out _ (by exact ((HH.out.alloc _).on hb1).on hb2)).mono ?_
  rintro e w3 ⟨A3, c3, rfl, hle3, hl3, _, _, hb3⟩
  rw [HBL.out] at hle3 ⊢
  have hx3 := hx2.below hb3 hx2.lt
  have HB3 := Lib.hid (chain (chain (chain (bnew _ _) hb1) hb2) hb3)
  have HL3 := Lib.hid hl3
  have hx3l := hx3.lt
  clear hl3 p4 p5 hx1 hx2 hb1 hb2 hb3
  go_wp2
  go_loopw [4, 26] (fun v s w' => ∃ p : Nat, p ≤ m ∧ s = .int .i64 p ∧ w'.ownsRow w3.heap.size 3 1 v (tally (bit hw) p) ((freadI d (numAt lw d) (bit hw) p).map (.int .i64)) ∧ tally (bit hw) p ≤ n ∧ Below w3.heap.size w3 w') (fun _ s _ => m - (intOf s).toNat)
  case atStart => exact ⟨0, Nat.zero_le _, rfl, World.ownsRow_nil _ _ _ _, Nat.zero_le _, Below.refl _ _⟩
  case round =>
    obtain ⟨p, hp, rfl, hown, htn, hbl⟩ := hrel
    have hbA := chain HB3.out hbl
    have hxr := hx3.below hbl hx3l
    have hsz := hbl.size
    obtain ⟨A', c', rfl, hle', hlen', hlies', hnone', hnew'⟩ := own_slice hown
    by_cases hlt : p < m
    · obtain ⟨b, o, x, rfl, hb, hx, hcb⟩ := HL3.out.at_ (k := p) (by rw [List.length_range]; exact hlt)
      rw [List.getElem?_range hlt] at hx
      obtain rfl := Option.some.inj hx
      have hc : wr.cell? ⟨b, o + p, none⟩ = some (.bool (bit hw p)) := (bcell hbl b _ hb).trans hcb
      clear hx hcb
      have hts := tally_succ (bit hw) p
      cases hbit : bit hw p
      · rw [hbit] at hc hts
        have HSK := Lib.hid (freadI_skip d (numAt lw d) (bit hw) p hbit)
        have HTS := Lib.hid (show tally (bit hw) (p + 1) = tally (bit hw) p by rw [hts]; rfl)
        have HOW := Lib.hid hown
        clear hts hbit hown hlies' hlen'
        generalize tally (bit hw) p = t at *
        go_wp2
        go_roundw
        case rel => exact ⟨p + 1, by omega, by go_num, by rw [HSK.out, HTS.out]; exact HOW.out, by rw [HTS.out]; exact htn, hbl⟩
        case measure => simp [intOf]; omega
      · rw [hbit] at hc hts
        have HON := Lib.hid (freadI_one d (numAt lw d) (bit hw) p hbit)
        have HTS := Lib.hid (show tally (bit hw) (p + 1) = tally (bit hw) p + 1 by rw [hts]; rfl)
        have htp := tally_le (bit hw) p
        have HOW := Lib.hid hown
        have q1 : wr.cell? ⟨w.heap.size, 1, none⟩ = some (.int .i64 n) := hxr.cell 1
        have q2 : wr.cell? ⟨w.heap.size, 2, none⟩ = some (.int .i64 d) := hxr.cell 2
        have q3 : wr.cell? ⟨w.heap.size, 3, none⟩ = some (.slice A k c) := hxr.cell 3
        clear hts hlies' hlen'
        by_cases htl : tally (bit hw) p < n
        · have HA1 := Lib.hid (fun W hW => HAi.out (tally (bit hw) p) W hW htl)
          have hnum : numAt lw d (tally (bit hw) p) < 2 ^ d := numAt_lt lw d _
          have hpw := pow62 hd
          have hpi := pow_int2 d (by omega)
          clear hbit
          generalize numAt lw d (tally (bit hw) p) = y at *
          generalize 2 ^ d = pw at *
          generalize htt : tally (bit hw) p = t at *
          clear htt
          have hsub : (p : Int) - (t : Int) = ((p - t : Nat) : Int) := by omega
          have hgb : p - t ≤ 4096 := by omega
          generalize p - t = g at *
          go_wp2_with fail
          refine (HA1.out _ (by exact HW.out.on hbA)).mono ?_
          rintro e w4 ⟨rfl, hb4⟩
          have hx4 := hxr.below hb4 hxr.lt
          have p2 : w4.cell? ⟨w.heap.size, 2, none⟩ = some (.int .i64 d) := hx4.cell 2
          have hown4 := own_on hown hb4
          have hs4 := hb4.size
          go_wp2_with (at_builtin; go_loud (refine append_one _ rfl (.tmp 44) (.tmp 55) 29 rfl w3.heap.size 3 (.int .i64 0) 8 Tryd.underlying29 fint_info rfl (.slice A' t c') t _ rfl (hown4.alloc _) w4.heap.size 1 (.int .i64 (wrap64 (wrap64 ((g : Int) * (pw : Int)) + (y : Int)))) rfl (by simp) rfl (by simp only [maxLen]; omega) (by omega) (by simp; omega) ?_))
          intro v1 w5 hown5 hg5
          have HO5 := Lib.hid hown5
          have HB5 := Lib.hid (show Below w3.heap.size w3 w5 from Below.grown ((hbl.trans (hb4.mono hsz)).alloc (by omega) _) hg5 (by simp; omega) (fun q hq => (hown.lt q hq).1))
          clear hown5 hg5 hown4
          go_wp2
          go_roundw
          case rel => exact ⟨p + 1, by omega, by go_num, by rw [HON.out, HTS.out, List.map_append, List.map_cons, List.map_nil]; exact HO5.out, by rw [HTS.out]; omega, HB5.out⟩
          case measure => simp [intOf]; omega
        · have HA1 := Lib.hid (fun W hW => HAo.out (tally (bit hw) p) W hW (by omega))
          have hmono : tally (bit hw) (p + 1) ≤ tally (bit hw) m := tally_mono _ (by omega)
          have HNo := Lib.hid (fun ns B (he : Enc Z n d lw m hw ns B) => (show False by
            have h1 := enc_place he rfl
            have h2 := he.len
            rw [HTS.out] at hmono
            omega))
          clear hbit hmono
          generalize tally (bit hw) p = t at *
          go_wp2_with fail
          refine (HA1.out _ (by exact HW.out.on hbA)).mono ?_
          rintro e w4 ⟨rfl, hb4⟩
          go_wp2
          go_ret2
          exact .inr ⟨HNo.out, rfl, chain hbA hb4⟩
    · obtain rfl : m = p := by omega
      have q0 : wr.cell? ⟨w.heap.size, 0, none⟩ = some (.int .i64 Z) := hxr.cell 0
      have q1 : wr.cell? ⟨w.heap.size, 1, none⟩ = some (.int .i64 n) := hxr.cell 1
      have HLi := Lib.hid hlies'
      have HFL := Lib.hid (freadI_length d (numAt lw d) (bit hw) m)
      clear hlies' hlen' hnone' hnew' hown hlt hp
      by_cases ht : tally (bit hw) m = n
      · rw [ht] at HFL hle' ⊢
        have HNE := Lib.hid (fun ns B (he : Enc Z n d lw m hw ns B) => enc_doc he rfl rfl)
        have hnn : ((n : Int) != (n : Int)) = false := by simp
        clear ht htn
        generalize hout : freadI d (numAt lw d) (bit hw) m = out at *
        have HOUT := Lib.hid hout
        clear hout
        by_cases hz : Z < 0 ∨ 1048576 < Z
        · have HMk := Lib.hid (fun W => rfmake_bound Z A' n c' W hn hz)
          have HNo := Lib.hid (fun ns B (he : Enc Z n d lw m hw ns B) => (show False by
            have h1 := he.bound
            have h2 := he.hB
            omega))
          clear hz
          go_wp2_with fail
          refine (HMk.out _).mono ?_
          rintro e w4 ⟨rfl, hb4⟩
          go_wp2
          go_ret2
          exact .inr ⟨HNo.out, rfl, chain (chain hbA hb4) (bnew _ _)⟩
        · obtain ⟨B, rfl⟩ := Int.eq_ofNat_of_zero_le (a := Z) (by omega)
          have hB : B ≤ 1048576 := by omega
          clear hz
          by_cases hg : AllGood B out
          · obtain ⟨l, rfl, hR⟩ := allGood_nats hg
            have hln : l.length = n := by rw [← asInts_length, HFL.out]
            have HLN := Lib.hid hln
            have HMk := Lib.hid (fun W hL => rfmake_any B A' l c' W (by rw [hln]; exact hn) hB hL hR)
            unfold MadeFano at HMk
            rw [hln] at HMk
            have HME := Lib.hid (fun ns B' he => enc_made2 (Z := B) (B := B) (n := n) rfl HOUT.out ns B' he)
            have HEn := Lib.hid (fun (h0 : fw n B = d) (h1 : (fhigh B l).length = m) (h3 : packWords (fw n B) (flow (fw n B) l) = lw) (h2 : rowOf (fhigh B l) = hw) => (show Enc B n d lw m hw l B from ⟨rfl, hB, by rw [hln]; exact hn, hR, by rw [hln], by rw [hln, h0], by rw [hln]; exact h3.symm, by rw [h1], h2.symm⟩))
            have HN0 := Lib.hid (fun (h : fw n B ≠ d) ns B' (he : Enc B n d lw m hw ns B') => (show False by
              obtain ⟨rfl, rfl⟩ := HME.out ns B' he
              have h2 := he.wide
              rw [hln] at h2
              exact h (by omega)))
            have HN1 := Lib.hid (fun (h : (fhigh B l).length ≠ m) ns B' (he : Enc B n d lw m hw ns B') => (show False by
              obtain ⟨rfl, rfl⟩ := HME.out ns B' he
              have h2 := he.hlen
              exact h (by omega)))
            have HN2 := Lib.hid (fun (h : packWords (fw n B) (flow (fw n B) l) ≠ lw) ns B' (he : Enc B n d lw m hw ns B') => (show False by
              obtain ⟨rfl, rfl⟩ := HME.out ns B' he
              have h2 := he.low
              rw [hln] at h2
              exact h h2.symm))
            have HN3 := Lib.hid (fun (h : rowOf (fhigh B l) ≠ hw) ns B' (he : Enc B n d lw m hw ns B') => (show False by
              obtain ⟨rfl, rfl⟩ := HME.out ns B' he
              exact h he.high.symm))
            have hhl : (rowOf (fhigh B l)).length ≤ 17592186044416 := by
              have := fhigh_short (ns := l) hB
              rw [rowOf_length]
              rw [hln] at this
              omega
            have hll : (packWords (fw n B) (flow (fw n B) l)).length ≤ 17592186044416 := by
              have h1 := mul_bound (n := n) (d := fw n B) hn (by have := fw_le n B; omega)
              rw [packWords_length, flow_length, hln]
              omega
            clear hg hR hln
            generalize packWords (fw n B) (flow (fw n B) l) = lwF at *
            generalize fw n B = dF at *
            generalize rowOf (fhigh B l) = hwF at *
            generalize (fhigh B l).length = mF at *
            go_wp2_with fail
            refine (HMk.out _ HLi.out).mono ?_
            rintro e w4 ⟨A5, c5, A6, c6, rfl, hW5, hW6, _, _, hb4⟩
            have hx4 := hxr.below hb4 hxr.lt
            have HW5 := Lib.hid hW5
            have HW6 := Lib.hid hW6
            have p2 : w4.cell? ⟨w.heap.size, 2, none⟩ = some (.int .i64 d) := hx4.cell 2
            have p3 : w4.cell? ⟨w.heap.size, 3, none⟩ = some (.slice A k c) := hx4.cell 3
            have p4 : w4.cell? ⟨w.heap.size, 4, none⟩ = some (.int .i64 m) := hx4.cell 4
            have p5 : w4.cell? ⟨w.heap.size, 5, none⟩ = some (.slice A2 k2 c2) := hx4.cell 5
            have hs4 := hx4.lt
            have HBw := Lib.hid (chain hbA hb4)
            have HL4 := Lib.hid (HLi.out.on hb4)
            clear hW5 hW6 q0 q1 hxr hbl hbA hb4 HLi
            by_cases h0 : dF = d
            · have hb0 : ((dF : Int) != (d : Int)) = false := by simp [h0]
              by_cases h1 : mF = m
              · have hbm : ((mF : Int) != (m : Int)) = false := by simp [h1]
                by_cases h2 : lwF = lw
                · have HE := Lib.hid (fun A A' c c' W h1 h3 => sameList_any A A' lwF lw c c' W true hll h1 h3 ⟨fun _ => h2, fun _ => rfl⟩)
                  rw [HK1.out] at HE
                  by_cases h3 : hwF = hw
                  · have HE2 := Lib.hid (fun A A' c c' W h1 h2 => sameList_any A A' hwF hw c c' W true hhl h1 h2 ⟨fun _ => h3, fun _ => rfl⟩)
                    rw [HK2.out] at HE2
                    have HEnc := Lib.hid (HEn.out h0 h1 h2 h3)
                    clear h0 h1 h2 h3
                    go_wp2_with fail
                    refine (HE.out _ _ _ _ _ (by exact HW5.out.alloc _) (by exact (HW.out.on HBw.out).alloc _)).mono ?_
                    rintro e w5 ⟨rfl, hb5⟩
                    have hx5 := (hx4.alloc (.cells #[.int .i64 B, .int .i64 n, .int .i64 dF, .slice A5 lwF.length c5, .int .i64 mF, .slice A6 hwF.length c6] 28)).below hb5 (by simp; omega)
                    have hy5 := (Blk.new w4 28 [.int .i64 B, .int .i64 n, .int .i64 dF, .slice A5 lwF.length c5, .int .i64 mF, .slice A6 hwF.length c6]).below hb5 (by simp)
                    have s5 : w5.cell? ⟨w.heap.size, 5, none⟩ = some (.slice A2 k2 c2) := hx5.cell 5
                    have y5 : w5.cell? ⟨w4.heap.size, 5, none⟩ = some (.slice A6 hwF.length c6) := hy5.cell 5
                    clear hx5 hy5
                    go_wp2_with fail
                    refine (HE2.out _ _ _ _ _ (by exact (HW6.out.alloc _).on hb5) (by exact ((HH.out.on HBw.out).alloc _).on hb5)).mono ?_
                    rintro e w6 ⟨rfl, hb6⟩
                    go_wp2
                    go_ret2
                    exact .inl ⟨l, B, HEnc.out, A', c', by rw [HLN.out]; rfl, by rw [HLN.out]; exact hle', ((HL4.out.alloc _).on hb5).on hb6, chain (chain (chain HBw.out (bnew _ _)) hb5) hb6⟩
                  · have HE2 := Lib.hid (fun A A' c c' W h1 h2 => sameList_any A A' hwF hw c c' W false hhl h1 h2 ⟨(fun e => by cases e), fun e => absurd e h3⟩)
                    rw [HK2.out] at HE2
                    have HNo := Lib.hid (HN3.out h3)
                    clear h0 h1 h2 h3
                    go_wp2_with fail
                    refine (HE.out _ _ _ _ _ (by exact HW5.out.alloc _) (by exact (HW.out.on HBw.out).alloc _)).mono ?_
                    rintro e w5 ⟨rfl, hb5⟩
                    have hx5 := (hx4.alloc (.cells #[.int .i64 B, .int .i64 n, .int .i64 dF, .slice A5 lwF.length c5, .int .i64 mF, .slice A6 hwF.length c6] 28)).below hb5 (by simp; omega)
                    have hy5 := (Blk.new w4 28 [.int .i64 B, .int .i64 n, .int .i64 dF, .slice A5 lwF.length c5, .int .i64 mF, .slice A6 hwF.length c6]).below hb5 (by simp)
                    have s5 : w5.cell? ⟨w.heap.size, 5, none⟩ = some (.slice A2 k2 c2) := hx5.cell 5
                    have y5 : w5.cell? ⟨w4.heap.size, 5, none⟩ = some (.slice A6 hwF.length c6) := hy5.cell 5
                    clear hx5 hy5
                    go_wp2_with fail
                    refine (HE2.out _ _ _ _ _ (by exact (HW6.out.alloc _).on hb5) (by exact ((HH.out.on HBw.out).alloc _).on hb5)).mono ?_
                    rintro e w6 ⟨rfl, hb6⟩
                    go_wp2
                    go_ret2
                    exact .inr ⟨HNo.out, rfl, chain (chain (chain HBw.out (bnew _ _)) hb5) hb6⟩
                · have HE := Lib.hid (fun A A' c c' W h1 h3 => sameList_any A A' lwF lw c c' W false hll h1 h3 ⟨(fun e => by cases e), fun e => absurd e h2⟩)
                  rw [HK1.out] at HE
                  have HNo := Lib.hid (HN2.out h2)
                  clear h0 h1 h2
                  go_wp2_with fail
                  refine (HE.out _ _ _ _ _ (by exact HW5.out.alloc _) (by exact (HW.out.on HBw.out).alloc _)).mono ?_
                  rintro e w5 ⟨rfl, hb5⟩
                  go_wp2
                  go_ret2
                  exact .inr ⟨HNo.out, rfl, chain (chain HBw.out (bnew _ _)) hb5⟩
              · have hbm : ((mF : Int) != (m : Int)) = true := by simp; omega
                have HNo := Lib.hid (HN1.out h1)
                clear h0 h1
                go_wp2
                go_ret2
                exact .inr ⟨HNo.out, rfl, chain HBw.out (bnew _ _)⟩
            · have hb0 : ((dF : Int) != (d : Int)) = true := by simp; omega
              have HNo := Lib.hid (HN0.out h0)
              clear h0
              go_wp2
              go_ret2
              exact .inr ⟨HNo.out, rfl, chain HBw.out (bnew _ _)⟩
          · have HMk := Lib.hid (fun W hL => rfmake_form B A' out c' W (by rw [HFL.out]; exact hn) hB hL hg)
            rw [HFL.out] at HMk
            have HNo := Lib.hid (fun ns B' (he : Enc B n d lw m hw ns B') => (show False by
              have h1 := he.bound
              obtain rfl : B' = B := by omega
              have h2 := enc_doc he rfl rfl
              rw [HOUT.out] at h2
              rw [h2] at hg
              exact hg (rises_good he.rises)))
            clear hg
            go_wp2_with fail
            refine (HMk.out _ HLi.out).mono ?_
            rintro e w4 ⟨rfl, hb4⟩
            go_wp2
            go_ret2
            exact .inr ⟨HNo.out, rfl, chain (chain hbA hb4) (bnew _ _)⟩
      · have HNo := Lib.hid (fun ns B (he : Enc Z n d lw m hw ns B) => (show False by
          have h1 := enc_place he rfl
          have h2 := he.len
          exact ht (by omega)))
        have hnn : (((tally (bit hw) m : Nat) : Int) != (n : Int)) = true := by simp; omega
        clear ht
        generalize tally (bit hw) m = t at *
        go_wp2
        go_ret2
        exact .inr ⟨HNo.out, rfl, hbA⟩

/-- The document's reader, whatever it is asked of. -/
theorem read_any (Z n d : Int) (A : Option Addr) (lw : List Nat) (c : Nat) (m : Int) (A2 : Option Addr) (hw : List Nat) (c2 : Nat) (w : World) (hW : Words64 w w.heap.size A lw) (hH : Words64 w w.heap.size A2 hw) (hk1 : lw.length ≤ 17592186044416) (hk2 : hw.length ≤ 17592186044416) :
    Calls Tryd.prog 8 #[.agg #[.int .i64 Z, .int .i64 n, .int .i64 d, .slice A lw.length c, .int .i64 m, .slice A2 hw.length c2]] w (Elems Z n d lw m hw w) := by
  by_cases hV : ∃ a b : Nat, n = a ∧ d = b ∧ PValid a b lw
  · obtain ⟨a, b, rfl, rfl, hV⟩ := hV
    by_cases hVH : ∃ m' : Nat, m = m' ∧ Valid m' hw
    · obtain ⟨m', rfl, hVH⟩ := hVH
      exact read_main Z a b A lw c m' A2 hw c2 w hV hVH hW hH
    · exact (read_high Z a b A lw c m A2 hw c2 w hV (fun m' h1 h2 => hVH ⟨m', h1, h2⟩) hk2 hW hH).mono fun _ _ h => .inr ⟨no_enc_form fun m' h1 h2 => hVH ⟨m', h1, h2⟩, h⟩
  · refine (read_low Z n d A lw c m A2 hw c2 w (fun a b h1 h2 h3 => hV ⟨a, b, h1, h2, h3⟩) hk1 hW).mono fun _ _ h => .inr ⟨fun ns B' he => ?_, h⟩
    obtain ⟨d', _, e1, _, _, h3, _⟩ := he.parts
    exact hV ⟨_, d', he.len, e1, h3⟩
end Go.Proofs.YtmlekhgjnhnjlaaDoor
