/-
  What the document's ParenText returns: contracts, walked over the translated text. No condition but what each theorem names.
-/
import Derived.Test.YtdpcnbehjgpgeaaParTr
import Derived.Test.YtdpcnbehjgpgeaaParBld
namespace Go.Proofs.Ytdpcnbehjgpgeaa
open Go.RowKit Words

theorem pstr_info : (Try.prog.info? 9).map (fun i => (i.zero, i.size, i.bytes)) = some (some (.string ⟨#[]⟩), 1, 16) := by kernel_rfl

/-- What a call that returns a text and an error leaves. -/
def GivesText (w : World) (s : ByteArray) (r : Int) (e : Ending) (w' : World) : Prop := e = .returned (.tuple #[.string s, .int .i64 r]) ∧ Below w.heap.size w w'
/-- Texts in memory. -/
def textVals (own : List (List Bool)) : List Value := own.map fun l => .string (txtP l)
theorem textVals_get (own : List (List Bool)) (j : Nat) (h : j < own.length) : (textVals own)[j]? = some (.string (txtP (own.getD j []))) := by
  unfold textVals
  rw [List.getElem?_map, List.getD, List.getElem?_eq_getElem h]
  rfl
theorem textVals_set (own : List (List Bool)) (j : Nat) (l : List Bool) : textVals (own.set j l) = (textVals own).set j (.string (txtP l)) := by unfold textVals; rw [List.map_set]
theorem nodeT_txt (own : List (List Bool)) (i : Nat) : ByteArray.mk #[40] ++ txtP (own.getD i []) ++ ByteArray.mk #[41] = txtP (nodeT own i) := by
  have h1 : ByteArray.mk #[40] = txtP [true] := rfl
  have h2 : ByteArray.mk #[41] = txtP [false] := rfl
  rw [h1, h2, txtP_append, txtP_append]
  rfl
theorem getD_get (l : List Int) (i : Nat) (x : Int) (h : l[i]? = some x) : l.getD i 0 = x := by rw [List.getD, h]; rfl

/-- The document's ParenText of too many nodes. -/
theorem rtext_size (A : Option Addr) (n c : Nat) (w : World) (hn : 200 < n) (hb : n ≤ 17592186044416) :
    Calls Try.prog 21 #[.slice A n c] w (GivesText w ⟨#[]⟩ 1) := by
  go_enter Try.func21, Try.ntmps21
  go_wp2_with fail
  go_ret2
  exact ⟨rfl, Below.refl _ _⟩

set_option maxHeartbeats 4000000 in
set_option maxRecDepth 100000 in
/-- The document's ParenText. -/
theorem rtext_any (A : Option Addr) (ps : List Int) (c : Nat) (xs : ByteArray) (r : Int) (w : World) (hn : ps.length ≤ 200) (hwf : ∀ z ∈ ps, (Lit.int .i64 z).wf = true) (hL : Lies w w.heap.size A (ps.map (.int .i64)))
    (hyes : ∀ l, Bal l → treeP l = ps → xs = txtP l ∧ r = 0) (hno : (¬ ∃ l, Bal l ∧ treeP l = ps) → xs = ⟨#[]⟩ ∧ r = 4) :
    Calls Try.prog 21 #[.slice A ps.length c] w (GivesText w xs r) := by
  have HL := Lib.hid hL
  have HY := Lib.hid hyes
  have HN := Lib.hid hno
  have HV := Lib.hid (show (∃ l, Bal l ∧ treeP l = ps) → Valid7 ps from fun ⟨l, _, h⟩ => by rw [← h]; exact treeP_valid)
  have HTr := Lib.hid (fun l W hn hb => rptree_any l W hn hb)
  have HBl := Lib.hid (bst_len ps ps.length)
  have hmk := make_row (P := Try.prog) 58 9 (.string ⟨#[]⟩) 16 Try.underlying58 pstr_info rfl ps.length (by omega) (by omega)
  have HWF := Lib.hid hwf
  clear hL hyes hno hwf
  generalize hnn : ps.length = n at *
  have HNn := Lib.hid hnn
  clear hnn
  go_enter Try.func21, Try.ntmps21
  go_wp2_with fail
  go_loopw [5, 6] (fun v s w' => ∃ k : Nat, k ≤ n ∧ s = .int .i64 ((n : Int) - 1 - k) ∧ v = .string (txtP (bst ps n k).2) ∧ Blk w' w.heap.size 9 (textVals (bst ps n k).1) ∧ Below w.heap.size w w' ∧ (∀ i, n - k ≤ i → i < n → -1 ≤ ps.getD i 0 ∧ ps.getD i 0 < (i : Int)) ∧ Built n k (bst ps n k)) (fun _ s _ => (intOf s + 1).toNat)
  case atStart =>
    refine ⟨0, Nat.zero_le _, by congr 1; omega, rfl, ?_, bnew _ _, (fun i h1 h2 => by omega), Built.start n⟩
    show Blk _ _ _ (textVals (List.replicate n []))
    unfold textVals
    rw [List.map_replicate]
    exact zeros_blk w (.string ⟨#[]⟩) n 9
  case round =>
    obtain ⟨k, hk, rfl, rfl, hB, hbl, hval, hbu⟩ := hrel
    have HVal := Lib.hid hval
    have HBU := Lib.hid hbu
    have hc1 := bcell hbl
    clear hval
    by_cases hlt : k < n
    · obtain ⟨i, hi⟩ : ∃ i, n = i + 1 + k := ⟨n - 1 - k, by omega⟩
      have hiI : (n : Int) - 1 - (k : Int) = (i : Int) := by omega
      rw [hiI]
      obtain ⟨b, o, x, rfl, hb, hx, hcx⟩ := HL.out.at_ (k := i) (by rw [HNn.out]; omega)
      have hwx := bounds_i64 (HWF.out x (List.mem_of_getElem? hx))
      have HX := Lib.hid (getD_get ps i x hx)
      have hcx1 := (hc1 b (o + i) hb).trans hcx
      have hin : (i : Int) < (n : Int) := by omega
      clear hx hcx hc1
      by_cases hbad : x < -1 ∨ (i : Int) ≤ x
      · have hres : xs = ⟨#[]⟩ ∧ r = 4 := HN.out fun ht => by
          have h1 := HV.out ht i (by rw [HNn.out]; omega)
          rw [HX.out] at h1
          omega
        obtain ⟨rfl, rfl⟩ := hres
        clear hB hbu
        have hcs : x < -1 ∨ (decide (x < -1) = false ∧ (i : Int) ≤ x) := by
          by_cases h : x < -1
          · exact .inl h
          · exact .inr ⟨by simpa using h, by omega⟩
        clear hbad
        generalize txtP (bst ps n k).2 = S2 at *
        rcases hcs with h1 | ⟨h1, h2⟩
        all_goals
          go_wp2_with fail
          go_ret2
          exact ⟨rfl, hbl⟩
      · have hd1 : decide (x < -1) = false := by simp; omega
        have hd2 : decide ((i : Int) ≤ x) = false := by simp; omega
        have HBst := Lib.hid (show bst ps n (k + 1) = bstep ps i (bst ps n k) by rw [bst, show n - 1 - k = i by omega])
        have HBs := Lib.hid (show Built n (k + 1) (bstep ps i (bst ps n k)) from hbu.step hi ps (by rw [HX.out]; omega) (by rw [HX.out]; omega))
        have hlen := hbu.len
        have hci : wr.cell? ⟨w.heap.size, i, none⟩ = some (.string (txtP ((bst ps n k).1.getD i []))) := by rw [hB.cell]; exact textVals_get _ _ (by omega)
        have hs1 : (txtP ((bst ps n k).1.getD i [])).size ≤ 400 := by rw [txtP_size]; have := hbu.own_le (j := i) (by omega); omega
        have hs2 : (txtP (bst ps n k).2).size ≤ 400 := by rw [txtP_size]; have := hbu.out_le; omega
        have HNT := Lib.hid (nodeT_txt (bst ps n k).1 i)
        have HValS := Lib.hid (show ∀ j, n - (k + 1) ≤ j → j < n → -1 ≤ ps.getD j 0 ∧ ps.getD j 0 < (j : Int) from fun j h1 h2 => by
          by_cases e : j = i
          · subst e; rw [HX.out]; omega
          · exact HVal.out j (by omega) h2)
        have HI7 := Lib.hid hi
        clear hbad HVal
        by_cases hneg : x < 0
        · have HOut := Lib.hid (show bstep ps i (bst ps n k) = ((bst ps n k).1, nodeT (bst ps n k).1 i ++ (bst ps n k).2) by unfold bstep; rw [HX.out, if_pos hneg])
          have HTA := Lib.hid (txtP_append (nodeT (bst ps n k).1 i) (bst ps n k).2)
          have HB := Lib.hid hB
          clear hB hbu hlen
          generalize (bst ps n k) = st at *
          generalize txtP (st.1.getD i []) = S1 at *
          generalize txtP st.2 = S2 at *
          go_wp2_with fail
          go_roundw
          case rel => exact ⟨k + 1, by omega, by congr 1; have := HI7.out; omega, by rw [HBst.out, HOut.out]; show _ = Value.string (txtP (nodeT st.1 i ++ st.2)); rw [← HTA.out, ← HNT.out], by rw [HBst.out, HOut.out]; exact HB.out, hbl, HValS.out, by rw [HBst.out]; exact HBs.out⟩
          case measure => first | (simp [intOf]; omega) | simp [intOf]
        · obtain ⟨p, rfl⟩ := Int.eq_ofNat_of_zero_le (a := x) (by omega)
          have hpi : p < i := by
            have := hd2
            simp at this
            omega
          have HOut := Lib.hid (show bstep ps i (bst ps n k) = ((bst ps n k).1.set p (nodeT (bst ps n k).1 i ++ (bst ps n k).1.getD p []), (bst ps n k).2) by unfold bstep; rw [HX.out, if_neg hneg, Int.toNat_natCast])
          have HTA := Lib.hid (txtP_append (nodeT (bst ps n k).1 i) ((bst ps n k).1.getD p []))
          have hcp : wr.cell? ⟨w.heap.size, p, none⟩ = some (.string (txtP ((bst ps n k).1.getD p []))) := by rw [hB.cell]; exact textVals_get _ _ (by omega)
          have hs3 : (txtP ((bst ps n k).1.getD p [])).size ≤ 400 := by rw [txtP_size]; have := hbu.own_le (j := p) (by omega); omega
          have hfp := hB.frozen p
          have hpn : (p : Int) < (n : Int) := by omega
          have HPut := Lib.hid (fun u => hB.put p (.string u))
          clear hB hbu hlen hd2
          have hd2 : decide (i ≤ p) = false := by simp; omega
          generalize (bst ps n k) = st at *
          generalize txtP (st.1.getD i []) = S1 at *
          generalize hS3 : txtP (st.1.getD p []) = S3 at *
          clear hS3
          generalize hS2 : txtP st.2 = S2 at *
          have HS2 := Lib.hid hS2
          clear hS2
          go_wp2_with fail
          go_roundw
          case rel => exact ⟨k + 1, by omega, by congr 1; have := HI7.out; omega, by rw [HBst.out, HOut.out, ← HS2.out], by rw [HBst.out, HOut.out]; show Blk _ _ _ (textVals (st.1.set p (nodeT st.1 i ++ st.1.getD p []))); rw [textVals_set, ← HTA.out, ← HNT.out]; exact HPut.out _, hbl.setCell (Nat.le_refl _) _, HValS.out, by rw [HBst.out]; exact HBs.out⟩
          case measure => first | (simp [intOf]; omega) | simp [intOf]
    · obtain rfl : k = n := by omega
      have hz : (k : Int) - 1 - (k : Int) = -1 := by omega
      rw [hz]
      have hbal := hbu.out
      have hdone := hbu.done
      have hlen2 := hbal.two
      have HValid := Lib.hid (show Valid7 ps from fun i hi => HVal.out i (by omega) (by rw [HNn.out] at hi; exact hi))
      have HTb := Lib.hid (fun W => HTr.out (bst ps k k).2 W (by omega) hbal)
      have HTl := Lib.hid (show (treeP (bst ps k k).2).length = k by rw [treeP_length]; exact hdone)
      have HBack := Lib.hid (show ∀ l, Bal l → treeP l = ps → (bst ps k k).2 = l from fun l hl ht => by
        have e : oc l = k := by
          have := congrArg List.length ht
          rw [treeP_length, HNn.out] at this
          exact this
        rw [← ht, ← e]
        exact bst_tree hl)
      have HBal := Lib.hid hbal
      clear hB hbu hbal hc1
      generalize hbb : (bst ps k k).2 = b2 at *
      clear hbb
      go_wp2_with fail
      refine (HTb.out _).mono ?_
      rintro e w2 ⟨A2, c2, rfl, hl2, _, hb2⟩
      have HL2 := Lib.hid hl2
      have HL1 := Lib.hid (HL.out.on (chain hbl hb2))
      have hB2 := chain hbl hb2
      clear hl2 hbl hb2
      rw [HTl.out]
      by_cases hT : treeP b2 = ps
      · obtain ⟨rfl, rfl⟩ := HY.out b2 HBal.out hT
        rw [hT] at HL2
        clear hT
        generalize txtP b2 = S2 at *
        go_wp2_with fail
        go_loopw [63] (fun s w' => ∃ j d : Nat, j ≤ k ∧ s = .int .i64 j ∧ w' = w2.drewN d) (fun s _ => k - (intOf s).toNat)
        case atStart => exact ⟨0, 0, Nat.zero_le _, rfl, rfl⟩
        case round =>
          obtain ⟨j, d, hj, rfl, rfl⟩ := hrel
          by_cases hjk : j < k
          · obtain ⟨b, o, x, rfl, hb, hx, hc⟩ := HL1.out.at_ (k := j) (by rw [HNn.out]; exact hjk)
            obtain ⟨b5, o5, x5, rfl, hb5, hx5, hc5⟩ := HL2.out.at_ (k := j) (by rw [HNn.out]; exact hjk)
            rw [hx] at hx5
            obtain rfl := Option.some.inj hx5
            clear hx hx5
            have hne : (x != x) = false := by simp
            have hjI : (j : Int) < (k : Int) := by omega
            go_wp2_with fail
            go_quiet (fail)
            go_wp2_with fail
            go_roundw
            case rel => exact ⟨j + 1, _, by omega, by go_num, by first | rfl | (simp only [World.drewN_drewN]; rfl)⟩
            case measure => simp [intOf]; omega
          · go_wp2_with fail
            go_ret2
            exact ⟨rfl, bdN hB2 _⟩
      · have hres : xs = ⟨#[]⟩ ∧ r = 4 := HN.out fun ⟨l, hl, ht⟩ => hT (by rw [HBack.out l hl ht]; exact ht)
        obtain ⟨rfl, rfl⟩ := hres
        have HTT := Lib.hid hT
        clear hT
        generalize hS2 : txtP b2 = S2 at *
        clear hS2
        go_wp2_with fail
        go_loopw [63] (fun s w' => ∃ j d : Nat, j ≤ k ∧ s = .int .i64 j ∧ w' = w2.drewN d ∧ ∀ q, q < j → (treeP b2)[q]? = ps[q]?) (fun s _ => k - (intOf s).toNat)
        case atStart => exact ⟨0, 0, Nat.zero_le _, rfl, rfl, fun q hq => by omega⟩
        case round =>
          obtain ⟨j, d, hj, rfl, rfl, hq⟩ := hrel
          have HQ := Lib.hid hq
          clear hq
          by_cases hjk : j < k
          · obtain ⟨b, o, x, rfl, hb, hx, hc⟩ := HL1.out.at_ (k := j) (by rw [HNn.out]; exact hjk)
            obtain ⟨b5, o5, x5, rfl, hb5, hx5, hc5⟩ := HL2.out.at_ (k := j) (by rw [HTl.out]; exact hjk)
            have hjI : (j : Int) < (k : Int) := by omega
            by_cases hxx : x5 = x
            · subst hxx
              have HX2 := Lib.hid (hx5.trans hx.symm)
              clear hx hx5
              have hne : (x5 != x5) = false := by simp
              go_wp2_with fail
              go_quiet (fail)
              go_wp2_with fail
              go_roundw
              case rel => exact ⟨j + 1, _, by omega, by go_num, by first | rfl | (simp only [World.drewN_drewN]; rfl), fun q hq => by
                by_cases e : q = j
                · rw [e]; exact HX2.out
                · exact HQ.out q (by omega)⟩
              case measure => simp [intOf]; omega
            · have hne : (x5 != x) = true := by simpa using hxx
              clear hx hx5 hxx
              go_wp2_with fail
              go_quiet (fail)
              go_wp2_with fail
              go_ret2
              exact ⟨rfl, by first | exact bdN hB2 _ | exact bdN (bdN hB2 _) _⟩
          · obtain rfl : j = k := by omega
            exact absurd (List.ext_getElem? fun q => by
              by_cases hq : q < j
              · exact HQ.out q hq
              · rw [List.getElem?_eq_none (by rw [HTl.out]; omega), List.getElem?_eq_none (by rw [HNn.out]; omega)]) HTT.out
end Go.Proofs.Ytdpcnbehjgpgeaa
