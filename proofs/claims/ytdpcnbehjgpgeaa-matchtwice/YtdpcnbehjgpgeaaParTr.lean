/-
  What the document's ParenTree returns: contracts, walked over the translated text. No condition but what each theorem names.
-/
import Derived.Test.YtdpcnbehjgpgeaaParAsk
import Derived.Test.YtdpcnbehjgpgeaaSameI
namespace Go.Proofs.Ytdpcnbehjgpgeaa
open Go.RowKit Words

theorem pint_info : (Try.prog.info? 3).map (fun i => (i.zero, i.size, i.bytes)) = some (some (.int .i64 0), 1, 8) := by kernel_rfl

/-- What a call that returns a list and no error leaves; what it leaves where it fails. -/
def GivesList (w : World) (P : List Int) (e : Ending) (w' : World) : Prop := ∃ A c, e = .returned (.tuple #[.slice A P.length c, .int .i64 0]) ∧ Lies w' w'.heap.size A (P.map (.int .i64)) ∧ (A = none → c = 0) ∧ Below w.heap.size w w'
def NoList (w : World) (r : Int) (e : Ending) (w' : World) : Prop := e = .returned (.tuple #[.slice none 0 0, .int .i64 r]) ∧ Below w.heap.size w w'

theorem parP_none {l : List Bool} {a : Nat} (h : enc l a = none) : parP l a = -1 := by unfold parP; rw [h]
theorem parP_some {l : List Bool} {a k : Nat} (h : enc l a = some k) : parP l a = (cntO l k : Nat) := by unfold parP; rw [h]
theorem asInts_nat (l : List Nat) (i x : Nat) (h : l[i]? = some x) : (asInts l)[i]? = some (x : Int) := by unfold asInts; rw [List.getElem?_map, h]; rfl

/-- The document's ParenTree of a text that is not balanced, or too long. -/
theorem rptree_fault (bs : ByteArray) (r : Int) (w : World) (hr : r ≠ 0) (h : ∀ W, Calls Try.prog 12 #[.string bs] W fun e w' => e = .returned (.int .i64 r) ∧ W = w') :
    Calls Try.prog 18 #[.string bs] w (NoList w r) := by
  have H := Lib.hid h
  have hne : (r != 0) = true := by simpa using hr
  clear h hr
  go_enter Try.func18, Try.ntmps18
  go_wp2_with (go_at_call 12; refine (H.out _).mono ?_; rintro e w1 ⟨rfl, rfl⟩)
  go_ret2
  exact ⟨rfl, Below.refl _ _⟩

set_option maxHeartbeats 4000000 in
/-- The document's ParenTree. -/
theorem rptree_any (l : List Bool) (w : World) (hn : l.length ≤ 400) (hb : Bal l) :
    Calls Try.prog 18 #[.string (txtP l)] w (GivesList w (treeP l)) := by
  have H := Lib.hid (fun W => rfault_ok hn hb W)
  have HE := Lib.hid (fun a b (hc : IsClose l a b) W => renc_any l a a b W hn hb hc (.inl rfl))
  have HCl := Lib.hid (fun k (h : l[k]? = some true) => hb.close h)
  have hsz := txtP_size l
  have HAt := Lib.hid (fun k b (h1 : l[k]? = some b) (h2 : k < (txtP l).size) => txtP_at h1 h2)
  have HEk := Lib.hid (fun a k (ha : l[a]? = some true) (h : enc l a = some k) => ((enc_iff (Nat.le_of_lt (get_lt ha))).1 h).opens)
  have HTL := Lib.hid (treeP_length l)
  have HOL := Lib.hid (opens_length l)
  have hN := cntO_le l l.length
  clear hb
  generalize txtP l = bs at *
  go_enter Try.func18, Try.ntmps18
  go_wp2_with (go_at_call 12; refine (H.out _).mono ?_; rintro e w1 ⟨rfl, rfl⟩)
  go_loopw [5, 6] (fun v s w' => ∃ i : Nat, i ≤ l.length ∧ s = .int .i64 i ∧ w'.ownsRow w.heap.size 3 1 v (cntO l i) ((asInts (opensTo l i)).map (.int .i64)) ∧ Below w.heap.size w w') (fun _ s _ => l.length - (intOf s).toNat)
  case atStart => exact ⟨0, Nat.zero_le _, rfl, World.ownsRow_nil _ _ _ _, Below.refl _ _⟩
  case round =>
    obtain ⟨i, hi, rfl, hown, hbl⟩ := hrel
    have hsb := hbl.size
    have hci := cntO_le l i
    by_cases hlt : i < l.length
    · have hil : i < bs.size := by omega
      have hiI : (i : Int) < (bs.size : Int) := by omega
      rcases get_or hlt with hb | hb
      · have hbi : (bs[i]'hil).toNat = 40 := HAt.out i true hb hil
        have HU := Lib.hid (opensTo_up hb)
        have HCU := Lib.hid (cntO_up hb)
        clear hb
        go_wp2_with (at_builtin; go_loud (refine append_one _ rfl (.tmp 30) (.tmp 32) 28 rfl w.heap.size 3 (.int .i64 0) 8 Try.underlying28 pint_info rfl u5 (cntO l i) _ rfl (hown.alloc _) wr.heap.size 1 (.int .i64 i) rfl (by simp) rfl (by simp only [maxLen]; omega) (by omega) (by simp; omega) ?_))
        intro v2 w2 hown2 hg2
        go_wp2_with fail
        go_roundw
        case rel => exact ⟨i + 1, by omega, by go_num, by rw [HU.out, HCU.out]; unfold asInts; rw [List.map_append, List.map_append]; exact hown2, (hbl.alloc hsb _).grown hg2 (by simp; omega) (fun q hq => (hown.lt q hq).1)⟩
        case measure => simp [intOf]; omega
      · have hbi : (bs[i]'hil).toNat = 41 := HAt.out i false hb hil
        have HU := Lib.hid (opensTo_no (l := l) (i := i) (by rw [hb]; simp))
        have HCU := Lib.hid (cntO_no (l := l) (i := i) (by rw [hb]; simp))
        clear hb
        go_wp2_with fail
        go_roundw
        case rel => exact ⟨i + 1, by omega, by go_num, by rw [HU.out, HCU.out]; exact hown, hbl⟩
        case measure => simp [intOf]; omega
    · obtain rfl : i = l.length := by omega
      obtain ⟨A1, c1, rfl, _, _, hl1, _, _⟩ := own_slice hown
      have HL1 := Lib.hid hl1
      have HBL := Lib.hid hbl
      clear hown hl1 hbl
      generalize cntO l l.length = N at *
      obtain ⟨W1, hW1⟩ : ∃ W1, W1 = wr := ⟨_, rfl⟩
      subst hW1
      go_wp2_with fail
      go_loopw [7, 36] (fun v s w' => ∃ m : Nat, m ≤ N ∧ s = .int .i64 m ∧ w'.ownsRow W1.heap.size 3 1 v m (((treeP l).take m).map (.int .i64)) ∧ Below W1.heap.size W1 w') (fun _ s _ => N - (intOf s).toNat)
      case atStart => exact ⟨0, Nat.zero_le _, rfl, World.ownsRow_nil _ _ _ _, Below.refl _ _⟩
      case round =>
        obtain ⟨m, hm, rfl, hown, hbl⟩ := hrel
        have hsb2 := hbl.size
        by_cases hlt2 : m < N
        · -- the node's place
          have hget : (opens l)[m]? = some ((opens l).getD m 0) := by rw [List.getD, List.getElem?_eq_getElem (show m < (opens l).length by rw [HOL.out]; exact hlt2)]; rfl
          have HTk := Lib.hid (show (treeP l).take (m + 1) = (treeP l).take m ++ [parP l ((opens l).getD m 0)] by rw [List.take_add_one, treeP_get hget]; rfl)
          have hop := ((opens_get l _ _).1 hget).1
          generalize (opens l).getD m 0 = a at *
          obtain ⟨b, hc⟩ := HCl.out a hop
          have HEa := Lib.hid (fun W => HE.out a b hc W)
          obtain ⟨b1, o1, x, rfl, hb1, hx, hcell⟩ := HL1.out.at_ (k := m) (by rw [asInts_length]; show m < (opens l).length; rw [HOL.out]; exact hlt2)
          obtain rfl : x = (a : Nat) := by
            have := asInts_nat (opens l) m a hget
            unfold opens at this
            rw [hx] at this
            exact Option.some.inj this
          have hcm := (bcell hbl b1 (o1 + m) hb1).trans hcell
          have HCs := Lib.hid (show ∀ j y, (opens l)[j]? = some y → wr.cell? ⟨b1, o1 + j, none⟩ = some (.int .i64 (y : Nat)) from fun j y hy => by
            obtain ⟨b2, o2, z, e2, _, hz, hc2⟩ := HL1.out.at_ (k := j) (by rw [asInts_length]; exact get_lt hy)
            obtain ⟨rfl, rfl⟩ : b2 = b1 ∧ o2 = o1 := by injection e2 with e2; injection e2 with e2 e3; exact ⟨e2.symm, e3.symm⟩
            have := asInts_nat (opens l) j y hy
            unfold opens at this
            rw [hz] at this
            obtain rfl := Option.some.inj this
            exact (bcell hbl _ _ hb1).trans hc2)
          have hmN : (m : Int) < (N : Int) := by omega
          have hal := get_lt hop
          cases hen : enc l a with
          | none =>
            have e1 : encV l a = 0 := by unfold encV; rw [hen]
            have e2 : encE l a = 7 := by unfold encE; rw [hen]
            rw [parP_none hen] at HTk
            rw [e1, e2] at HEa
            clear e1 e2 hen hcell hx hget hc hop HCs
            go_wp2_with fail
            refine (HEa.out _).mono ?_
            rintro e w2 ⟨rfl, d, rfl⟩
            have hown1 : (wr.drewN d).ownsRow W1.heap.size 3 1 u7 m (((treeP l).take m).map (.int .i64)) := hown
            have hbl1 := bdN hbl d
            have hsb3 := hbl1.size
            clear hown hbl hcm hsb2
            generalize wr.drewN d = W2 at *
            go_wp2_with (at_builtin; go_loud (refine append_one _ rfl (.tmp 60) (.tmp 62) 28 rfl W1.heap.size 3 (.int .i64 0) 8 Try.underlying28 pint_info rfl u7 m _ rfl (hown1.alloc _) W2.heap.size 1 (.int .i64 (-1)) rfl (by simp) rfl (by simp only [maxLen]; omega) (by omega) (by simp; omega) ?_))
            intro v4 w4 hown4 hg4
            go_wp2_with fail
            go_roundw
            case rel => exact ⟨m + 1, by omega, by go_num, by rw [HTk.out, List.map_append, List.map_cons, List.map_nil]; first | exact hown4 | (rw [List.map_take]; exact hown4), (hbl1.alloc hsb3 _).grown hg4 (by simp; omega) (fun q hq => (hown1.lt q hq).1)⟩
            case measure => simp [intOf]; omega
          | some k =>
            have e1 : encV l a = (k : Nat) := by unfold encV; rw [hen]
            have e2 : encE l a = 0 := by unfold encE; rw [hen]
            rw [parP_some hen] at HTk
            rw [e1, e2] at HEa
            have hko := HEk.out a k hop hen
            have hkN : (opens l)[cntO l k]? = some k := (opens_get l _ _).2 ⟨hko, rfl⟩
            have hkn : cntO l k < N := by rw [← HOL.out]; exact get_lt hkN
            have HKU := Lib.hid (show ∀ j, (opens l)[j]? = some k → j = cntO l k from fun j hj => ((opens_get l _ _).1 hj).2.symm)
            have HGet := Lib.hid (show ∀ j, j < N → ∃ y : Nat, (opens l)[j]? = some y from fun j hj => ⟨_, List.getElem?_eq_getElem (show j < (opens l).length by rw [HOL.out]; exact hj)⟩)
            have hkl := get_lt hko
            have HKN := Lib.hid hkN
            clear e1 e2 hen hcell hx hget hc hop hko hkN
            generalize cntO l k = kn at *
            go_wp2_with fail
            refine (HEa.out _).mono ?_
            rintro e w2 ⟨rfl, d, rfl⟩
            have hown1 : (wr.drewN d).ownsRow W1.heap.size 3 1 u7 m (((treeP l).take m).map (.int .i64)) := hown
            have hbl1 := bdN hbl d
            have hsb3 := hbl1.size
            have HC2 := Lib.hid (show ∀ j y, (opens l)[j]? = some y → (wr.drewN d).cell? ⟨b1, o1 + j, none⟩ = some (.int .i64 (y : Nat)) from HCs.out)
            clear hown hbl hcm hsb2 HCs
            generalize wr.drewN d = W2 at *
            go_wp2_with fail
            go_loopw [10, 50] (fun p s w' => ∃ j : Nat, j ≤ N ∧ s = .int .i64 j ∧ p = .int .i64 (if kn < j then (kn : Int) else -1) ∧ w' = W2) (fun _ s _ => N - (intOf s).toNat)
            case atStart => exact ⟨0, Nat.zero_le _, rfl, rfl, rfl⟩
            case round =>
              obtain ⟨j, hj, rfl, rfl, rfl⟩ := hrel
              by_cases hlt3 : j < N
              · obtain ⟨y, hy⟩ := HGet.out j hlt3
                have hcj := HC2.out j y hy
                have hjN : (j : Int) < (N : Int) := by omega
                by_cases hjk : j = kn
                · subst hjk
                  obtain rfl : k = y := by
                    have := HKN.out
                    rw [hy] at this
                    exact (Option.some.inj this).symm
                  have hyy : ((k : Int) == (k : Int)) = true := by simp
                  have HIF := Lib.hid (show (if j < j + 1 then (j : Int) else -1) = (j : Int) by rw [if_pos (by omega)])
                  generalize (if j < j then (j : Int) else -1) = p0 at *
                  clear hy
                  go_wp2_with fail
                  go_roundw
                  case rel => exact ⟨j + 1, by omega, by go_num, by rw [HIF.out], by trivial⟩
                  case measure => simp [intOf]; omega
                · have hyk : ((y : Int) == (k : Int)) = false := by
                    rw [beq_eq_false_iff_ne]
                    intro e
                    obtain rfl : y = k := by omega
                    exact hjk (HKU.out j hy)
                  have HIF := Lib.hid (show (if kn < j + 1 then (kn : Int) else -1) = (if kn < j then (kn : Int) else -1) by
                    by_cases h : kn < j
                    · rw [if_pos h, if_pos (by omega)]
                    · rw [if_neg h, if_neg (by omega)])
                  generalize hp0 : (if kn < j then (kn : Int) else -1) = p0 at *
                  clear hy hjk hp0
                  go_wp2_with fail
                  go_roundw
                  case rel => exact ⟨j + 1, by omega, by go_num, by rw [HIF.out], by trivial⟩
                  case measure => simp [intOf]; omega
              · obtain rfl : j = N := by omega
                rw [if_pos hkn]
                go_wp2_with (at_builtin; go_loud (refine append_one _ rfl (.tmp 60) (.tmp 62) 28 rfl W1.heap.size 3 (.int .i64 0) 8 Try.underlying28 pint_info rfl u7 m _ rfl (hown1.alloc _) wr.heap.size 1 (.int .i64 kn) rfl (by simp) rfl (by simp only [maxLen]; omega) (by omega) (by simp; omega) ?_))
                intro v4 w4 hown4 hg4
                go_wp2_with fail
                go_roundw
                case rel => exact ⟨m + 1, by omega, by go_num, by rw [HTk.out, List.map_append, List.map_cons, List.map_nil]; first | exact hown4 | (rw [List.map_take]; exact hown4), (hbl1.alloc hsb3 _).grown hg4 (by simp; omega) (fun q hq => (hown1.lt q hq).1)⟩
                case measure => simp [intOf]; omega
        · obtain rfl : m = N := by omega
          rw [List.take_of_length_le (by rw [HTL.out]; exact Nat.le_refl _)] at hown
          obtain ⟨A4, c4, rfl, _, _, hl4, hn4, _⟩ := own_slice hown
          have HL4 := Lib.hid hl4
          have HBL2 := Lib.hid (chain HBL.out hbl)
          clear hl4 hown hbl
          go_wp2_with fail
          go_ret2
          exact ⟨A4, c4, by rw [HTL.out]; rfl, HL4.out, hn4, HBL2.out⟩
end Go.Proofs.Ytdpcnbehjgpgeaa
