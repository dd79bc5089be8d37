/-
  What the document's answer to gam.Encode returns: contracts, walked over the translated text. No condition but what each theorem names.
-/
import Derived.Test.YtelcnkmgdohigaaGamTxt
import Derived.Test.YtelcnkmgdohigaaGamEnc
import Derived.Test.YtelcnkmgdohigaaRefMk
import Derived.Lib.OthersKept
import Derived.Laws.RangeString
import Derived.Laws.RangeAny
namespace Go.Proofs.Ytelcnkmgdohigaa
open Go.RowKit Words

theorem own_on {w w' : World} {base : Nat} {e : TypeId} {size : Nat} {v : Value} {n : Nat} {xs : List Value} (h : w.ownsRow base e size v n xs) (hb : Below w.heap.size w w') : w'.ownsRow base e size v n xs :=
  h.kept (row := none) ⟨hb.os, hb.tape, hb.output, hb.size, fun k hk _ => hb.block k hk⟩ (by rcases Option.eq_none_or_eq_some v.ownBlock with h | ⟨q, h⟩ <;> simp [h])

/-- The row of a call is no iterator. -/
theorem own_iter {w : World} {base : Nat} {e : TypeId} {size : Nat} {v : Value} {n : Nat} {xs : List Value} (h : w.ownsRow base e size v n xs) {k : Nat} {S : ByteArray} {p : Nat} (hk : w.heap[k]? = some (.stringIter S p)) : v.ownBlock ≠ some k := by
  rcases h.2 with ⟨rfl, _⟩ | ⟨g, cap, cur, rfl, _, hg, _⟩
  · simp [Value.ownBlock]
  · intro e
    simp [Value.ownBlock] at e
    subst e
    rw [hk] at hg
    cases hg

theorem grown_iterAt (w : World) (k : Nat) (S : ByteArray) (p : Nat) : w.grownBy (w.iterAt k S p) (some k) :=
  ⟨rfl, rfl, rfl, by simp [World.iterAt], fun i _ hne => Lib.iterAt_other w k i S p (fun e => hne (by rw [e]))⟩

theorem txt_at (l : List Bool) (p : Nat) (b : Bool) (h : l[p]? = some b) (hp : p < (txt l).size) : ((txt l)[p]'hp).toNat = if b then 49 else 48 := by
  have hp2 : p < l.length := by rw [txt_size] at hp; exact hp
  rw [List.getElem?_eq_getElem hp2] at h
  have h' := Option.some.inj h
  have e : (txt l)[p]'hp = if l[p] then (49 : UInt8) else 48 := by
    show ((l.map fun b => if b then (49 : UInt8) else 48).toArray)[p]'(by simpa using hp2) = _
    rw [List.getElem_toArray, List.getElem_map]
  rw [e, h']
  cases b <;> rfl

/-- The document's Encode of an unknown kind. -/
theorem renc_kind (k : Int) (A : Option Addr) (n c : Nat) (w : World) (hk : ¬ (k = 1 ∨ k = 2)) : Calls Try.prog 10 #[.int .i64 k, .slice A n c] w (NoBits w 3) := by
  have e1 : (k != 1) = true := by simp; omega
  have e2 : (k != 2) = true := by simp; omega
  clear hk
  go_enter Try.func10, Try.ntmps10
  go_wp2
  exact bodyPost_ret (v := .tuple #[.agg #[.int .i64 0, .slice none 0 0], .int .i64 3]) (by simp [results, Try.results10, go_sem]) rfl ⟨rfl, bnew _ _⟩

/-- The document's Encode of too many numbers. -/
theorem renc_size (k : Int) (A : Option Addr) (n c : Nat) (w : World) (hk : k = 1 ∨ k = 2) (h : 300 < n) (hn : n ≤ 9223372036854775807) : Calls Try.prog 10 #[.int .i64 k, .slice A n c] w (NoBits w 1) := by
  rcases hk with rfl | rfl
  all_goals
    go_enter Try.func10, Try.ntmps10
    go_wp2
    exact bodyPost_ret (v := .tuple #[.agg #[.int .i64 0, .slice none 0 0], .int .i64 1]) (by simp [results, Try.results10, go_sem]) rfl ⟨rfl, bnew _ _⟩

set_option maxHeartbeats 4000000 in
/-- The document's Encode. -/
theorem renc_any (k : Nat) (A : Option Addr) (l : List Int) (c : Nat) (w : World) (hk : k = 1 ∨ k = 2) (h : l.length ≤ 300) (hL : Lies w w.heap.size A (l.map (.int .i64))) :
    Calls Try.prog 10 #[.int .i64 k, .slice A l.length c] w (Encodes k l w) := by
  have HL := Lib.hid hL
  have HTX := Lib.hid (fun n W h0 hn => text_any k n W hk h0 hn)
  have HMk := Lib.hid rmake_any
  have hkn : (((k : Int) != 1) = true ∧ ((k : Int) != 2) = false) ∨ ((k : Int) != 1) = false := by
    rcases hk with rfl | rfl
    · exact .inr rfl
    · exact .inl ⟨rfl, rfl⟩
  clear hL hk
  generalize hn : l.length = n at *
  have HN := Lib.hid hn
  clear hn
  have hd : decide (300 < (n : Int)) = false := by simp; omega
  have hkn2 : ∀ P : Prop, (((k : Int) != 1) = true → ((k : Int) != 2) = false → P) → (((k : Int) != 1) = false → P) → P := fun P f g => by
    rcases hkn with ⟨a, b⟩ | a
    · exact f a b
    · exact g a
  apply hkn2
  all_goals clear hkn hkn2
  all_goals intros
  all_goals
    go_enter Try.func10, Try.ntmps10
    go_wp2
    go_loopw [6, 24] (fun v i w' => ∃ j : Nat, j ≤ n ∧ i = .int .i64 j ∧ (∀ i z, i < j → l[i]? = some z → Codes z) ∧ w'.ownsRow (w.heap.size + 1) 4 1 v (codes k (natsI (l.take j))).length ((codes k (natsI (l.take j))).map .bool) ∧ Below (w.heap.size + 1) (w.alloc (.cells #[.int .i64 0, .slice none 0 0] 25)) w') (fun _ i _ => n - (intOf i).toNat)
    case atStart => exact ⟨0, Nat.zero_le _, rfl, fun i z hi => by omega, World.ownsRow_nil _ _ _ _, Below.refl _ _⟩
    case round =>
      obtain ⟨j, hj, rfl, hgood, hown, hbl⟩ := hrel
      have HG := Lib.hid hgood
      have hbnd := natsI_bound k (codes_before hgood)
      have hsz := hbl.size
      simp only [World.alloc, Array.size_push] at hsz
      have hbox : Blk wr w.heap.size 25 [.int .i64 0, .slice none 0 0] := (Blk.new w 25 [.int .i64 0, .slice none 0 0]).below hbl (by omega)
      have hq0 : wr.cell? ⟨w.heap.size, 0, none⟩ = some (.int .i64 0) := hbox.cell 0
      have hq1 : wr.cell? ⟨w.heap.size, 1, none⟩ = some (.slice none 0 0) := hbox.cell 1
      have hf0 := hbox.frozen 0
      have hf1 := hbox.frozen 1
      have hbnd2 : (codes k (natsI (l.take j))).length ≤ 12300 := by
        rw [List.length_take] at hbnd
        omega
      have HB := Lib.hid ((bnew w (.cells #[.int .i64 0, .slice none 0 0] 25)).trans (hbl.mono (by omega)))
      clear hgood hbnd
      by_cases hlt : j < n
      · obtain ⟨b, o, z, rfl, hb, hx, hc0⟩ := HL.out.at_ (k := j) (by rw [HN.out]; exact hlt)
        have hc : wr.cell? ⟨b, o + j, none⟩ = some (.int .i64 z) := (bcell hbl b (o + j) (by omega)).trans ((World.cell?_alloc_lt w _ ⟨b, o + j, none⟩ hb).trans hc0)
        have HX := Lib.hid hx
        clear hx hc0
        by_cases hz : Codes z
        · have HZ := Lib.hid hz
          obtain ⟨z0, z1⟩ := hz
          obtain ⟨y, rfl⟩ := Int.eq_ofNat_of_zero_le (a := z) (by omega)
          have HT := Lib.hid (show codes k (natsI (l.take (j + 1))) = codes k (natsI (l.take j)) ++ codeOf k y by rw [natsI_take l j y HX.out, codes_snoc])
          have HTY := Lib.hid (HTX.out y wr (by omega) (by omega))
          have hcb := costOf_bound k (n := y) (by omega) (by omega)
          have hcl := codeOf_length k (n := y) (by omega) (by omega)
          rw [← hcl] at hcb
          clear hcl
          have d1 : decide ((y : Int) < 1) = false := by simp; omega
          have d2 : decide (1048576 < (y : Int)) = false := by simp; omega
          generalize codeOf k y = cy at *
          generalize codes k (natsI (l.take j)) = cs at *
          go_wp2_with fail
          refine HTY.out.mono ?_
          rintro e w1 ⟨rfl, hb1⟩
          have hown1 := own_on hown hb1
          have hb1' : Below (w.heap.size + 1) (w.alloc (.cells #[.int .i64 0, .slice none 0 0] 25)) w1 := hbl.trans (hb1.mono hsz)
          have hs1 : w.heap.size + 1 ≤ w1.heap.size := Nat.le_trans hsz hb1.size
          have HO1 := Lib.hid hown1
          have HB1 := Lib.hid hb1'
          clear hown hbl hb1 hb1' hown1 HTY hc hq0 hq1 hf0 hf1 hbox HB
          have hts := txt_size cy
          go_wp2
          go_loopw [6] (fun v w' => ∃ p : Nat, p ≤ cy.length ∧ w'.heap[w1.heap.size]? = some (.stringIter (txt cy) p) ∧ w'.ownsRow (w.heap.size + 1) 4 1 v (cs.length + p) ((cs ++ cy.take p).map .bool) ∧ Below (w.heap.size + 1) (w.alloc (.cells #[.int .i64 0, .slice none 0 0] 25)) w') (fun _ w' => cy.length - w'.iterPos w1.heap.size)
          case atStart => exact ⟨0, Nat.zero_le _, World.iter_heap _ _ _, by simpa using (show (w1.iter (txt cy) 0).ownsRow (w.heap.size + 1) 4 1 u6 cs.length (cs.map .bool) from HO1.out.alloc _), HB1.out.alloc (by omega) _⟩
          case round =>
            obtain ⟨p, hp, hit, hown2, hbl2⟩ := hrel
            have hltw : w1.heap.size < wr.heap.size := (Array.getElem?_eq_some_iff.1 hit).1
            by_cases hlt2 : p < cy.length
            · have hps : p < (txt cy).size := by rw [hts]; exact hlt2
              obtain ⟨x, hx⟩ : ∃ x, cy[p]? = some x := ⟨_, List.getElem?_eq_getElem hlt2⟩
              have hta := txt_at cy p x hx hps
              have HY := Lib.hid (show cy.take (p + 1) = cy.take p ++ [x] by rw [List.take_add_one, hx]; rfl)
              have hnx : ∀ ty, (Instr.next (.pointer (some ⟨w1.heap.size, 0, none⟩)) true ty).run Try.prog wr = _ := fun ty => Lib.run_next_ascii_at wr w1.heap.size (txt cy) p ty hit hps (by rw [hta]; cases x <;> decide)
              rw [hta] at hnx
              have hit3 := Lib.iterAt_heap wr w1.heap.size (txt cy) p (p + 1) hit
              have hown3 := hown2.kept (grown_iterAt wr w1.heap.size (txt cy) (p + 1)) (.inr (own_iter hown2 hit))
              have hbl3 := Lib.below_iterAt hbl2 hs1 (txt cy) (p + 1)
              have hsz3 : (wr.iterAt w1.heap.size (txt cy) (p + 1)).heap.size = wr.heap.size := Lib.iterAt_size _ _ _ _
              have hs3a : w1.heap.size < (wr.iterAt w1.heap.size (txt cy) (p + 1)).heap.size := by rw [hsz3]; exact hltw
              have hs3b : w.heap.size + 1 ≤ (wr.iterAt w1.heap.size (txt cy) (p + 1)).heap.size := by omega
              have HI := Lib.hid hit
              have hrx : (((if x = true then 49 else 48 : Nat) : Int) == 49) = x := by cases x <;> rfl
              clear hta hx hit hsz3
              generalize (if x = true then 49 else 48 : Nat) = r at *
              generalize hww : wr.iterAt w1.heap.size (txt cy) (p + 1) = w3 at *
              clear hww
              go_wp2_with (at_builtin; go_loud (refine append_one _ rfl (.tmp 42) (.tmp 45) 46 rfl (w.heap.size + 1) 4 (.bool false) 1 Try.underlying46 flag_info rfl u6 (cs.length + p) _ rfl (hown3.alloc _) w3.heap.size 1 (.bool x) rfl (by simp) rfl (by simp only [maxLen]; omega) (by omega) (by simp; omega) ?_))
              intro v1 w4 hown4 hg4
              have hit4 : w4.heap[w1.heap.size]? = some (.stringIter (txt cy) (p + 1)) := (hg4.block _ (by simp; omega) (fun e => own_iter hown3 hit3 e.symm)).trans ((Below.heap_alloc w3 _ _ (by omega)).trans hit3)
              go_wp2
              go_roundw
              case rel => exact ⟨p + 1, by omega, hit4, by rw [HY.out]; simpa [Nat.add_assoc] using hown4, (hbl3.alloc (by omega) _).grown hg4 (by simp; omega) (fun q hq => (hown3.lt q hq).1)⟩
              case measure => simp [World.iterPos, HI.out, hit4]; omega
            · obtain rfl : p = cy.length := by omega
              have hnx : ∀ ty, (Instr.next (.pointer (some ⟨w1.heap.size, 0, none⟩)) true ty).run Try.prog wr = _ := fun ty => Lib.run_next_end_at wr w1.heap.size (txt cy) cy.length ty hit (by rw [hts]; omega)
              rw [List.take_length] at hown2
              go_wp2
              go_roundw
              case rel =>
                refine ⟨j + 1, by omega, by go_num, fun i x hi hx => ?_, by rw [HT.out, List.length_append]; exact hown2, hbl2⟩
                by_cases e : i = j
                · subst e
                  rw [HX.out] at hx
                  rw [← Option.some.inj hx]
                  exact HZ.out
                · exact HG.out i x (by omega) hx
              case measure => simp [intOf]; omega
        · have HZ := Lib.hid hz
          have hh : z < 1 ∨ (¬ z < 1 ∧ 1048576 < z) := by unfold Codes at hz; omega
          clear hz
          rcases hh with d1 | ⟨d1, d2⟩
          all_goals
            go_wp2
            refine bodyPost_ret (v := .tuple #[.agg #[.int .i64 0, .slice none 0 0], .int .i64 2]) (by simp [results, Try.results10, go_sem, hq0, hq1]) rfl ?_
            exact .inl ⟨⟨z, List.mem_of_getElem? HX.out, HZ.out⟩, rfl, (HB.out.setCell (Nat.le_refl _) _).setCell (Nat.le_refl _) _⟩
      · obtain rfl : j = n := by omega
        have hall := codes_all (l := l) (n := j) (by rw [HN.out]; omega) HG.out
        have HAll := Lib.hid hall
        have htk : l.take j = l := List.take_of_length_le (by rw [HN.out]; omega)
        rw [htk] at hown hbnd2
        clear hall htk
        generalize hcs : codes k (natsI l) = cs at *
        have HCS := Lib.hid hcs
        clear hcs
        obtain ⟨A', c', rfl, hle1, hlen1, hlies, hnone1, hnew1⟩ := own_slice hown
        by_cases hfull : 4096 < cs.length
        · go_wp2
          refine bodyPost_ret (v := .tuple #[.agg #[.int .i64 0, .slice none 0 0], .int .i64 9]) (by simp [results, Try.results10, go_sem, hq0, hq1]) rfl ?_
          exact .inr (.inl ⟨HAll.out, by rw [HCS.out]; exact hfull, rfl, (HB.out.setCell (Nat.le_refl _) _).setCell (Nat.le_refl _) _⟩)
        · have HM := Lib.hid (HMk.out A' cs c' wr (by omega) hlies)
          go_wp2_with fail
          refine HM.out.mono ?_
          rintro e w2 ⟨A2, c2, rfl, hW2, hn2, hb2⟩
          have hbox2 := hbox.below hb2 hbox.lt
          have HW2 := Lib.hid hW2
          clear hW2 hq0 hq1 hf0 hf1
          have hq0 : w2.cell? ⟨w.heap.size, 0, none⟩ = some (.int .i64 0) := hbox2.cell 0
          have hq1 : w2.cell? ⟨w.heap.size, 1, none⟩ = some (.slice none 0 0) := hbox2.cell 1
          have hf0 := hbox2.frozen 0
          have hf1 := hbox2.frozen 1
          go_wp2
          refine bodyPost_ret (v := .tuple #[.agg #[.int .i64 cs.length, .slice A2 (rowOf cs).length c2], .int .i64 0]) (by simp [results, Try.results10, go_sem, hq0, hq1]) rfl ?_
          refine .inr (.inr ⟨HAll.out, by rw [HCS.out]; omega, ?_⟩)
          rw [HCS.out]
          refine ⟨A2, c2, rfl, ?_, hn2.mono (by omega), ((chain HB.out hb2).setCell (Nat.le_refl _) _).setCell (Nat.le_refl _) _⟩
          exact ⟨by simpa using (HW2.out.1.setCell hn2 (p := ⟨w.heap.size, 0, none⟩) (by exact hbox.lt) (.int .i64 cs.length)).setCell hn2 (p := ⟨w.heap.size, 1, none⟩) (by exact hbox.lt) (.slice A2 (rowOf cs).length c2), HW2.out.2⟩
end Go.Proofs.Ytelcnkmgdohigaa
