/-
  What the document's answer to gam.Decode returns: contracts, walked over the translated text. No condition but what each theorem names.
-/
import Derived.Test.YtelcnkmgdohigaaGamNx
namespace Go.Proofs.Ytelcnkmgdohigaa
open Go.RowKit Words

/-- The document's Decode of an unknown kind. -/
theorem rdec_kind (k n : Int) (A : Option Addr) (q c : Nat) (w : World) (hk : ¬ (k = 1 ∨ k = 2)) : Calls Try.prog 13 #[.int .i64 k, .agg #[.int .i64 n, .slice A q c]] w (GivesInts w ([], 3)) := by
  have e1 : (k != 1) = true := by simp; omega
  have e2 : (k != 2) = true := by simp; omega
  clear hk
  go_enter Try.func13, Try.ntmps13
  go_wp2
  go_ret2
  exact gives_none (bnew _ _)

/-- The document's Decode of what is not valid. -/
theorem rdec_form (k n : Int) (A : Option Addr) (ws : List Nat) (c : Nat) (w : World) (hk : k = 1 ∨ k = 2) (hV : ∀ m : Nat, n = m → ¬ Valid m ws) (hlen : ws.length ≤ 17592186044416) (hW : Words64 w w.heap.size A ws) :
    Calls Try.prog 13 #[.int .i64 k, .agg #[.int .i64 n, .slice A ws.length c]] w (GivesInts w ([], 4)) := by
  have HM := Lib.hid (fun W (h : Words64 W W.heap.size A ws) => rmay_no n A ws c W hV hlen h)
  have HW := Lib.hid hW
  clear hV hW hlen
  rcases hk with rfl | rfl
  all_goals
    go_enter Try.func13, Try.ntmps13
    go_wp2_with fail
    refine (HM.out _ (by exact HW.out.alloc _)).mono ?_
    rintro e w1 ⟨rfl, hb1⟩
    go_wp2
    go_ret2
    exact gives_none (chain (bnew _ _) hb1)

/-- The length of a slice. -/
def lenOf : Value → Nat
  | .slice _ n _ => n
  | _ => 0

theorem decA_stepR {k f : Nat} {l : List Bool} {acc : List Nat} {R : List Nat × Nat} (h : decA k f l acc = R) (hl : l.length ≤ f) (hne : l ≠ []) :
    ((numR k l).2.1 = 0 → ∃ f', decA k f' (numR k l).2.2 (acc ++ [(numR k l).1]) = R ∧ (numR k l).2.2.length ≤ f') ∧ ((numR k l).2.1 ≠ 0 → R = ([], (numR k l).2.1)) := by
  obtain ⟨f', rfl⟩ : ∃ f', f = f' + 1 := ⟨f - 1, by
    have : 0 < l.length := List.length_pos_iff.2 hne
    omega⟩
  rw [decA, if_neg hne] at h
  refine ⟨fun he => ?_, fun he => ?_⟩
  · rw [if_neg (by simpa using he)] at h
    have := numR_len he
    exact ⟨f', h, by omega⟩
  · rw [if_pos he] at h
    exact h.symm

theorem numR_small {k : Nat} {l : List Bool} : (numR k l).1 ≤ 1048576 := by
  unfold numR
  split
  · exact Nat.zero_le _
  · split
    · exact Nat.zero_le _
    · rename_i h; omega

set_option maxHeartbeats 4000000 in
/-- The document's Decode. -/
theorem rdec_any (kind m : Nat) (A : Option Addr) (ws : List Nat) (c : Nat) (w : World) (hk : kind = 1 ∨ kind = 2) (hV : Valid m ws) (hW : Words64 w w.heap.size A ws) :
    Calls Try.prog 13 #[.int .i64 kind, .agg #[.int .i64 m, .slice A ws.length c]] w (GivesInts w (decoded kind (rowBits m ws))) := by
  have HM := Lib.hid (fun W (h : Words64 W W.heap.size A ws) => rmay_yes m A ws c W hV h)
  have HBo := Lib.hid (fun W (h : Words64 W W.heap.size A ws) => bools_any m A ws c W hV h)
  have HNx := Lib.hid (fun b o l c W hc hl hR => next_any kind b o l c W hk hc hl hR)
  have HW := Lib.hid hW
  have hm := hV.hi
  have HLen := Lib.hid (rowBits_length m ws)
  rw [show ((List.range m).map fun i => Value.bool (bit ws i)) = (rowBits m ws).map .bool by unfold rowBits; rw [List.map_map]; rfl] at HBo
  have hkn : ∀ P : Prop, (((kind : Int) != 1) = true → ((kind : Int) != 2) = false → P) → (((kind : Int) != 1) = false → P) → P := fun P f g => by
    rcases hk with rfl | rfl
    · exact g rfl
    · exact f rfl rfl
  clear hk hV hW
  generalize ws.length = k at *
  generalize rowBits m ws = L at *
  apply hkn
  all_goals clear hkn
  all_goals intros
  all_goals
    go_enter Try.func13, Try.ntmps13
    go_wp2_with fail
    refine (HM.out _ (by exact HW.out.alloc _)).mono ?_
    rintro e w1 ⟨rfl, hb1⟩
    have hbox : Blk w1 w.heap.size 25 [.int .i64 m, .slice A k c] := (Blk.new w 25 [.int .i64 m, .slice A k c]).below hb1 (by simp)
    have q0 : w1.cell? ⟨w.heap.size, 0, none⟩ = some (.int .i64 m) := hbox.cell 0
    have q1 : w1.cell? ⟨w.heap.size, 1, none⟩ = some (.slice A k c) := hbox.cell 1
    have HB1 := Lib.hid (chain (bnew _ _) hb1)
    have HW1 := Lib.hid ((HW.out.alloc _).on hb1)
    clear hb1
    go_wp2_with fail
    refine (HBo.out _ HW1.out).mono ?_
    rintro e w2 ⟨A2, c2, rfl, hle2, hlies2, _, _, hb2⟩
    have HL2 := Lib.hid hlies2
    have HB2 := Lib.hid (chain HB1.out hb2)
    rw [List.length_map] at hle2 ⊢
    clear hlies2 hb2 hbox q0 q1 HM HBo HB1 HW1 HW
    go_wp2_with fail
    generalize hB0 : w2.heap.size = B0 at *
    have HB0 := Lib.hid hB0
    clear hB0
    go_loopw [6, 7] (fun v s w' => ∃ (lc : List Bool) (f c' : Nat) (A' : Option Addr) (acc : List Nat), s = .slice A' lc.length c' ∧ lc.length ≤ c' ∧ lc.length + acc.length ≤ m ∧ Lies w' B0 A' (lc.map .bool) ∧ w'.ownsRow B0 3 1 v acc.length (acc.map fun n : Nat => .int .i64 (n : Int)) ∧ decA kind f lc acc = decA kind L.length L [] ∧ lc.length ≤ f ∧ Below B0 w2 w') (fun _ s _ => lenOf s)
    case atStart => exact ⟨L, L.length, c2, A2, [], rfl, hle2, by rw [HLen.out]; exact Nat.le_refl _, HL2.out, World.ownsRow_nil _ _ _ _, rfl, Nat.le_refl _, Below.refl _ _⟩
    case round =>
      obtain ⟨lc, f, c', A', acc, rfl, hlc, hlm, hlies, hown, hdec, hf, hbl⟩ := hrel
      have hs : B0 ≤ wr.heap.size := by rw [← HB0.out]; exact hbl.size
      have HD := Lib.hid hdec
      have HBL := Lib.hid hbl
      clear hdec
      by_cases hl0 : 0 < lc.length
      · have hne : lc ≠ [] := List.length_pos_iff.1 hl0
        obtain ⟨b, o, rfl, hb, hcells⟩ := hlies (by simpa using hne)
        have hRow : BRow wr b o lc := fun j x hx => hcells j (.bool x) (by rw [List.getElem?_map, hx]; rfl)
        have HC := Lib.hid (HNx.out b o lc c' wr hlc (by omega) hRow)
        obtain ⟨hS, hE⟩ := decA_stepR HD.out hf hne
        have HS := Lib.hid hS
        have HE := Lib.hid hE
        have hsm := numR_small (k := kind) (l := lc)
        have HLn := Lib.hid (fun he => numR_len (k := kind) (l := lc) he)
        clear hS hE hne hcells hRow hlies hbl
        generalize numR kind lc = T at *
        obtain ⟨n, er, R⟩ := T
        simp only at HS HE hsm HLn
        generalize hlcl : lc.length = q at *
        by_cases he : er = 0
        · subst he
          obtain ⟨f', hd', hl'⟩ := HS.out rfl
          have HD2 := Lib.hid hd'
          have HL' := Lib.hid hl'
          have hln := HLn.out rfl
          clear hd' hl'
          go_wp2_with fail
          refine HC.out.mono ?_
          rintro e w3 ⟨⟨d, hw3⟩, ⟨hx, _⟩ | ⟨_, o2, s2, rfl, hrs, hRow2⟩⟩
          · exact absurd rfl hx
          have hown3 : w3.ownsRow B0 3 1 u6 acc.length (acc.map fun n : Nat => .int .i64 (n : Int)) := by rw [hw3]; exact hown
          have hs3 : B0 ≤ w3.heap.size := by rw [hw3]; exact hs
          have HBL3 := Lib.hid (show Below B0 w2 w3 by rw [hw3]; exact bdN HBL.out d)
          clear hw3 hown
          have HRow2 := Lib.hid hRow2
          simp only at hrs ⊢
          clear hRow2
          generalize hRl : R.length = r at *
          go_wp2_with (at_builtin; go_loud (refine append_one _ rfl (.tmp 35) (.tmp 37) 22 rfl B0 3 (.int .i64 0) 8 Try.underlying22 num_info rfl u6 acc.length _ rfl (hown3.alloc _) w3.heap.size 1 (.int .i64 n) rfl (by simp) rfl (by simp only [maxLen]; omega) (by omega) (by simp; omega) ?_))
          intro v1 w4 hown4 hg4
          have hbl4 : Below B0 w2 w4 := (HBL3.out.alloc hs3 _).grown hg4 (by simp; omega) (fun q hq => (hown3.lt q hq).1)
          have hl4 : Lies w4 B0 (some ⟨b, o2, none⟩) (R.map .bool) := fun _ => ⟨b, o2, rfl, hb, fun j v hv => by
            rw [List.getElem?_map] at hv
            cases hx : R[j]? with
            | none => rw [hx] at hv; cases hv
            | some x =>
              rw [hx] at hv
              obtain rfl := Option.some.inj hv
              have h1 := HRow2.out j x hx
              have h2 : w4.cell? ⟨b, o2 + j, none⟩ = wr.cell? ⟨b, o2 + j, none⟩ := (hbl4.cell (p := ⟨b, o2 + j, none⟩) hb).trans (HBL.out.cell (p := ⟨b, o2 + j, none⟩) hb).symm
              exact h2.trans h1⟩
          go_wp2
          go_roundw
          case rel => exact ⟨R, f', s2, some ⟨b, o2, none⟩, acc ++ [n], by rw [hRl], by rw [hRl]; exact hrs, by rw [hRl]; simp; omega, hl4, by simpa using hown4, HD2.out, by have := HL'.out; rw [hRl]; exact this, hbl4⟩
          case measure => simp [lenOf]; omega
        · have HR := Lib.hid (decoded_err (HE.out he) he)
          have hne : ((er : Int) != 0) = true := by simp; omega
          go_wp2_with fail
          refine HC.out.mono ?_
          rintro e w3 ⟨⟨d, rfl⟩, ⟨_, rfl⟩ | ⟨hx, _⟩⟩
          · go_wp2
            go_ret2
            rw [HR.out]
            exact gives_none (bdN (HB2.out.trans (HBL.out.mono (by rw [← HB0.out]; exact HB2.out.size))) d)
          · exact absurd hx he
      · obtain rfl : lc = [] := List.eq_nil_of_length_eq_zero (by omega)
        have HR := Lib.hid (decoded_end (decA_nil HD.out))
        obtain ⟨A3, c3, rfl, hle3, hlen3, hlies3, hnone3, hnew3⟩ := own_slice hown
        have HLies := Lib.hid hlies3
        clear hlies3 HD hlies
        simp only [List.length_nil] at hlm hlc hl0
        by_cases hfull : 300 < acc.length
        · rw [if_pos hfull] at HR
          go_wp2
          go_ret2
          rw [HR.out]
          exact gives_none (HB2.out.trans (HBL.out.mono (by rw [← HB0.out]; exact HB2.out.size)))
        · rw [if_neg hfull] at HR
          go_wp2
          go_ret2
          rw [HR.out]
          exact ⟨A3, c3, rfl, hle3, hnone3, HLies.out, HB2.out.trans (HBL.out.mono (by rw [← HB0.out]; exact HB2.out.size))⟩
end Go.Proofs.Ytelcnkmgdohigaa
