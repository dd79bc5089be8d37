/-
  What gam.Decode returns: contracts, walked over the translated text. No condition but what each theorem names.
-/
import Derived.Test.YtelcnkmgdohigaaGamRd
namespace Go.Proofs.Ytelcnkmgdohigaa
open Go.RowKit Words

/-- What a call leaves that returns numbers and an error. -/
def GivesInts (w : World) (R : List Nat × Nat) (e : Ending) (w' : World) : Prop :=
  ∃ A c, e = .returned (.tuple #[.slice A R.1.length c, .int .i64 R.2]) ∧ R.1.length ≤ c ∧ (A = none → c = 0) ∧ Lies w' w'.heap.size A (R.1.map fun n : Nat => .int .i64 (n : Int)) ∧ Below w.heap.size w w'

theorem gives_none {w w' : World} {x : Nat} (hb : Below w.heap.size w w') : GivesInts w ([], x) (.returned (.tuple #[.slice none 0 0, .int .i64 x])) w' := ⟨none, 0, rfl, Nat.le_refl _, fun _ => rfl, Lies.nil, hb⟩

/-- The place at which a reader stands. -/
def posOf (w : World) (g : Nat) : Nat := match w.cell? ⟨g, 2, none⟩ with | some (.int _ i) => i.toNat | _ => 0
theorem posOf_blk {w : World} {g : Nat} {t : TypeId} {m : Nat} {A : Option Addr} {k c p : Nat} (h : Blk w g t (rbox m A k c p)) : posOf w g = p := by
  have : w.cell? ⟨g, 2, none⟩ = some (.int .i64 p) := h.cell 2
  unfold posOf
  rw [this]
  simp

/-- gam.Decode of an unknown kind. -/
theorem dec_kind (k n : Int) (A : Option Addr) (q c : Nat) (w : World) (hk : ¬ (k = 1 ∨ k = 2)) : Calls Try.prog 12 #[.int .i64 k, .agg #[.int .i64 n, .slice A q c]] w (GivesInts w ([], 3)) := by
  have HK := Lib.hid (known_any k)
  rw [show decide (k = 1 ∨ k = 2) = false by simpa using hk] at HK
  clear hk
  go_enter Try.func12, Try.ntmps12
  go_wp2_with (go_at_call 23; refine (HK.out _).mono ?_; rintro e w' ⟨rfl, rfl⟩)
  go_ret2
  exact gives_none (bnew _ _)

/-- gam.Decode of what is not valid. -/
theorem dec_form (k n : Int) (A : Option Addr) (ws : List Nat) (c : Nat) (w : World) (hk : k = 1 ∨ k = 2) (hV : ∀ m : Nat, n = m → ¬ Valid m ws) (hW : Words64 w w.heap.size A ws) :
    Calls Try.prog 12 #[.int .i64 k, .agg #[.int .i64 n, .slice A ws.length c]] w (GivesInts w ([], 4)) := by
  have HK := Lib.hid (known_any k)
  rw [show decide (k = 1 ∨ k = 2) = true by simpa using hk] at HK
  have HM := Lib.hid (fun W (h : Words64 W W.heap.size A ws) => may_no n A ws c W hV h)
  have HW := Lib.hid hW
  clear hk hV hW
  go_enter Try.func12, Try.ntmps12
  go_wp2_with fail
  refine (HK.out _).mono ?_
  rintro e w' ⟨rfl, rfl⟩
  go_wp2_with fail
  refine (HM.out _ (by exact HW.out.alloc _)).mono ?_
  rintro e w1 ⟨rfl, hb1⟩
  go_wp2
  go_ret2
  exact gives_none (chain (bnew _ _) hb1)

theorem decA_step {k f : Nat} {l : List Bool} {acc : List Nat} {R : List Nat × Nat} (h : decA k f l acc = R) (hl : l.length ≤ f) (hne : l ≠ []) (he : (number k l).2.1 = 0) (hn : (number k l).1 ≤ 1048576) :
    ∃ f', decA k f' (number k l).2.2 (acc ++ [(number k l).1]) = R ∧ (number k l).2.2.length ≤ f' := by
  have hlen := number_len he
  obtain ⟨f', rfl⟩ : ∃ f', f = f' + 1 := ⟨f - 1, by
    have : 0 < l.length := List.length_pos_iff.2 hne
    omega⟩
  have e : numR k l = number k l := by
    unfold numR
    rw [if_neg (by simpa using he), if_neg (by omega)]
  rw [decA, if_neg hne, e, if_neg (by simpa using he)] at h
  exact ⟨f', h, by omega⟩
theorem decA_err {k f : Nat} {l : List Bool} {acc : List Nat} {R : List Nat × Nat} (h : decA k f l acc = R) (hl : l.length ≤ f) (hne : l ≠ []) (he : (number k l).2.1 ≠ 0) : R = ([], (number k l).2.1) := by
  obtain ⟨f', rfl⟩ : ∃ f', f = f' + 1 := ⟨f - 1, by
    have : 0 < l.length := List.length_pos_iff.2 hne
    omega⟩
  have e : numR k l = (0, (number k l).2.1, []) := by
    unfold numR
    rw [if_pos he]
  rw [decA, if_neg hne, e] at h
  simp only at h
  rw [if_pos he] at h
  exact h.symm
theorem decA_great {k f : Nat} {l : List Bool} {acc : List Nat} {R : List Nat × Nat} (h : decA k f l acc = R) (hl : l.length ≤ f) (hne : l ≠ []) (he : (number k l).2.1 = 0) (hn : 1048576 < (number k l).1) : R = ([], 2) := by
  obtain ⟨f', rfl⟩ : ∃ f', f = f' + 1 := ⟨f - 1, by
    have : 0 < l.length := List.length_pos_iff.2 hne
    omega⟩
  have e : numR k l = (0, 2, []) := by
    unfold numR
    rw [if_neg (by simpa using he), if_pos hn]
  rw [decA, if_neg hne, e] at h
  simp only at h
  rw [if_pos (by decide)] at h
  exact h.symm
theorem decA_nil {k f : Nat} {acc : List Nat} {R : List Nat × Nat} (h : decA k f [] acc = R) : R = (acc, 0) := by
  cases f with
  | zero => exact h.symm
  | succ f => rw [decA, if_pos rfl] at h; exact h.symm
theorem decoded_err {k : Nat} {L : List Bool} {x : Nat} (h : decA k L.length L [] = ([], x)) (hx : x ≠ 0) : decoded k L = ([], x) := by
  unfold decoded
  rw [h, if_pos hx]
theorem decoded_end {k : Nat} {L : List Bool} {acc : List Nat} (h : decA k L.length L [] = (acc, 0)) : decoded k L = if 300 < acc.length then ([], 1) else (acc, 0) := by
  unfold decoded
  rw [h, if_neg (by simp)]

set_option maxHeartbeats 4000000 in
/-- gam.Decode. -/
theorem dec_any (kind m : Nat) (A : Option Addr) (ws : List Nat) (c : Nat) (w : World) (hk : kind = 1 ∨ kind = 2) (hV : Valid m ws) (hW : Words64 w w.heap.size A ws) :
    Calls Try.prog 12 #[.int .i64 kind, .agg #[.int .i64 m, .slice A ws.length c]] w (GivesInts w (decoded kind (rowBits m ws))) := by
  have HK := Lib.hid (known_any (kind : Int))
  rw [show decide ((kind : Int) = 1 ∨ (kind : Int) = 2) = true by simp only [decide_eq_true_eq]; omega] at HK
  have HM := Lib.hid (fun W (h : Words64 W W.heap.size A ws) => may_yes m A ws c W hV h)
  have HN := Lib.hid (fun g p W hB hW hp => rnum_any g m p kind A ws c W hk hV hB hW hp)
  have HW := Lib.hid hW
  have hm := hV.hi
  have HLen := Lib.hid (rowBits_length m ws)
  clear hk hV hW
  generalize ws.length = k at *
  generalize rowBits m ws = L at *
  go_enter Try.func12, Try.ntmps12
  go_wp2_with fail
  refine (HK.out _).mono ?_
  rintro e w' ⟨rfl, rfl⟩
  go_wp2_with fail
  refine (HM.out _ (by exact HW.out.alloc _)).mono ?_
  rintro e w1 ⟨rfl, hb1⟩
  have hs1 := hb1.size
  simp only [World.alloc, Array.size_push] at hs1
  have hbox : Blk w1 w.heap.size 25 [.int .i64 m, .slice A k c] := (Blk.new w 25 [.int .i64 m, .slice A k c]).below hb1 (by simp)
  have q0 : w1.cell? ⟨w.heap.size, 0, none⟩ = some (.int .i64 m) := hbox.cell 0
  have q1 : w1.cell? ⟨w.heap.size, 1, none⟩ = some (.slice A k c) := hbox.cell 1
  have HB1 := Lib.hid (chain (bnew _ _) hb1)
  have HW1 := Lib.hid ((HW.out.alloc _).on hb1)
  have hlt1 := hbox.lt
  clear hb1
  go_wp2_with fail
  generalize hgw : w1.heap.size = g at *
  have HGW := Lib.hid hgw
  clear hgw
  have hB0 : Blk (w1.alloc (.cells #[.int .i64 m, .slice A k c, .int .i64 0] 53)) g 53 (rbox m A k c 0) := by rw [← HGW.out]; exact Blk.new w1 53 (rbox m A k c 0)
  have HB0 := Lib.hid hB0
  clear hB0
  go_loopw [6] (fun v w' => ∃ (p f : Nat) (acc : List Nat), p ≤ m ∧ acc.length ≤ p ∧ Blk w' g 53 (rbox m A k c p) ∧ w'.ownsRow (g + 1) 3 1 v acc.length (acc.map fun n : Nat => .int .i64 (n : Int)) ∧ decA kind f (L.drop p) acc = decA kind L.length L [] ∧ m - p ≤ f ∧ Below g w1 w') (fun _ w' => m - posOf w' g)
  case atStart => exact ⟨0, m, [], Nat.zero_le _, Nat.le_refl _, HB0.out, World.ownsRow_nil _ _ _ _, by rw [HLen.out]; rfl, by omega, (Below.refl _ _).alloc (by rw [HGW.out]; exact Nat.le_refl _) _⟩
  case round =>
    obtain ⟨p, f, acc, hp, hap, hB, hown, hdec, hf, hbl⟩ := hrel
    have hs := hB.lt
    have r2 : wr.cell? ⟨g, 2, none⟩ = some (.int .i64 p) := hB.cell 2
    have b0 : wr.cell? ⟨w.heap.size, 0, none⟩ = some (.int .i64 m) := (bcell hbl _ _ hlt1).trans q0
    have HD := Lib.hid hdec
    have HBL := Lib.hid hbl
    have HPos := Lib.hid (posOf_blk hB)
    clear hdec
    have hdl : (L.drop p).length = m - p := by rw [List.length_drop, HLen.out]
    by_cases hpm : p < m
    · have HC := Lib.hid (HN.out g p wr hB ⟨HW1.out.1.below hbl, HW1.out.2⟩ hp)
      have hne : L.drop p ≠ [] := fun e => by rw [e] at hdl; simp at hdl; omega
      have HS := Lib.hid (fun he hn => decA_step HD.out (by rw [hdl]; exact hf) hne (k := kind) he hn)
      have HE := Lib.hid (fun he => decA_err HD.out (by rw [hdl]; exact hf) hne (k := kind) he)
      have HGt := Lib.hid (fun he hn => decA_great HD.out (by rw [hdl]; exact hf) hne (k := kind) he hn)
      have hbd := number_bound kind (L.drop p)
      have HLn := Lib.hid (fun he => number_len (k := kind) (l := L.drop p) he)
      rw [hdl] at HLn
      clear hne hdl
      generalize number kind (L.drop p) = T at *
      obtain ⟨n, er, R⟩ := T
      simp only at HS HE HGt hbd HLn
      by_cases he : er = 0
      · subst he
        by_cases hn : 1048576 < n
        · have HR := Lib.hid (decoded_err (HGt.out rfl hn) (by decide))
          go_wp2_with fail
          refine HC.out.mono ?_
          rintro e w2 ⟨p2, rfl, hp2, hB2, hr2, hg2⟩
          go_wp2
          go_ret2
          rw [HR.out]
          exact gives_none (HB1.out.trans ((HBL.out.grown hg2 (by omega) (fun q hq => by have := Option.some.inj hq; omega)).mono (by omega)))
        · obtain ⟨f', hd', hl'⟩ := HS.out rfl (by omega)
          have HD2 := Lib.hid hd'
          have HL2 := Lib.hid hl'
          clear hd' hl'
          go_wp2_with fail
          refine HC.out.mono ?_
          rintro e w2 ⟨p2, rfl, hp2, hB2, hr2, hg2⟩
          have hr2' : R = L.drop p2 := hr2 rfl
          have hpp : p < p2 := by
            have := HLn.out (by trivial)
            rw [hr2', List.length_drop, HLen.out] at this
            omega
          have HR2 := Lib.hid hr2'
          have hown2 := hown.kept hg2 (.inr (fun e => by have := (hown.lt g e).1; omega))
          have hbl2 : Below g w1 w2 := HBL.out.grown hg2 (by omega) (fun q hq => by have := Option.some.inj hq; omega)
          have hs2 := hB2.lt
          clear hr2 hr2' hB b0 r2 hbl
          go_wp2_with (at_builtin; go_loud (refine append_one _ rfl (.tmp 33) (.tmp 35) 22 rfl (g + 1) 3 (.int .i64 0) 8 Try.underlying22 num_info rfl u6 acc.length _ rfl (hown2.alloc _) w2.heap.size 1 (.int .i64 n) rfl (by simp) rfl (by simp only [maxLen]; omega) (by omega) (by simp; omega) ?_))
          intro v1 w3 hown3 hg3
          have hB3 : Blk w3 g 53 (rbox m A k c p2) := (hB2.alloc _).grows hg3 (fun e => by have := (hown2.lt g e.symm).1; omega)
          have HPos3 := Lib.hid (posOf_blk hB3)
          go_wp2
          go_roundw
          case rel => exact ⟨p2, f', acc ++ [n], hp2, by simp; omega, hB3, by simpa using hown3, by rw [← HR2.out]; exact HD2.out, by have := HL2.out; rw [HR2.out, List.length_drop, HLen.out] at this; exact this, (hbl2.alloc (by omega) _).grown hg3 (by simp; omega) (fun q hq => by have := (hown2.lt q hq).1; omega)⟩
          case measure =>
            simp only [HPos.out, HPos3.out]
            omega
      · have HR := Lib.hid (decoded_err (HE.out he) he)
        have hne : ((er : Int) != 0) = true := by simp; omega
        go_wp2_with fail
        refine HC.out.mono ?_
        rintro e w2 ⟨p2, rfl, hp2, hB2, hr2, hg2⟩
        go_wp2
        go_ret2
        rw [HR.out]
        exact gives_none (HB1.out.trans ((HBL.out.grown hg2 (by omega) (fun q hq => by have := Option.some.inj hq; omega)).mono (by omega)))
    · obtain rfl : p = m := by omega
      have hnil : L.drop p = [] := List.drop_of_length_le (by rw [HLen.out]; omega)
      rw [hnil] at HD
      have HR := Lib.hid (decoded_end (decA_nil HD.out))
      obtain ⟨A', c', rfl, hle1, hlen1, hlies, hnone1, hnew1⟩ := own_slice hown
      have HLies := Lib.hid hlies
      clear hnil hdl hlies HD
      by_cases hfull : 300 < acc.length
      · rw [if_pos hfull] at HR
        go_wp2
        go_ret2
        rw [HR.out]
        exact gives_none (HB1.out.trans (HBL.out.mono (by omega)))
      · rw [if_neg hfull] at HR
        go_wp2
        go_ret2
        rw [HR.out]
        exact ⟨A', c', rfl, hle1, hnone1, HLies.out, HB1.out.trans (HBL.out.mono (by omega))⟩
end Go.Proofs.Ytelcnkmgdohigaa
