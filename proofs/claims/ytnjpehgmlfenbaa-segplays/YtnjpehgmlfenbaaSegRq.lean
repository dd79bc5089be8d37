/-
  What the document's SegPlayed returns where there is no error of the call: its contract, walked over the translated text. No condition but what each theorem names.
-/
import Derived.Test.YtnjpehgmlfenbaaSegRp
namespace Go.Proofs.Ytnjpehgmlfenbaa
open Go.RowKit Words

theorem rep_info : (Try.prog.info? 30).map (fun i => (i.zero, i.size, i.bytes)) = some (some (.agg #[.int .i64 0, .int .i64 0]), 2, 16) := by kernel_rfl

/-- What the reply of an operation is, case by case. -/
theorem reps_two {l : List Int} {ops : List Op9} {i : Nat} {o : Op9} (h : ops[i]? = some o) : reps l ops (i * 2) = o.err l.length ∧ reps l ops (i * 2 + 1) = stepV (runL l ops i) o := ⟨reps_even h, reps_odd h⟩

theorem new_two (w : World) (t : TypeId) (n : Nat) (hn : w.heap.size = n) (a b : Value) : ∀ j u, ([a, b] : List Value)[j]? = some u → (w.alloc (.cells #[a, b] t)).cell? ⟨n, j, none⟩ = some u := by
  subst hn
  intro j u h
  rw [← h]
  exact (Blk.new w t [a, b]).cell j
theorem two_one (cd vl : Int) : ∀ u ∈ ([Value.int .i64 cd, .int .i64 vl] : List Value), u.oneCell' = true := by
  intro u hu
  simp only [List.mem_cons, List.not_mem_nil, or_false] at hu
  rcases hu with rfl | rfl <;> rfl

/-- A state of the loop over the operations. -/
def RfRel (w : World) (l : List Int) (ops : List Op9) (g c base : Nat) (t10 t43 : Value) (w' : World) : Prop := ∃ i : Nat, i ≤ ops.length ∧ t43 = .int .i64 i ∧ RfAt w l ops g c base i t10 (runL l ops i) w'

set_option maxRecDepth 100000 in
set_option maxHeartbeats 4000000 in
/-- The document's SegPlayed. -/
theorem rplay_any (A B : Option Addr) (l : List Int) (ops : List Op9) (c d : Nat) (w : World) (h0 : 1 ≤ l.length) (hn : l.length ≤ 300) (hnone : A = none → c = 0) (hm : ops.length ≤ 300) (hc : Cos l) (hL : Lies w w.heap.size A (l.map (.int .i64))) (hO : Lies w w.heap.size B (opsC ops)) :
    Calls Try.prog 8 #[.slice A l.length c, .slice B ops.length d] w (Played w l ops) := by
  have HL := Lib.hid hL
  have HC := Lib.hid hc
  have HO := Lib.hid hO
  have HN := Lib.hid hnone
  have HLen := Lib.hid (show (l.map (Value.int .i64)).length = l.length by simp)
  have HT := Lib.hid (fun u (hu : u ∈ l.map (Value.int .i64)) => show u.oneCell' = true by obtain ⟨_, _, rfl⟩ := List.mem_map.1 hu; rfl)
  have HRL := Lib.hid (runL_length l ops)
  clear hc hL hO hnone
  have hn0 : ((l.length : Int) == 0) = false := beq_eq_false_iff_ne.2 (by omega)
  have hd1 : decide (300 < (l.length : Int)) = false := decide_eq_false (by omega)
  have hd2 : decide (300 < (ops.length : Int)) = false := decide_eq_false (by omega)
  go_enter Try.func8, Try.ntmps8
  go_wp2_with fail
  go_loopw [31] (fun a w' => ∃ k : Nat, k ≤ l.length ∧ a = .int .i64 k ∧ w = w') (fun a _ => l.length - (intOf a).toNat)
  case atStart => exact ⟨0, Nat.zero_le _, rfl, rfl⟩
  case round =>
    obtain ⟨k, hk, rfl, rfl⟩ := hrel
    by_cases hlt : k < l.length
    · obtain ⟨b, o, x, rfl, hb, hx, hce⟩ := HL.out.at_ (k := k) hlt
      have HM := Lib.hid (fun W => may_any x W)
      rw [decide_eq_true (HC.out x (List.mem_of_getElem? hx))] at HM
      clear hx
      go_wp2_with fail
      refine (HM.out _).mono ?_
      rintro e w1 ⟨rfl, rfl⟩
      go_wp2_with fail
      go_roundw
      case rel => exact ⟨k + 1, by omega, by go_num, by first | trivial | rfl⟩
      case measure => simp [intOf]; omega
    · obtain rfl : l.length = k := by omega
      go_wp2_with (at_builtin; go_loud (refine append_from _ rfl (.const (.slice none 0 0)) (.tmp 39) 22 rfl w.heap.size 3 (.int .i64 0) 8 Try.underlying22 sint_info rfl (.slice none 0 0) 0 [] rfl (World.ownsRow_nil _ _ _ _) A l.length c (l.map (.int .i64)) rfl HLen.out HN.out HL.out HT.out (by simp only [maxLen]; omega) (by omega) (Nat.le_refl _) ?_))
      intro v1 w2 hown1 hg1
      obtain ⟨A1, c9, rfl, _, _, _, _, _⟩ := own_slice hown1
      obtain ⟨g, rfl, hg0⟩ := own_at hown1 (by omega)
      have hb2 : Below w.heap.size w w2 := (Below.refl _ _).grown hg1 (Nat.le_refl _) (fun q hq => by cases hq)
      have HR0 : Hid (RfAt w l ops g c9 w2.heap.size 0 (.slice none 0 0) (runL l ops 0) w2) := Lib.hid ⟨hown1, World.ownsRow_nil _ _ _ _, (hown1.lt g rfl).2, Nat.le_refl _, hb2⟩
      clear hown1 hg1 hb2 HL HT HLen HN hlt hk
      go_wp2_with fail
      go_loopw [10, 43] (fun t10 t43 w' => RfRel w l ops g c9 w2.heap.size t10 t43 w') (fun _ a _ => ops.length - (intOf a).toNat)
      case atStart => exact ⟨0, Nat.zero_le _, rfl, HR0.out⟩
      case round =>
        clear HR0
        rename World => wq
        obtain ⟨i, hi, rfl, hR⟩ := hrel
        by_cases hlt : i < ops.length
        · have hget : ops[i]? = some ops[i] := List.getElem?_eq_getElem hlt
          generalize ops[i] = op at *
          obtain ⟨b2, p2, rfl, hb2, q0, q1, q2, q3⟩ := ops_at (HO.out.on hR.bel) hget
          have HD := Lib.hid (hR.start op)
          have hlm := runL_lim ops (B := 1048576) (by omega) (cos_lim HC.out) i
          have HLm : Hid (LimL 1000000000 (runL l ops i)) := Lib.hid (fun z hz => by have := hlm z hz; omega)
          have HRE := Lib.hid (reps_two (l := l) hget)
          have HRS := Lib.hid (runL_some (l := l) hget)
          have hLL := HRL.out i
          obtain ⟨k, lo, hi_, by_⟩ := op
          have hltI : (i : Int) < (ops.length : Int) := by omega
          unfold Op9.err at HRE
          clear hget hlm hR
          generalize runL l ops i = L at *
          have HLL := Lib.hid hLL
          clear hLL
          go_upto_region 30 with fail
          have e0 : ((wq.alloc (.cells #[.int .i64 k, .int .i64 lo, .int .i64 hi_, .int .i64 by_] 39)).alloc (.cells #[.int .i64 0, .int .i64 0] 30)).cell? ⟨wq.heap.size, 0, none⟩ = some (.int .i64 k) := HD.out.op.cell 0
          have e1 : ((wq.alloc (.cells #[.int .i64 k, .int .i64 lo, .int .i64 hi_, .int .i64 by_] 39)).alloc (.cells #[.int .i64 0, .int .i64 0] 30)).cell? ⟨wq.heap.size, 1, none⟩ = some (.int .i64 lo) := HD.out.op.cell 1
          have e2 : ((wq.alloc (.cells #[.int .i64 k, .int .i64 lo, .int .i64 hi_, .int .i64 by_] 39)).alloc (.cells #[.int .i64 0, .int .i64 0] 30)).cell? ⟨wq.heap.size, 2, none⟩ = some (.int .i64 hi_) := HD.out.op.cell 2
          have e3 : ((wq.alloc (.cells #[.int .i64 k, .int .i64 lo, .int .i64 hi_, .int .i64 by_] 39)).alloc (.cells #[.int .i64 0, .int .i64 0] 30)).cell? ⟨wq.heap.size, 3, none⟩ = some (.int .i64 by_) := HD.out.op.cell 3
          generalize ((wq.alloc (.cells #[.int .i64 k, .int .i64 lo, .int .i64 hi_, .int .i64 by_] 39)).alloc (.cells #[.int .i64 0, .int .i64 0] 30)) = W1 at *
          have r0 : W1.cell? ⟨wq.heap.size + 1, 0, none⟩ = some (.int .i64 0) := HD.out.res.cell 0
          have r1 : W1.cell? ⟨wq.heap.size + 1, 1, none⟩ = some (.int .i64 0) := HD.out.res.cell 1
          have hfr := HD.out.res.frozen
          have hzr := HD.out.res.lt
          have hbw2 := HD.out.bw
          clear q0 q1 q2 q3
          have HCo := Lib.hid (fun W => may_any by_ W)
          by_cases c1 : k < 1
          · have hck : chk k lo hi_ by_ l.length = 3 := by unfold chk; rw [if_pos (.inl c1)]
            have HDf := Lib.hid (HD.out.code 3)
            have HK := Lib.hid hck
            clear hck HD
            go_wp2_with (at_builtin; go_loud (refine append_rec _ rfl (.tmp 142) (.tmp 144) 24 rfl w2.heap.size 30 (.agg #[.int .i64 0, .int .i64 0]) 2 16 Try.underlying24 rep_info rfl (by decide) u10 i _ rfl (HDf.out.out.alloc _) W1.heap.size 1 [.int .i64 3, .int .i64 0] rfl rfl (new_two _ _ _ (by first | rfl | exact World.size_setCell _ _ _) _ _) (two_one _ _) (by simp only [maxLen]; omega) (by omega) (by simp; omega) ?_))
            intro v' w5 hown5 hg5
            have HF : Hid (RfAt w l ops g c9 w2.heap.size (i + 1) v' (runL l ops (i + 1)) w5) := Lib.hid (by
              rw [HRS.out, show stepL L ⟨k, lo, hi_, by_⟩ = L from (by unfold stepL Op9.err; rw [HLL.out, if_neg (fun h => by have h2 : chk k lo hi_ by_ l.length = 0 := h.1; rw [HK.out] at h2; cases h2)])]
              exact HDf.out.done (by rw [HRE.out.1]; exact HK.out.symm) (by rw [HRE.out.2]; exact (by unfold stepV Op9.err; rw [HLL.out, if_neg (by show ¬ chk k lo hi_ by_ l.length = 0; rw [HK.out]; decide)])) hown5 hg5)
            clear hown5 hg5
            go_wp2_with fail
            go_roundw
            case rel => exact ⟨i + 1, by omega, by go_num, HF.out⟩
            case measure => simp [intOf]; omega
          by_cases c2 : 4 < k
          · have hck : chk k lo hi_ by_ l.length = 3 := by unfold chk; rw [if_pos (.inr c2)]
            have HDf := Lib.hid (HD.out.code 3)
            have HK := Lib.hid hck
            clear hck HD
            go_wp2_with (at_builtin; go_loud (refine append_rec _ rfl (.tmp 142) (.tmp 144) 24 rfl w2.heap.size 30 (.agg #[.int .i64 0, .int .i64 0]) 2 16 Try.underlying24 rep_info rfl (by decide) u10 i _ rfl (HDf.out.out.alloc _) W1.heap.size 1 [.int .i64 3, .int .i64 0] rfl rfl (new_two _ _ _ (by first | rfl | exact World.size_setCell _ _ _) _ _) (two_one _ _) (by simp only [maxLen]; omega) (by omega) (by simp; omega) ?_))
            intro v' w5 hown5 hg5
            have HF : Hid (RfAt w l ops g c9 w2.heap.size (i + 1) v' (runL l ops (i + 1)) w5) := Lib.hid (by
              rw [HRS.out, show stepL L ⟨k, lo, hi_, by_⟩ = L from (by unfold stepL Op9.err; rw [HLL.out, if_neg (fun h => by have h2 : chk k lo hi_ by_ l.length = 0 := h.1; rw [HK.out] at h2; cases h2)])]
              exact HDf.out.done (by rw [HRE.out.1]; exact HK.out.symm) (by rw [HRE.out.2]; exact (by unfold stepV Op9.err; rw [HLL.out, if_neg (by show ¬ chk k lo hi_ by_ l.length = 0; rw [HK.out]; decide)])) hown5 hg5)
            clear hown5 hg5
            go_wp2_with fail
            go_roundw
            case rel => exact ⟨i + 1, by omega, by go_num, HF.out⟩
            case measure => simp [intOf]; omega
          by_cases c3 : lo < 0
          · have hck : chk k lo hi_ by_ l.length = 2 := by unfold chk; rw [if_neg (by omega), if_pos (.inl c3)]
            have HDf := Lib.hid (HD.out.code 2)
            have HK := Lib.hid hck
            clear hck HD
            go_wp2_with (at_builtin; go_loud (refine append_rec _ rfl (.tmp 142) (.tmp 144) 24 rfl w2.heap.size 30 (.agg #[.int .i64 0, .int .i64 0]) 2 16 Try.underlying24 rep_info rfl (by decide) u10 i _ rfl (HDf.out.out.alloc _) W1.heap.size 1 [.int .i64 2, .int .i64 0] rfl rfl (new_two _ _ _ (by first | rfl | exact World.size_setCell _ _ _) _ _) (two_one _ _) (by simp only [maxLen]; omega) (by omega) (by simp; omega) ?_))
            intro v' w5 hown5 hg5
            have HF : Hid (RfAt w l ops g c9 w2.heap.size (i + 1) v' (runL l ops (i + 1)) w5) := Lib.hid (by
              rw [HRS.out, show stepL L ⟨k, lo, hi_, by_⟩ = L from (by unfold stepL Op9.err; rw [HLL.out, if_neg (fun h => by have h2 : chk k lo hi_ by_ l.length = 0 := h.1; rw [HK.out] at h2; cases h2)])]
              exact HDf.out.done (by rw [HRE.out.1]; exact HK.out.symm) (by rw [HRE.out.2]; exact (by unfold stepV Op9.err; rw [HLL.out, if_neg (by show ¬ chk k lo hi_ by_ l.length = 0; rw [HK.out]; decide)])) hown5 hg5)
            clear hown5 hg5
            go_wp2_with fail
            go_roundw
            case rel => exact ⟨i + 1, by omega, by go_num, HF.out⟩
            case measure => simp [intOf]; omega
          by_cases c4 : hi_ < lo
          · have hck : chk k lo hi_ by_ l.length = 2 := by unfold chk; rw [if_neg (by omega), if_pos (.inr (.inl c4))]
            have HDf := Lib.hid (HD.out.code 2)
            have HK := Lib.hid hck
            clear hck HD
            go_wp2_with (at_builtin; go_loud (refine append_rec _ rfl (.tmp 142) (.tmp 144) 24 rfl w2.heap.size 30 (.agg #[.int .i64 0, .int .i64 0]) 2 16 Try.underlying24 rep_info rfl (by decide) u10 i _ rfl (HDf.out.out.alloc _) W1.heap.size 1 [.int .i64 2, .int .i64 0] rfl rfl (new_two _ _ _ (by first | rfl | exact World.size_setCell _ _ _) _ _) (two_one _ _) (by simp only [maxLen]; omega) (by omega) (by simp; omega) ?_))
            intro v' w5 hown5 hg5
            have HF : Hid (RfAt w l ops g c9 w2.heap.size (i + 1) v' (runL l ops (i + 1)) w5) := Lib.hid (by
              rw [HRS.out, show stepL L ⟨k, lo, hi_, by_⟩ = L from (by unfold stepL Op9.err; rw [HLL.out, if_neg (fun h => by have h2 : chk k lo hi_ by_ l.length = 0 := h.1; rw [HK.out] at h2; cases h2)])]
              exact HDf.out.done (by rw [HRE.out.1]; exact HK.out.symm) (by rw [HRE.out.2]; exact (by unfold stepV Op9.err; rw [HLL.out, if_neg (by show ¬ chk k lo hi_ by_ l.length = 0; rw [HK.out]; decide)])) hown5 hg5)
            clear hown5 hg5
            go_wp2_with fail
            go_roundw
            case rel => exact ⟨i + 1, by omega, by go_num, HF.out⟩
            case measure => simp [intOf]; omega
          by_cases c5 : (l.length : Int) ≤ hi_
          · have hck : chk k lo hi_ by_ l.length = 2 := by unfold chk; rw [if_neg (by omega), if_pos (.inr (.inr c5))]
            have HDf := Lib.hid (HD.out.code 2)
            have HK := Lib.hid hck
            clear hck HD
            go_wp2_with (at_builtin; go_loud (refine append_rec _ rfl (.tmp 142) (.tmp 144) 24 rfl w2.heap.size 30 (.agg #[.int .i64 0, .int .i64 0]) 2 16 Try.underlying24 rep_info rfl (by decide) u10 i _ rfl (HDf.out.out.alloc _) W1.heap.size 1 [.int .i64 2, .int .i64 0] rfl rfl (new_two _ _ _ (by first | rfl | exact World.size_setCell _ _ _) _ _) (two_one _ _) (by simp only [maxLen]; omega) (by omega) (by simp; omega) ?_))
            intro v' w5 hown5 hg5
            have HF : Hid (RfAt w l ops g c9 w2.heap.size (i + 1) v' (runL l ops (i + 1)) w5) := Lib.hid (by
              rw [HRS.out, show stepL L ⟨k, lo, hi_, by_⟩ = L from (by unfold stepL Op9.err; rw [HLL.out, if_neg (fun h => by have h2 : chk k lo hi_ by_ l.length = 0 := h.1; rw [HK.out] at h2; cases h2)])]
              exact HDf.out.done (by rw [HRE.out.1]; exact HK.out.symm) (by rw [HRE.out.2]; exact (by unfold stepV Op9.err; rw [HLL.out, if_neg (by show ¬ chk k lo hi_ by_ l.length = 0; rw [HK.out]; decide)])) hown5 hg5)
            clear hown5 hg5
            go_wp2_with fail
            go_roundw
            case rel => exact ⟨i + 1, by omega, by go_num, HF.out⟩
            case measure => simp [intOf]; omega
          by_cases c6 : k ≤ 2 ∧ ¬ Co by_
          · have hck : chk k lo hi_ by_ l.length = 2 := by unfold chk; rw [if_neg (by omega), if_neg (by omega), if_pos c6]
            have HDf := Lib.hid (HD.out.code 2)
            have HK := Lib.hid hck
            rw [decide_eq_false c6.2] at HCo
            have hk2 := c6.1
            clear hck HD c6
            go_wp2_with fail
            refine (HCo.out _).mono ?_
            rintro e w4 ⟨rfl, rfl⟩
            go_wp2_with (at_builtin; go_loud (refine append_rec _ rfl (.tmp 142) (.tmp 144) 24 rfl w2.heap.size 30 (.agg #[.int .i64 0, .int .i64 0]) 2 16 Try.underlying24 rep_info rfl (by decide) u10 i _ rfl (HDf.out.out.alloc _) W1.heap.size 1 [.int .i64 2, .int .i64 0] rfl rfl (new_two _ _ _ (by first | rfl | exact World.size_setCell _ _ _) _ _) (two_one _ _) (by simp only [maxLen]; omega) (by omega) (by simp; omega) ?_))
            intro v' w5 hown5 hg5
            have HF : Hid (RfAt w l ops g c9 w2.heap.size (i + 1) v' (runL l ops (i + 1)) w5) := Lib.hid (by
              rw [HRS.out, show stepL L ⟨k, lo, hi_, by_⟩ = L from (by unfold stepL Op9.err; rw [HLL.out, if_neg (fun h => by have h2 : chk k lo hi_ by_ l.length = 0 := h.1; rw [HK.out] at h2; cases h2)])]
              exact HDf.out.done (by rw [HRE.out.1]; exact HK.out.symm) (by rw [HRE.out.2]; exact (by unfold stepV Op9.err; rw [HLL.out, if_neg (by show ¬ chk k lo hi_ by_ l.length = 0; rw [HK.out]; decide)])) hown5 hg5)
            clear hown5 hg5
            go_wp2_with fail
            go_roundw
            case rel => exact ⟨i + 1, by omega, by go_num, HF.out⟩
            case measure => simp [intOf]; omega
          by_cases c7 : Co by_ ∨ 2 < k
          · obtain ⟨a, rfl⟩ : ∃ a : Nat, lo = (a : Int) := ⟨lo.toNat, by omega⟩
            obtain ⟨b, rfl⟩ : ∃ b : Nat, hi_ = (b : Int) := ⟨hi_.toNat, by omega⟩
            have hab : a ≤ b := by omega
            have hbn : b < l.length := by omega
            have hck : chk k a b by_ l.length = 0 := by
              unfold chk
              rw [if_neg (by omega), if_neg (by omega), if_neg c6]
            have HK := Lib.hid hck
            have h4 : k = 1 ∨ k = 2 ∨ k = 3 ∨ k = 4 := by omega
            have hmin : decide ((l.length : Int) ≤ (b : Int)) = false := decide_eq_false (by omega)
            have hmin2 : decide (l.length ≤ b) = false := decide_eq_false (by omega)
            have hmin3 : decide ((b : Int) < (a : Int)) = false := decide_eq_false (by omega)
            have hmin4 : decide (b < a) = false := decide_eq_false (by omega)
            have hLa : L[a]? = some L[a]! := by
              have : a < L.length := by rw [HLL.out]; omega
              rw [List.getElem!_eq_getElem?_getD, List.getElem?_eq_getElem this]; rfl
            generalize L[a]! = z0 at *
            have hca := HD.out.get hLa
            have HLa := Lib.hid hLa
            clear hck c1 c2 c3 c4 c5 c6 hLa
            have haI : (a : Int) < (l.length : Int) := by omega
            have han : a < l.length := by omega
            rcases h4 with rfl | rfl | rfl | rfl
            · have hco : Co by_ := by
                rcases c7 with h | h
                · exact h
                · omega
              rw [decide_eq_true hco] at HCo
              obtain ⟨y0, y1⟩ : -1048576 ≤ by_ ∧ by_ ≤ 1048576 := hco
              clear c7
              have HD0 : Hid (RdAt w wq l ops g c9 w2.heap.size i u10 (mapR (app false by_) L a ((a : Int) - 1)) ⟨1, a, b, by_⟩ 0 0 W1) := by
                rw [mapR_before (app false by_) L a ((a : Int) - 1) (by omega)]
                exact HD
              clear HD
              go_wp2_with fail
              refine (HCo.out _).mono ?_
              rintro e w4 ⟨rfl, rfl⟩
              go_wp2_with fail
              clear e0 e1 e2 e3 r0 r1 hca
              go_loopw [14, 15] (fun t14 t15 w' => ∃ j : Nat, a ≤ j ∧ j ≤ b + 1 ∧ t14 = .int .i64 z0 ∧ t15 = .int .i64 j ∧ RdAt w wq l ops g c9 w2.heap.size i u10 (mapR (app false by_) L a ((j : Int) - 1)) ⟨1, a, b, by_⟩ 0 0 w') (fun _ t _ => b + 1 - (intOf t).toNat)
              case atStart => exact ⟨a, Nat.le_refl _, by omega, rfl, rfl, HD0.out⟩
              case round =>
                obtain ⟨j, hj0, hj1, rfl, rfl, hD⟩ := hrel
                clear HD0
                have e0 : wr.cell? ⟨wq.heap.size, 0, none⟩ = some (.int .i64 1) := hD.op.cell 0
                have e2 : wr.cell? ⟨wq.heap.size, 2, none⟩ = some (.int .i64 b) := hD.op.cell 2
                have e3 : wr.cell? ⟨wq.heap.size, 3, none⟩ = some (.int .i64 by_) := hD.op.cell 3
                by_cases hjb : j ≤ b
                · have hLj : L[j]? = some L[j]! := by
                    have : j < L.length := by rw [HLL.out]; omega
                    rw [List.getElem!_eq_getElem?_getD, List.getElem?_eq_getElem this]; rfl
                  generalize L[j]! = z at *
                  have hcj := hD.get (mapR_at (app false by_) L a j z hLj)
                  have hfn := own_frozen hD.now
                  obtain ⟨z1, z2⟩ := HLm.out z (List.mem_of_getElem? hLj)
                  have HD1 := Lib.hid (hD.put j (z + by_))
                  have hst := mapR_step (app false by_) L a j z (by omega) hLj
                  rw [show app false by_ z = z + by_ from app_add by_ z] at hst
                  rw [hst] at HD1
                  have hjI : (j : Int) < (l.length : Int) := by omega
                  have hjn : j < l.length := by omega
                  clear hst hD hLj
                  go_wp2_with fail
                  go_region
                  go_wp2_with fail
                  go_roundw
                  case rel => exact ⟨j + 1, by omega, by omega, rfl, by go_num, by rw [show (((j + 1 : Nat) : Int) - 1) = (j : Int) by omega]; exact HD1.out.drew⟩
                  case measure => simp [intOf]; omega
                · obtain rfl : j = b + 1 := by omega
                  have r0 : wr.cell? ⟨wq.heap.size + 1, 0, none⟩ = some (.int .i64 0) := hD.res.cell 0
                  have r1 : wr.cell? ⟨wq.heap.size + 1, 1, none⟩ = some (.int .i64 0) := hD.res.cell 1
                  have hzw := hD.zw
                  have HDf := Lib.hid hD
                  rw [show (((b + 1 : Nat) : Int) - 1) = (b : Int) by omega] at HDf
                  clear hD
                  go_wp2_with (at_builtin; go_loud (refine append_rec _ rfl (.tmp 142) (.tmp 144) 24 rfl w2.heap.size 30 (.agg #[.int .i64 0, .int .i64 0]) 2 16 Try.underlying24 rep_info rfl (by decide) u10 i _ rfl (HDf.out.out.alloc _) wr.heap.size 1 [.int .i64 0, .int .i64 0] rfl rfl (new_two _ _ _ (by first | rfl | exact World.size_setCell _ _ _) _ _) (two_one _ _) (by simp only [maxLen]; omega) (by omega) (by simp; omega) ?_))
                  intro v' w5 hown5 hg5
                  have HF : Hid (RfAt w l ops g c9 w2.heap.size (i + 1) v' (runL l ops (i + 1)) w5) := Lib.hid (by
                    rw [HRS.out, show stepL L ⟨1, a, b, by_⟩ = mapR (app false by_) L a b from (by unfold stepL Op9.err; rw [HLL.out, if_pos ⟨HK.out, by show (1 : Int) ≤ 2; omega⟩]; rfl)]
                    exact HDf.out.done (by rw [HRE.out.1]; exact HK.out.symm) (by rw [HRE.out.2]; exact (by unfold stepV Op9.err; rw [HLL.out, if_pos HK.out, if_neg (by show ¬ (1 : Int) = 3; omega), if_neg (by show ¬ (1 : Int) = 4; omega)])) hown5 hg5)
                  clear hown5 hg5
                  go_wp2_with fail
                  go_roundw
                  case rel => exact ⟨i + 1, by omega, by go_num, HF.out⟩
                  case measure => simp [intOf]; omega

            · have hco : Co by_ := by
                rcases c7 with h | h
                · exact h
                · omega
              rw [decide_eq_true hco] at HCo
              obtain ⟨y0, y1⟩ : -1048576 ≤ by_ ∧ by_ ≤ 1048576 := hco
              clear c7
              have HD0 : Hid (RdAt w wq l ops g c9 w2.heap.size i u10 (mapR (app true by_) L a ((a : Int) - 1)) ⟨2, a, b, by_⟩ 0 0 W1) := by
                rw [mapR_before (app true by_) L a ((a : Int) - 1) (by omega)]
                exact HD
              clear HD
              go_wp2_with fail
              refine (HCo.out _).mono ?_
              rintro e w4 ⟨rfl, rfl⟩
              go_wp2_with fail
              clear e0 e1 e2 e3 r0 r1 hca
              go_loopw [14, 15] (fun t14 t15 w' => ∃ j : Nat, a ≤ j ∧ j ≤ b + 1 ∧ t14 = .int .i64 z0 ∧ t15 = .int .i64 j ∧ RdAt w wq l ops g c9 w2.heap.size i u10 (mapR (app true by_) L a ((j : Int) - 1)) ⟨2, a, b, by_⟩ 0 0 w') (fun _ t _ => b + 1 - (intOf t).toNat)
              case atStart => exact ⟨a, Nat.le_refl _, by omega, rfl, rfl, HD0.out⟩
              case round =>
                obtain ⟨j, hj0, hj1, rfl, rfl, hD⟩ := hrel
                clear HD0
                have e0 : wr.cell? ⟨wq.heap.size, 0, none⟩ = some (.int .i64 2) := hD.op.cell 0
                have e2 : wr.cell? ⟨wq.heap.size, 2, none⟩ = some (.int .i64 b) := hD.op.cell 2
                have e3 : wr.cell? ⟨wq.heap.size, 3, none⟩ = some (.int .i64 by_) := hD.op.cell 3
                by_cases hjb : j ≤ b
                · have hLj : L[j]? = some L[j]! := by
                    have : j < L.length := by rw [HLL.out]; omega
                    rw [List.getElem!_eq_getElem?_getD, List.getElem?_eq_getElem this]; rfl
                  generalize L[j]! = z at *
                  have hcj := hD.get (mapR_at (app true by_) L a j z hLj)
                  have hfn := own_frozen hD.now
                  obtain ⟨z1, z2⟩ := HLm.out z (List.mem_of_getElem? hLj)
                  have HD1 := Lib.hid (hD.put j (by_))
                  have hst := mapR_step (app true by_) L a j z (by omega) hLj
                  rw [show app true by_ z = by_ from app_set by_ z] at hst
                  rw [hst] at HD1
                  have hjI : (j : Int) < (l.length : Int) := by omega
                  have hjn : j < l.length := by omega
                  clear hst hD hLj
                  go_wp2_with fail
                  skip
                  go_roundw
                  case rel => exact ⟨j + 1, by omega, by omega, rfl, by go_num, by rw [show (((j + 1 : Nat) : Int) - 1) = (j : Int) by omega]; exact HD1.out⟩
                  case measure => simp [intOf]; omega
                · obtain rfl : j = b + 1 := by omega
                  have r0 : wr.cell? ⟨wq.heap.size + 1, 0, none⟩ = some (.int .i64 0) := hD.res.cell 0
                  have r1 : wr.cell? ⟨wq.heap.size + 1, 1, none⟩ = some (.int .i64 0) := hD.res.cell 1
                  have hzw := hD.zw
                  have HDf := Lib.hid hD
                  rw [show (((b + 1 : Nat) : Int) - 1) = (b : Int) by omega] at HDf
                  clear hD
                  go_wp2_with (at_builtin; go_loud (refine append_rec _ rfl (.tmp 142) (.tmp 144) 24 rfl w2.heap.size 30 (.agg #[.int .i64 0, .int .i64 0]) 2 16 Try.underlying24 rep_info rfl (by decide) u10 i _ rfl (HDf.out.out.alloc _) wr.heap.size 1 [.int .i64 0, .int .i64 0] rfl rfl (new_two _ _ _ (by first | rfl | exact World.size_setCell _ _ _) _ _) (two_one _ _) (by simp only [maxLen]; omega) (by omega) (by simp; omega) ?_))
                  intro v' w5 hown5 hg5
                  have HF : Hid (RfAt w l ops g c9 w2.heap.size (i + 1) v' (runL l ops (i + 1)) w5) := Lib.hid (by
                    rw [HRS.out, show stepL L ⟨2, a, b, by_⟩ = mapR (app true by_) L a b from (by unfold stepL Op9.err; rw [HLL.out, if_pos ⟨HK.out, by show (2 : Int) ≤ 2; omega⟩]; rfl)]
                    exact HDf.out.done (by rw [HRE.out.1]; exact HK.out.symm) (by rw [HRE.out.2]; exact (by unfold stepV Op9.err; rw [HLL.out, if_pos HK.out, if_neg (by show ¬ (2 : Int) = 3; omega), if_neg (by show ¬ (2 : Int) = 4; omega)])) hown5 hg5)
                  clear hown5 hg5
                  go_wp2_with fail
                  go_roundw
                  case rel => exact ⟨i + 1, by omega, by go_num, HF.out⟩
                  case measure => simp [intOf]; omega

            · clear c7
              have HD0 := HD
              clear HD
              go_wp2_with fail
              clear e0 e1 e2 e3 r0 r1 hca
              go_loopw [14, 15] (fun t14 t15 w' => ∃ j : Nat, a ≤ j ∧ j ≤ b + 1 ∧ t14 = .int .i64 (accL z0 (prt L a ((j : Int) - 1))) ∧ t15 = .int .i64 j ∧ RdAt w wq l ops g c9 w2.heap.size i u10 L ⟨3, a, b, by_⟩ 0 0 w') (fun _ t _ => b + 1 - (intOf t).toNat)
              case atStart => exact ⟨a, Nat.le_refl _, by omega, by rw [prt_before L a (by omega) _ (by omega)]; rfl, rfl, HD0.out⟩
              case round =>
                obtain ⟨j, hj0, hj1, rfl, rfl, hD⟩ := hrel
                clear HD0
                have e0 : wr.cell? ⟨wq.heap.size, 0, none⟩ = some (.int .i64 3) := hD.op.cell 0
                have e2 : wr.cell? ⟨wq.heap.size, 2, none⟩ = some (.int .i64 b) := hD.op.cell 2
                by_cases hjb : j ≤ b
                · have hLj : L[j]? = some L[j]! := by
                    have : j < L.length := by rw [HLL.out]; omega
                    rw [List.getElem!_eq_getElem?_getD, List.getElem?_eq_getElem this]; rfl
                  generalize L[j]! = z at *
                  have hcj := hD.get hLj
                  have HD1 := Lib.hid hD
                  have hst : accL z0 (prt L a (j : Int)) = min (accL z0 (prt L a ((j : Int) - 1))) z := by rw [prt_step L a j z (by omega) (by omega) hLj, accL_one]
                  have HS := Lib.hid hst
                  have hjI : (j : Int) < (l.length : Int) := by omega
                  have hjn : j < l.length := by omega
                  clear hst hD hLj
                  generalize accL z0 (prt L a ((j : Int) - 1)) = m at *
                  rcases Int.lt_trichotomy m z with h | h | h
                  · rw [Int.min_eq_left (by omega)] at HS
                    go_wp2_with fail
                    go_roundw
                    case rel => exact ⟨j + 1, by omega, by omega, by rw [show (((j + 1 : Nat) : Int) - 1) = (j : Int) by omega, HS.out], by go_num, HD1.out⟩
                    case measure => simp [intOf]; omega
                  · subst h
                    rw [Int.min_self] at HS
                    go_wp2_with fail
                    go_roundw
                    case rel => exact ⟨j + 1, by omega, by omega, by rw [show (((j + 1 : Nat) : Int) - 1) = (j : Int) by omega, HS.out], by go_num, HD1.out⟩
                    case measure => simp [intOf]; omega
                  · rw [Int.min_eq_right (by omega)] at HS
                    go_wp2_with fail
                    go_roundw
                    case rel => exact ⟨j + 1, by omega, by omega, by rw [show (((j + 1 : Nat) : Int) - 1) = (j : Int) by omega, HS.out], by go_num, HD1.out⟩
                    case measure => simp [intOf]; omega
                · obtain rfl : j = b + 1 := by omega
                  have r0 : wr.cell? ⟨wq.heap.size + 1, 0, none⟩ = some (.int .i64 0) := hD.res.cell 0
                  have r1 : wr.cell? ⟨wq.heap.size + 1, 1, none⟩ = some (.int .i64 0) := hD.res.cell 1
                  have hfr := hD.res.frozen
                  have hzw := hD.zw
                  have hac : accL z0 (prt L a (((b + 1 : Nat) : Int) - 1)) = mn (prt L a b) := by
                    rw [show (((b + 1 : Nat) : Int) - 1) = (b : Int) by omega]
                    exact accL_mem (prt_has L a b z0 hab HLa.out)
                  rw [hac]
                  have HM : Hid (stepV L ⟨3, a, b, by_⟩ = mn (prt L a b)) := Lib.hid (by unfold stepV Op9.err; rw [HLL.out, if_pos HK.out, if_pos rfl])
                  generalize mn (prt L a b) = y at *
                  have HDf := Lib.hid (hD.val y)
                  clear hD hac
                  go_wp2_with (at_builtin; go_loud (refine append_rec _ rfl (.tmp 142) (.tmp 144) 24 rfl w2.heap.size 30 (.agg #[.int .i64 0, .int .i64 0]) 2 16 Try.underlying24 rep_info rfl (by decide) u10 i _ rfl (HDf.out.out.alloc _) wr.heap.size 1 [.int .i64 0, .int .i64 y] rfl rfl (new_two _ _ _ (by first | rfl | exact World.size_setCell _ _ _) _ _) (two_one _ _) (by simp only [maxLen]; omega) (by omega) (by simp; omega) ?_))
                  intro v' w5 hown5 hg5
                  have HF : Hid (RfAt w l ops g c9 w2.heap.size (i + 1) v' (runL l ops (i + 1)) w5) := Lib.hid (by
                    rw [HRS.out, show stepL L ⟨3, a, b, by_⟩ = L from (by unfold stepL Op9.err; rw [if_neg (fun h => by have h2 : (3 : Int) ≤ 2 := h.2; omega)])]
                    exact HDf.out.done (by rw [HRE.out.1]; exact HK.out.symm) (by rw [HRE.out.2]; exact HM.out.symm) hown5 hg5)
                  clear hown5 hg5
                  go_wp2_with fail
                  go_roundw
                  case rel => exact ⟨i + 1, by omega, by go_num, HF.out⟩
                  case measure => simp [intOf]; omega

            · clear c7
              have HD0 : Hid (RdAt w wq l ops g c9 w2.heap.size i u10 L ⟨4, a, b, by_⟩ 0 (sm (prt L a ((a : Int) - 1))) W1) := by
                rw [prt_before L a (by omega) _ (by omega)]
                exact HD
              clear HD
              go_wp2_with fail
              clear e0 e1 e2 e3 r0 r1 hca
              go_loopw [14, 15] (fun t14 t15 w' => ∃ j : Nat, a ≤ j ∧ j ≤ b + 1 ∧ t14 = .int .i64 z0 ∧ t15 = .int .i64 j ∧ RdAt w wq l ops g c9 w2.heap.size i u10 L ⟨4, a, b, by_⟩ 0 (sm (prt L a ((j : Int) - 1))) w') (fun _ t _ => b + 1 - (intOf t).toNat)
              case atStart => exact ⟨a, Nat.le_refl _, by omega, rfl, rfl, HD0.out⟩
              case round =>
                obtain ⟨j, hj0, hj1, rfl, rfl, hD⟩ := hrel
                clear HD0
                have e0 : wr.cell? ⟨wq.heap.size, 0, none⟩ = some (.int .i64 4) := hD.op.cell 0
                have e2 : wr.cell? ⟨wq.heap.size, 2, none⟩ = some (.int .i64 b) := hD.op.cell 2
                have r0 : wr.cell? ⟨wq.heap.size + 1, 0, none⟩ = some (.int .i64 0) := hD.res.cell 0
                have r1 : wr.cell? ⟨wq.heap.size + 1, 1, none⟩ = some (.int .i64 (sm (prt L a ((j : Int) - 1)))) := hD.res.cell 1
                by_cases hjb : j ≤ b
                · have hLj : L[j]? = some L[j]! := by
                    have : j < L.length := by rw [HLL.out]; omega
                    rw [List.getElem!_eq_getElem?_getD, List.getElem?_eq_getElem this]; rfl
                  generalize L[j]! = z at *
                  have hcj := hD.get hLj
                  have hfr := hD.res.frozen
                  obtain ⟨z1, z2⟩ := HLm.out z (List.mem_of_getElem? hLj)
                  have hst : sm (prt L a (j : Int)) = sm (prt L a ((j : Int) - 1)) + z := by rw [prt_step L a j z (by omega) (by omega) hLj, sm_append]; simp [sm]
                  have hsb := sm_bd (prt_bds (l := L) (fun y hy => by have := HLm.out y hy; unfold Bd; omega) a ((j : Int) - 1))
                  have hpl := prt_len L a ((j : Int) - 1)
                  rw [HLL.out] at hpl
                  have HS := Lib.hid hst
                  obtain ⟨s1, s2⟩ := hsb
                  have s3 : -4503599627370496 ≤ sm (prt L a ((j : Int) - 1)) := by omega
                  have s4 : sm (prt L a ((j : Int) - 1)) ≤ 4503599627370496 := by omega
                  have hjI : (j : Int) < (l.length : Int) := by omega
                  have hjn : j < l.length := by omega
                  clear s1 s2 hpl hst hLj
                  generalize sm (prt L a ((j : Int) - 1)) = m at *
                  have HD1 := Lib.hid (hD.val (m + z))
                  rw [← HS.out] at HD1
                  clear hD
                  have HS2 := HS
                  clear HS
                  go_wp2_with fail
                  go_region
                  go_wp2_with fail
                  go_roundw
                  case rel => exact ⟨j + 1, by omega, by omega, rfl, by go_num, by rw [show (((j + 1 : Nat) : Int) - 1) = (j : Int) by omega]; rw [HS2.out]; rw [HS2.out] at HD1; exact HD1.out.drew⟩
                  case measure => simp [intOf]; omega
                · obtain rfl : j = b + 1 := by omega
                  have hzw := hD.zw
                  have HM : Hid (stepV L ⟨4, a, b, by_⟩ = sm (prt L a (((b + 1 : Nat) : Int) - 1))) := Lib.hid (by unfold stepV Op9.err; rw [HLL.out, if_pos HK.out, if_neg (by show ¬ (4 : Int) = 3; omega), if_pos rfl, show (((b + 1 : Nat) : Int) - 1) = (b : Int) by omega])
                  generalize sm (prt L a (((b + 1 : Nat) : Int) - 1)) = y at *
                  have HDf := Lib.hid hD
                  clear hD
                  go_wp2_with (at_builtin; go_loud (refine append_rec _ rfl (.tmp 142) (.tmp 144) 24 rfl w2.heap.size 30 (.agg #[.int .i64 0, .int .i64 0]) 2 16 Try.underlying24 rep_info rfl (by decide) u10 i _ rfl (HDf.out.out.alloc _) wr.heap.size 1 [.int .i64 0, .int .i64 y] rfl rfl (new_two _ _ _ (by first | rfl | exact World.size_setCell _ _ _) _ _) (two_one _ _) (by simp only [maxLen]; omega) (by omega) (by simp; omega) ?_))
                  intro v' w5 hown5 hg5
                  have HF : Hid (RfAt w l ops g c9 w2.heap.size (i + 1) v' (runL l ops (i + 1)) w5) := Lib.hid (by
                    rw [HRS.out, show stepL L ⟨4, a, b, by_⟩ = L from (by unfold stepL Op9.err; rw [if_neg (fun h => by have h2 : (4 : Int) ≤ 2 := h.2; omega)])]
                    exact HDf.out.done (by rw [HRE.out.1]; exact HK.out.symm) (by rw [HRE.out.2]; exact HM.out.symm) hown5 hg5)
                  clear hown5 hg5
                  go_wp2_with fail
                  go_roundw
                  case rel => exact ⟨i + 1, by omega, by go_num, HF.out⟩
                  case measure => simp [intOf]; omega

          · exact absurd ⟨by omega, fun h => c7 (.inl h)⟩ c6
        · obtain rfl : ops.length = i := by omega
          have HRR := Lib.hid hR
          obtain ⟨A9, c10, rfl, hl9⟩ := own_slice_n hR.out
          have HL9 := Lib.hid hl9
          clear hR hl9
          go_wp2_with fail
          go_ret3
          have hR := HRR.out
          obtain ⟨A8, c8, e8, _, _, hl8, hn8, _⟩ := own_slice hR.now
          injection e8 with e81 _ e82
          subst e81 e82
          exact ⟨A9, c10, _, _, rfl, HL9.out, hl8, hn8, hR.bel⟩
end Go.Proofs.Ytnjpehgmlfenbaa
