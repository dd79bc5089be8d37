/-
  What (*node).apply makes of a tree, and what (*node).update and (*node).push leave: contracts, walked over the translated text. No condition but what each theorem names.
-/
import Derived.Test.YtefgfkicacbmeaaSegNd
import Derived.Deep.Cut
namespace Go.Proofs.Ytefgfkicacbmeaa
open Go.RowKit Words

theorem Tree.fits {w : World} {g : Nat} {l : List Int} (h : Tree w g l) (hn : l.length ≤ 300) : -4398046511104 ≤ mn l ∧ mn l ≤ 4398046511104 ∧ -4503599627370496 ≤ sm l ∧ sm l ≤ 4503599627370496 := by
  have h1 := mn_bd h.bds
  have h2 := sm_bd h.bds
  unfold Bd at h1
  omega
theorem mul_fits {b : Int} {n : Nat} (hn : n ≤ 300) (h0 : -2199023255552 ≤ b) (h1 : b ≤ 2199023255552) : -4503599627370496 ≤ b * (n : Int) ∧ b * (n : Int) ≤ 4503599627370496 := by
  have h2 : b * (n : Int) ≤ 2199023255552 * (n : Int) := Int.mul_le_mul_of_nonneg_right h1 (by omega)
  have h3 : -2199023255552 * (n : Int) ≤ b * (n : Int) := Int.mul_le_mul_of_nonneg_right h0 (by omega)
  omega

/-- (*node).apply. -/
theorem apply_any (g : Nat) (l : List Int) (s2 : Bool) (b2 : Int) (w : World) (hT : Tree w g l) (hn : l.length ≤ 300) (hd : Bds (l.map (app s2 b2))) :
    Calls Try.prog 87 #[.pointer (some ⟨g, 0, none⟩), .agg #[.bool s2, .int .i64 b2]] w fun e w' => e = .returned (.tuple #[]) ∧ Tree w' g (l.map (app s2 b2)) ∧ Keeps (Is g) w w' := by
  have hf := hT.fits hn
  have hne := hT.ne
  have hb : -2199023255552 ≤ b2 ∧ b2 ≤ 2199023255552 := by
    cases l with
    | nil => exact absurd rfl hne
    | cons z l => exact by_bd (s := s2) (hT.bds z (by simp)) (hd _ (by simp))
  have hm := mul_fits hn hb.1 hb.2
  cases hT with
  | leaf g x s b hB hx =>
    have hx2 := hx
    unfold Bd at hx2
    refine (apply_blk g 1 x x s b none none s2 b2 w hB (by omega) (by omega) (by omega) (by omega) (by omega) (by omega) (by omega) (by omega)).mono ?_
    rintro e w' ⟨rfl, hB', hk⟩
    refine ⟨rfl, ?_, hk⟩
    have h2 := hd (app s2 b2 x) (by simp)
    refine .leaf g _ (thenS s s2) (thenW b s2 b2) ?_ h2
    rw [Int.mul_one] at hB'
    exact hB'
  | node g la lb l s b hB ha hr hl hd0 =>
    refine (apply_blk g _ _ _ s b _ _ s2 b2 w hB hf.1 hf.2.1 hf.2.2.1 hf.2.2.2 (by omega) (by omega) hm.1 hm.2).mono ?_
    rintro e w' ⟨rfl, hB', hk⟩
    refine ⟨rfl, ?_, hk⟩
    have p1 := ha.pos
    have p2 := hr.pos
    have hlen : l.length = la.length + lb.length := by rw [hl, List.length_map, List.length_append]
    have hw : thenW b s2 b2 = thenB b s2 b2 := by
      unfold thenW thenB
      cases s2 with
      | true => rfl
      | false =>
        obtain ⟨z, r, hz⟩ : ∃ z r, la = z :: r := by
          cases la with
          | nil => simp at p1
          | cons z r => exact ⟨z, r, rfl⟩
        have h1 : Bd z := ha.bds z (by rw [hz]; simp)
        have h2 : Bd (app false b2 (app s b z)) := hd _ (List.mem_map.2 ⟨app s b z, by rw [hl, hz]; simp, rfl⟩)
        rw [app_then] at h2
        have h3 := by_bd h1 h2
        unfold thenB at h3
        show wrap64 (b + b2) = b + b2
        have h4 : -2199023255552 ≤ b + b2 ∧ b + b2 ≤ 2199023255552 := h3
        exact IntWalk.wrap64_in _ (by omega)
    rw [hw] at hB'
    have e3 : (l.map (app s2 b2)).length = l.length := by simp
    refine .node g la lb _ (thenS s s2) (thenB b s2 b2) ?_ (ha.keeps hk fun k k1 _ e => by unfold Is at e; omega) (hr.keeps hk fun k k1 _ e => by unfold Is at e; omega) ?_ hd
    · rw [e3, mn_app s2 b2 hne, sm_app]
      exact hB'
    · rw [hl, List.map_map]
      exact List.map_congr_left fun z _ => app_then s s2 b b2 z

theorem upd_size (w : World) (p q : Addr) (u v : Value) : (((w.setCell p u).setCell q v).drew).drew.heap.size = w.heap.size := by
  show ((w.setCell p u).setCell q v).heap.size = w.heap.size
  rw [World.size_setCell, World.size_setCell]

set_option maxHeartbeats 2000000 in
/-- (*node).update, of blocks alone. -/
theorem update_blk (g ga gb : Nat) (n le su : Int) (s : Bool) (b : Int) (na lea sua nb leb sub : Int) (sa sb : Bool) (ba bb : Int) (pa qa pb qb : Option Addr) (w : World)
    (hB : Blk w g 121 (nodeC n le su s b (some ⟨ga, 0, none⟩) (some ⟨gb, 0, none⟩))) (hA : Blk w ga 121 (nodeC na lea sua sa ba pa qa)) (hC : Blk w gb 121 (nodeC nb leb sub sb bb pb qb))
    (s0 : -4503599627370496 ≤ sua) (s1 : sua ≤ 4503599627370496) (t0 : -4503599627370496 ≤ sub) (t1 : sub ≤ 4503599627370496) :
    Calls Try.prog 81 #[.pointer (some ⟨g, 0, none⟩)] w fun e w' => e = .returned (.tuple #[]) ∧ Blk w' g 121 (nodeC n (min lea leb) (sua + sub) s b (some ⟨ga, 0, none⟩) (some ⟨gb, 0, none⟩)) ∧ Keeps (Is g) w w' ∧ w'.heap.size = w.heap.size := by
  obtain ⟨c0, c1, c2, c3, c4, c5, c6⟩ := ofB hB
  obtain ⟨a0, a1, a2, a3, a4, a5, a6⟩ := ofB hA
  obtain ⟨d0, d1, d2, d3, d4, d5, d6⟩ := ofB hC
  have hfz := hB.frozen
  have HB := Lib.hid hB
  clear c0 c3 c4 a0 a3 a4 a5 a6 d0 d3 d4 d5 d6
  clear hB hA hC
  rcases Int.lt_trichotomy lea leb with h | h | h
  · rw [Int.min_eq_left (by omega)]
    go_enter Try.func81, Try.ntmps81
    go_wp2_with fail
    go_region
    go_wp2_with fail
    go_region
    go_wp2_with fail
    exact bodyPost_end (v := .tuple #[]) (by simp [results, Try.results81, go_sem]) rfl ⟨rfl, (((HB.out.put 1 _).put 2 _).drew).drew, ((((Keeps.refl (Is g) w).put1 _ _).put1 _ _).drew).drew, upd_size _ _ _ _ _⟩
  · subst h
    rw [Int.min_self]
    go_enter Try.func81, Try.ntmps81
    go_wp2_with fail
    go_region
    go_wp2_with fail
    go_region
    go_wp2_with fail
    exact bodyPost_end (v := .tuple #[]) (by simp [results, Try.results81, go_sem]) rfl ⟨rfl, (((HB.out.put 1 _).put 2 _).drew).drew, ((((Keeps.refl (Is g) w).put1 _ _).put1 _ _).drew).drew, upd_size _ _ _ _ _⟩
  · rw [Int.min_eq_right (by omega)]
    go_enter Try.func81, Try.ntmps81
    go_wp2_with fail
    go_region
    go_wp2_with fail
    go_region
    go_wp2_with fail
    exact bodyPost_end (v := .tuple #[]) (by simp [results, Try.results81, go_sem]) rfl ⟨rfl, (((HB.out.put 1 _).put 2 _).drew).drew, ((((Keeps.refl (Is g) w).put1 _ _).put1 _ _).drew).drew, upd_size _ _ _ _ _⟩

/-- (*node).update, of a node that has handed its change on. -/
theorem update_any (g : Nat) (le su : Int) (la lb : List Int) (w : World) (h : Pushed w g le su la lb) (hn : la.length + lb.length ≤ 300) :
    Calls Try.prog 81 #[.pointer (some ⟨g, 0, none⟩)] w fun e w' => e = .returned (.tuple #[]) ∧ Tree w' g (la ++ lb) ∧ Keeps (Is g) w w' ∧ w'.heap.size = w.heap.size := by
  obtain ⟨sa, ba, pa, qa, hA⟩ := h.left.head
  obtain ⟨sb, bb, pb, qb, hC⟩ := h.right.head
  have p1 := h.left.pos
  have f1 := h.left.fits (by omega)
  have f2 := h.right.fits (by omega)
  refine (update_blk g _ _ _ _ _ _ _ _ _ _ _ _ _ sa sb ba bb pa qa pb qb w h.blk hA hC f1.2.2.1 f1.2.2.2 f2.2.2.1 f2.2.2.2).mono ?_
  rintro e w' ⟨rfl, hB, hk, hz⟩
  refine ⟨rfl, Pushed.tree ⟨hB, h.left.keeps hk fun k k1 _ e => by unfold Is at e; omega, h.right.keeps hk fun k k1 _ e => by unfold Is at e; omega⟩, hk, hz⟩

/-- The children of a node, by their number. -/
theorem idx0 (p q : Option Addr) (w : World) : (Instr.index 119 (.agg #[.pointer p, .pointer q]) (.int .i64 0)).run Try.prog w = .ok (.pointer p) w := by kernel_rfl
theorem idx1 (p q : Option Addr) (w : World) : (Instr.index 119 (.agg #[.pointer p, .pointer q]) (.int .i64 1)).run Try.prog w = .ok (.pointer q) w := by kernel_rfl
/-- The memory while a change is handed on. -/
structure PushAt (g : Nat) (n le su : Int) (s : Bool) (b : Int) (la lb ma mb : List Int) (w0 w : World) : Prop where
  blk : Blk w g 121 (nodeC n le su s b (some ⟨g + 1, 0, none⟩) (some ⟨g + 2 * la.length, 0, none⟩))
  left : Tree w (g + 1) ma
  right : Tree w (g + 2 * la.length) mb
  kp : Keeps (InT g (la.length + lb.length)) w0 w

set_option maxHeartbeats 1000000 in
/-- (*node).push. -/
theorem push_any (g : Nat) (n le su : Int) (s : Bool) (b : Int) (la lb : List Int) (w : World) (hB : Blk w g 121 (nodeC n le su s b (some ⟨g + 1, 0, none⟩) (some ⟨g + 2 * la.length, 0, none⟩)))
    (hA : Tree w (g + 1) la) (hC : Tree w (g + 2 * la.length) lb) (hn : la.length + lb.length ≤ 300) (hda : Bds (la.map (app s b))) (hdb : Bds (lb.map (app s b))) :
    Calls Try.prog 88 #[.pointer (some ⟨g, 0, none⟩)] w fun e w' => e = .returned (.tuple #[]) ∧ PushAt g n le su false 0 la lb (la.map (app s b)) (lb.map (app s b)) w w' := by
  have p1 := hA.pos
  have p2 := hC.pos
  have HA1 := Lib.hid (fun W h => apply_any (g + 1) la s b W h (by omega) hda)
  have HA2 := Lib.hid (fun W h => apply_any (g + 2 * la.length) lb s b W h (by omega) hdb)
  obtain ⟨c0, c1, c2, c3, c4, c5, c6⟩ := ofB hB
  have HP0 := Lib.hid (show PushAt g n le su s b la lb la lb w w from ⟨hB, hA, hC, Keeps.refl _ _⟩)
  have HL1 := Lib.hid (show (la.map (app s b)).length = la.length by simp)
  have i0 := idx0 (some ⟨g + 1, 0, none⟩) (some ⟨g + 2 * la.length, 0, none⟩)
  have i1 := idx1 (some ⟨g + 1, 0, none⟩) (some ⟨g + 2 * la.length, 0, none⟩)
  clear hB hA hC hda hdb c0 c1 c2 c3 c4
  go_enter Try.func88, Try.ntmps88
  go_wp2_with fail
  go_loopw [8] (fun a w' => ∃ k : Nat, k ≤ 2 ∧ a = .int .i64 k ∧ PushAt g n le su s b la lb (if 0 < k then la.map (app s b) else la) (if 1 < k then lb.map (app s b) else lb) w w') (fun a _ => 2 - (intOf a).toNat)
  case atStart => exact ⟨0, by omega, rfl, HP0.out⟩
  case round =>
    obtain ⟨k, hk, rfl, hP⟩ := hrel
    obtain ⟨c0, c1, c2, c3, c4, c5, c6⟩ := ofB hP.blk
    have hfz := hP.blk.frozen
    have HP := Lib.hid hP
    clear hP HP0
    have h3 : k = 0 ∨ k = 1 ∨ k = 2 := by omega
    clear hk
    rcases h3 with rfl | rfl | rfl
    · have hP : PushAt g n le su s b la lb la lb w wr := by simpa using HP.out
      have HP1 := Lib.hid hP
      clear HP hP
      go_wp2_with fail
      refine (HA1.out _ HP1.out.left).mono ?_
      rintro e w1 ⟨rfl, hT1, hk1⟩
      have hP := HP1.out
      have hP2 : PushAt g n le su s b la lb (la.map (app s b)) lb w w1 := ⟨hP.blk.keeps hk1 (by unfold Is; omega), hT1, hP.right.keeps hk1 fun k k1 _ e => (by unfold Is at e; omega), hP.kp.trans (hk1.mono fun k e => by unfold Is at e; unfold InT; omega)⟩
      have HP2 := Lib.hid hP2
      clear hP hP2 hT1 hk1
      go_wp2_with fail
      go_roundw
      case rel => exact ⟨1, by omega, rfl, by simpa using HP2.out⟩
      case measure => simp [intOf]
    · have hP : PushAt g n le su s b la lb (la.map (app s b)) lb w wr := by simpa using HP.out
      have HP1 := Lib.hid hP
      clear HP hP
      go_wp2_with fail
      refine (HA2.out _ HP1.out.right).mono ?_
      rintro e w1 ⟨rfl, hT1, hk1⟩
      have hP := HP1.out
      have hP2 : PushAt g n le su s b la lb (la.map (app s b)) (lb.map (app s b)) w w1 := ⟨hP.blk.keeps hk1 (by unfold Is; omega), hP.left.keeps hk1 fun k k1 k2 e => (by rw [HL1.out] at k2; unfold Is at e; omega), hT1, hP.kp.trans (hk1.mono fun k e => by unfold Is at e; unfold InT; omega)⟩
      have HP2 := Lib.hid hP2
      clear hP hP2 hT1 hk1
      go_wp2_with fail
      go_roundw
      case rel => exact ⟨2, by omega, rfl, by simpa using HP2.out⟩
      case measure => simp [intOf]
    · have hP : PushAt g n le su s b la lb (la.map (app s b)) (lb.map (app s b)) w wr := by simpa using HP.out
      have HP1 := Lib.hid hP
      clear HP hP
      go_wp2_with fail
      have hP := HP1.out
      have hk : Keeps (Is g) wr ((wr.setCell ⟨g, 3, none⟩ (.bool false)).setCell ⟨g, 4, none⟩ (.int .i64 0)) := ((Keeps.refl (Is g) wr).put1 _ _).put1 _ _
      exact bodyPost_end (v := .tuple #[]) (by simp [results, Try.results88, go_sem]) rfl ⟨rfl, (hP.blk.put 3 _).put 4 _, hP.left.keeps hk fun k k1 _ e => (by unfold Is at e; omega), hP.right.keeps hk fun k k1 _ e => (by unfold Is at e; omega), hP.kp.trans (hk.mono fun k e => by unfold Is at e; unfold InT; omega)⟩
end Go.Proofs.Ytefgfkicacbmeaa
