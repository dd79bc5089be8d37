/-
  What (*node).appendTo returns and leaves: its contract, walked over the translated text. No condition but what each theorem names.
-/
import Derived.Test.YtefgfkicacbmeaaSegUp
namespace Go.Proofs.Ytefgfkicacbmeaa
open Go.RowKit Words

theorem sint_info : (Try.prog.info? 3).map (fun i => (i.zero, i.size, i.bytes)) = some (some (.int .i64 0), 1, 8) := by kernel_rfl

/-- A row of a call's own stays where its blocks stay. -/
theorem own_keeps {w w' : World} {base sz : Nat} {e : TypeId} {v : Value} {n : Nat} {xs : List Value} (h : w.ownsRow base e sz v n xs) {S : Nat → Prop} (hk : Keeps S w w') (hs : ∀ k, base ≤ k → ¬ S k) : w'.ownsRow base e sz v n xs := by
  refine ⟨h.1, ?_⟩
  rcases h.2 with ⟨rfl, hn⟩ | ⟨g, cap, cur, rfl, hg, hh, hr⟩
  · exact .inl ⟨rfl, hn⟩
  · refine .inr ⟨g, cap, cur, rfl, hg, (hk.block g ?_ (hs g hg)).trans hh, hr⟩
    rcases Nat.lt_or_ge g w.heap.size with h1 | h1
    · exact h1
    · rw [Array.getElem?_eq_none h1] at hh; cases hh

/-- A tree's blocks, and all from base on. -/
def Ap (g n base k : Nat) : Prop := InT g n k ∨ base ≤ k
/-- What appendTo leaves. -/
def Appd (g n base : Nat) (m : Nat) (ys : List Value) (w : World) (e : Ending) (w' : World) : Prop := ∃ v, e = .returned v ∧ w'.ownsRow base 3 1 v m ys ∧ Keeps (Ap g n base) w w'

/-- Three states of the loop over the children. -/
def ApRel (A : World → Prop) (B C : Value → World → Prop) (v : Value) (t1 t25 : Value) (w : World) : Prop := (t25 = .int .i64 0 ∧ t1 = v ∧ A w) ∨ (t25 = .int .i64 1 ∧ B t1 w) ∨ (t25 = .int .i64 2 ∧ C t1 w)

/-- The memory ahead of the first child, of the second, behind both. -/
structure Ap0 (g na nb base : Nat) (v : Value) (m : Nat) (xs : List Value) (A1 B1 : List Int) (w0 w : World) : Prop where
  left : Tree w (g + 1) A1
  right : Tree w (g + 2 * na) B1
  own : w.ownsRow base 3 1 v m xs
  kp : Keeps (Ap g (na + nb) base) w0 w
structure Ap1 (g na nb base : Nat) (m : Nat) (xs : List Value) (B1 : List Int) (w0 : World) (v : Value) (w : World) : Prop where
  right : Tree w (g + 2 * na) B1
  own : w.ownsRow base 3 1 v m xs
  kp : Keeps (Ap g (na + nb) base) w0 w
structure Ap2 (g na nb base : Nat) (m : Nat) (xs : List Value) (w0 : World) (v : Value) (w : World) : Prop where
  own : w.ownsRow base 3 1 v m xs
  kp : Keeps (Ap g (na + nb) base) w0 w

set_option maxHeartbeats 1000000 in
/-- (*node).appendTo of one number. -/
theorem append1 (g : Nat) (x : Int) (s : Bool) (b : Int) (v : Value) (m : Nat) (xs : List Value) (base : Nat) (w : World) (hB : Blk w g 121 (nodeC 1 x x s b none none)) (hb : base ≤ w.heap.size) (hm : m ≤ 1000) (hO : w.ownsRow base 3 1 v m xs) :
    Calls Try.prog 63 #[.pointer (some ⟨g, 0, none⟩), v] w (Appd g 1 base (m + 1) (xs ++ [.int .i64 x]) w) := by
  obtain ⟨c0, c1, c2, c3, c4, c5, c6⟩ := ofB hB
  have HO := Lib.hid hO
  clear hB hO c1 c3 c4 c5 c6
  go_enter Try.func63, Try.ntmps63
  go_wp2_with (at_builtin; go_loud (refine append_one _ rfl (.tmp 12) (.tmp 17) 22 rfl base 3 (.int .i64 0) 8 Try.underlying22 sint_info rfl v m xs rfl (HO.out.alloc _) w.heap.size 1 (.int .i64 x) rfl (by simp) rfl (by simp only [maxLen]; omega) (by omega) (by simp; omega) ?_))
  intro v1 w2 hown1 hg1
  have HO1 := Lib.hid hown1
  have HG1 := Lib.hid hg1
  clear hown1 hg1
  go_wp2_with fail
  go_ret
  have hg := HG1.out
  refine ⟨v1, rfl, HO1.out, ⟨hg.os, hg.tape, hg.output, Nat.le_trans (by simp) hg.size, fun k hk hs => (hg.block k (by simp; omega) (fun e => hs (.inr (HO.out.lt k e.symm).1))).trans (Below.heap_alloc w _ k hk)⟩⟩

set_option maxHeartbeats 1000000 in
/-- (*node).appendTo. -/
theorem appendTo_any : ∀ (n g : Nat) (l : List Int) (v : Value) (m : Nat) (xs : List Value) (base : Nat) (w : World), l.length ≤ n → l.length ≤ 300 → Tree w g l → g + 2 * l.length ≤ base + 1 → base ≤ w.heap.size → m + l.length ≤ 1000 → w.ownsRow base 3 1 v m xs →
    Calls Try.prog 63 #[.pointer (some ⟨g, 0, none⟩), v] w (Appd g l.length base (m + l.length) (xs ++ l.map (.int .i64)) w) := by
  intro n
  induction n with
  | zero => intro g l v m xs base w h1 h2 hT; have := hT.pos; omega
  | succ n ih =>
    intro g l v m xs base w hn h3 hT hgb hbw hm hO
    cases hT with
    | leaf g x s b hB hx => exact append1 g x s b v m xs base w hB hbw (by omega) hO
    | node g la lb l s b hB ha hr hl hd =>
      have p1 := ha.pos
      have p2 := hr.pos
      have hlen : l.length = la.length + lb.length := by rw [hl, List.length_map, List.length_append]
      have hl2 : l = la.map (app s b) ++ lb.map (app s b) := by rw [hl, List.map_append]
      have hda : Bds (la.map (app s b)) := by rw [hl2] at hd; exact hd.left
      have hdb : Bds (lb.map (app s b)) := by rw [hl2] at hd; exact hd.right
      have lena : (la.map (app s b)).length = la.length := by simp
      have lenb : (lb.map (app s b)).length = lb.length := by simp
      have HPu := Lib.hid (push_any g l.length (mn l) (sm l) s b la lb w hB ha hr (by omega) hda hdb)
      have hc0 := (ofB hB).1
      have hne : ((l.length : Int) == 1) = false := by simp; omega
      clear hB ha hr hd hda hdb hl
      generalize hA : la.map (app s b) = A1 at *
      generalize hB1 : lb.map (app s b) = B1 at *
      generalize hna : la.length = na at *
      generalize hnb : lb.length = nb at *
      have HS0 : Hid (∀ w1, PushAt g l.length (mn l) (sm l) false 0 la lb A1 B1 w w1 → Ap0 g na nb base v m xs A1 B1 w w1) := Lib.hid (fun w1 hP => by
        have hk := hP.kp
        rw [hna, hnb] at hk
        have hr := hP.right
        rw [hna] at hr
        exact ⟨hP.left, hr, own_keeps hO hk (fun k k1 k2 => by unfold InT at k2; omega), hk.mono fun k e => .inl e⟩)
      have HS1 : Hid (∀ w1, Ap0 g na nb base v m xs A1 B1 w w1 → Calls Try.prog 63 #[.pointer (some ⟨g + 1, 0, none⟩), v] w1 fun e w2 => ∃ v1, e = .returned v1 ∧ Ap1 g na nb base (m + na) (xs ++ A1.map (.int .i64)) B1 w v1 w2) := Lib.hid (fun w1 hP => by
        refine (ih (g + 1) A1 v m xs base w1 (by omega) (by omega) hP.left (by omega) (Nat.le_trans hbw hP.kp.size) (by omega) hP.own).mono ?_
        rintro e w2 ⟨v1, rfl, ho, hk⟩
        rw [lena] at ho hk
        exact ⟨v1, rfl, hP.right.keeps hk (fun k k1 k2 e => by rw [lenb] at k2; unfold Ap InT at e; omega), ho, hP.kp.trans (hk.mono fun k e => by unfold Ap InT at *; omega)⟩)
      have HS2 : Hid (∀ v1 w1, Ap1 g na nb base (m + na) (xs ++ A1.map (.int .i64)) B1 w v1 w1 → Calls Try.prog 63 #[.pointer (some ⟨g + 2 * na, 0, none⟩), v1] w1 fun e w2 => ∃ v2, e = .returned v2 ∧ Ap2 g na nb base (m + l.length) (xs ++ l.map (.int .i64)) w v2 w2) := Lib.hid (fun v1 w1 hP => by
        refine (ih (g + 2 * na) B1 v1 (m + na) (xs ++ A1.map (.int .i64)) base w1 (by omega) (by omega) hP.right (by omega) (Nat.le_trans hbw hP.kp.size) (by omega) hP.own).mono ?_
        rintro e w2 ⟨v2, rfl, ho, hk⟩
        rw [lenb] at ho hk
        refine ⟨v2, rfl, ?_, hP.kp.trans (hk.mono fun k e => by unfold Ap InT at *; omega)⟩
        rw [hl2, List.length_append, lena, lenb, List.map_append, ← List.append_assoc, ← Nat.add_assoc]
        exact ho)
      have HLN := Lib.hid hlen
      have i0 := idx0 (some ⟨g + 1, 0, none⟩) (some ⟨g + 2 * na, 0, none⟩)
      have i1 := idx1 (some ⟨g + 1, 0, none⟩) (some ⟨g + 2 * na, 0, none⟩)
      have HNA := Lib.hid hna
      clear hO ih hl2 hA hB1 hna hnb lena lenb hlen
      generalize l.map (Value.int .i64) = ys at *
      generalize l.length = q at *
      go_enter Try.func63, Try.ntmps63
      go_wp2_with fail
      refine HPu.out.mono ?_
      rintro e w1 ⟨rfl, hP⟩
      have HA0 := Lib.hid (HS0.out _ hP)
      have hb := hP.blk
      rw [HNA.out] at hb
      obtain ⟨d0, d1, d2, d3, d4, d5, d6⟩ := ofB hb
      clear hP hb d0 d1 d2 d3 d4 hc0
      go_wp2_with fail
      go_loopw [1, 25] (fun t1 t25 w' => ApRel (Ap0 g na nb base v m xs A1 B1 w) (Ap1 g na nb base (m + na) (xs ++ A1.map (.int .i64)) B1 w) (Ap2 g na nb base (m + q) (xs ++ ys) w) v t1 t25 w') (fun _ a _ => 2 - (intOf a).toNat)
      case atStart => exact .inl ⟨rfl, rfl, HA0.out⟩
      case round =>
        clear HA0 d5 d6
        rcases hrel with ⟨rfl, rfl, hV⟩ | ⟨rfl, hV⟩ | ⟨rfl, hV⟩
        · have HV := Lib.hid hV
          clear hV
          go_wp2_with fail
          refine (HS1.out _ HV.out).mono ?_
          rintro e w2 ⟨v1, rfl, hV2⟩
          have HV2 := Lib.hid hV2
          clear hV2
          go_wp2_with fail
          go_roundw
          case rel => exact .inr (.inl ⟨rfl, HV2.out⟩)
          case measure => simp [intOf]
        · have HV := Lib.hid hV
          clear hV
          go_wp2_with fail
          refine (HS2.out _ _ HV.out).mono ?_
          rintro e w2 ⟨v1, rfl, hV2⟩
          have HV2 := Lib.hid hV2
          clear hV2
          go_wp2_with fail
          go_roundw
          case rel => exact .inr (.inr ⟨rfl, HV2.out⟩)
          case measure => simp [intOf]
        · have HV := Lib.hid hV
          clear hV
          go_wp2_with fail
          go_ret
          have hk := HV.out.kp
          rw [← HLN.out] at hk
          exact ⟨_, rfl, HV.out.own, hk⟩
end Go.Proofs.Ytefgfkicacbmeaa
