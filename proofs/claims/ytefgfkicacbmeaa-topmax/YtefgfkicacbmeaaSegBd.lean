/-
  What seg.build returns and leaves: its contract, walked over the translated text. No condition but what each theorem names.
-/
import Derived.Test.YtefgfkicacbmeaaSegUp
namespace Go.Proofs.Ytefgfkicacbmeaa
open Go.RowKit Words

theorem Lies.drop {w : World} {B b o : Nat} {xs : List Value} (h : Lies w B (some ⟨b, o, none⟩) xs) (k : Nat) : Lies w B (some ⟨b, o + k, none⟩) (xs.drop k) := fun hne => by
  obtain ⟨b', o', e, hb, hc⟩ := h (by intro e; subst e; simp at hne)
  injection e with e
  injection e with e1 e2
  subst e1 e2
  refine ⟨b, o + k, rfl, hb, fun j v hv => ?_⟩
  rw [List.getElem?_drop] at hv
  rw [Nat.add_assoc]
  exact hc _ v hv

/-- What seg.build leaves. -/
def Built9 (w : World) (l : List Int) (e : Ending) (w' : World) : Prop := e = .returned (.pointer (some ⟨w.heap.size, 0, none⟩)) ∧ Tree w' w.heap.size l ∧ w'.heap.size + 1 = w.heap.size + 2 * l.length ∧ Below w.heap.size w w'

set_option maxHeartbeats 1000000 in
/-- seg.build of one number. -/
theorem build_one (b o c : Nat) (x : Int) (w : World) (hc : w.cell? ⟨b, o, none⟩ = some (.int .i64 x)) (hx : Bd x) :
    Calls Try.prog 61 #[.slice (some ⟨b, o, none⟩) 1 c] w (Built9 w [x]) := by
  have hb := cell_lt hc
  have hb2 : b < w.heap.size := hb
  go_enter Try.func61, Try.ntmps61
  go_wp2_with fail
  go_region
  go_wp2_with fail
  go_ret
  refine ⟨rfl, .leaf w.heap.size x false 0 ((Blk.new w 121 (nodeC 1 x x false 0 none none)).drew) hx, by simp, ?_⟩
  exact bdN (bnew w _) 1

/-- The memory behind the first half; behind the second. -/
structure Bld1 (w W1 : World) (b o : Nat) (l : List Int) (h q : Nat) : Prop where
  left : Tree W1 (w.heap.size + 1) (l.take h)
  lies : Lies W1 W1.heap.size (some ⟨b, o, none⟩) (l.map (.int .i64))
  blk : Blk W1 w.heap.size 121 (nodeC q 0 0 false 0 none none)
  size : W1.heap.size = w.heap.size + 2 * h
  bel : Below w.heap.size w W1
structure Bld2 (w W2 : World) (l : List Int) (h m q : Nat) : Prop where
  left : Tree W2 (w.heap.size + 1) (l.take h)
  right : Tree W2 (w.heap.size + 2 * h) (l.drop h)
  blk : Blk W2 w.heap.size 121 (nodeC q 0 0 false 0 none none)
  size : W2.heap.size + 1 = w.heap.size + 2 * (h + m)
  bel : Below w.heap.size w W2

set_option maxHeartbeats 1000000 in
/-- seg.build. -/
theorem build_any : ∀ (n b o : Nat) (l : List Int) (c : Nat) (w : World), l.length ≤ n → 0 < l.length → l.length ≤ 300 → l.length ≤ c → Bds l → Lies w w.heap.size (some ⟨b, o, none⟩) (l.map (.int .i64)) →
    Calls Try.prog 61 #[.slice (some ⟨b, o, none⟩) l.length c] w (Built9 w l) := by
  intro n
  induction n with
  | zero => intro b o l c w h1 h2; omega
  | succ n ih =>
    intro b o l c w hn h0 h3 hc hd hL
    by_cases h1 : l.length = 1
    · obtain ⟨x, rfl⟩ : ∃ x, l = [x] := by
        match l, h1 with
        | [x], _ => exact ⟨x, rfl⟩
      obtain ⟨b', o', z, e, hb, hx, hce⟩ := hL.at_ (k := 0) (by simp)
      injection e with e
      injection e with e1 e2
      subst e1 e2
      obtain rfl : x = z := by simpa using hx
      exact build_one b o c x w hce (hd x (by simp))
    · obtain ⟨h, hh⟩ : ∃ h, l.length / 2 = h := ⟨_, rfl⟩
      obtain ⟨m, hm⟩ : ∃ m, l.length - h = m := ⟨_, rfl⟩
      obtain ⟨c2, hc2⟩ : ∃ c2, c - h = c2 := ⟨_, rfl⟩
      have la : (l.take h).length = h := by rw [List.length_take]; omega
      have lb : (l.drop h).length = m := by rw [List.length_drop]; omega
      have hlp : l = l.take h ++ l.drop h := (List.take_append_drop h l).symm
      have HI1 := Lib.hid (fun W hL => ih b o (l.take h) c W (by omega) (by omega) (by omega) (by omega) (fun z hz => hd z (List.mem_of_mem_take hz)) hL)
      have HI2 := Lib.hid (fun W hL => ih b (o + h) (l.drop h) c2 W (by omega) (by omega) (by omega) (by omega) (fun z hz => hd z (List.mem_of_mem_drop hz)) hL)
      rw [la, List.map_take] at HI1
      rw [lb, List.map_drop] at HI2
      have HL := Lib.hid hL
      have HD := Lib.hid hd
      have HP := Lib.hid hlp
      have HU := Lib.hid (fun (W : World) le su (hp : Pushed W w.heap.size le su (l.take h) (l.drop h)) => update_any w.heap.size le su (l.take h) (l.drop h) W hp (by omega))
      have LA := Lib.hid la
      have LB := Lib.hid lb
      obtain ⟨q, hq⟩ : ∃ q, l.length = q := ⟨_, rfl⟩
      rw [hq] at h1 hc h0 h3 hn hh hm ⊢
      have hq2 : (q : Int) / 2 = (h : Int) := by omega
      have HQ := Lib.hid hq
      have hhq : h ≤ q := by omega
      have hh0 : 0 < h := by omega
      have hhc : h < c := by omega
      have hne : ¬ c = h := by omega
      have hmp : 0 < m := by omega
      have hq1 : ((q : Int) == 1) = false := by simp; omega
      clear ih hL hd hlp la lb hq hh
      go_enter Try.func61, Try.ntmps61
      go_wp2_with fail
      have HB0 := Lib.hid (Blk.new w 121 (nodeC q 0 0 false 0 none none))
      have HL0 := Lib.hid (HL.out.alloc (.cells #[.int .i64 q, .int .i64 0, .int .i64 0, .bool false, .int .i64 0, .pointer none, .pointer none] 121))
      have hb0 := bnew w (.cells #[.int .i64 q, .int .i64 0, .int .i64 0, .bool false, .int .i64 0, .pointer none, .pointer none] 121)
      have hs0 : (w.alloc (.cells #[.int .i64 q, .int .i64 0, .int .i64 0, .bool false, .int .i64 0, .pointer none, .pointer none] 121)).heap.size = w.heap.size + 1 := by simp
      have HB0' : Hid (Blk (w.alloc (.cells #[.int .i64 q, .int .i64 0, .int .i64 0, .bool false, .int .i64 0, .pointer none, .pointer none] 121)) w.heap.size 121 (nodeC q 0 0 false 0 none none)) := HB0
      clear HB0
      generalize w.alloc (.cells #[.int .i64 q, .int .i64 0, .int .i64 0, .bool false, .int .i64 0, .pointer none, .pointer none] 121) = W0 at *
      have HC1 : Hid (Calls Try.prog 61 #[.slice (some ⟨b, o, none⟩) h c] W0.drew fun e W1 => e = .returned (.pointer (some ⟨w.heap.size + 1, 0, none⟩)) ∧ Bld1 w W1 b o l h q) := Lib.hid ((HI1.out W0.drew (HL0.out.take h)).mono (by
        rintro e W1 ⟨rfl, hT1, hs1, hb1⟩
        have hb1' : Below W0.heap.size W0 W1 := ⟨hb1.os, hb1.tape, hb1.output, hb1.size, hb1.block⟩
        have hT1' : Tree W1 W0.heap.size (l.take h) := hT1
        have hs1' : W1.heap.size + 1 = W0.heap.size + 2 * (l.take h).length := hs1
        rw [hs0] at hT1' hs1'
        refine ⟨by show Ending.returned (.pointer (some ⟨W0.heap.size, 0, none⟩)) = _; rw [hs0], hT1', HL0.out.on hb1', HB0'.out.below hb1' (by omega), by rw [LA.out] at hs1'; omega, chain hb0 hb1'⟩))
      have HC2 : Hid (∀ W1, Bld1 w W1 b o l h q → Calls Try.prog 61 #[.slice (some ⟨b, o + h, none⟩) m c2] W1 fun e W2 => e = .returned (.pointer (some ⟨w.heap.size + 2 * h, 0, none⟩)) ∧ Bld2 w W2 l h m q) := Lib.hid (fun W1 hB1 => (HI2.out W1 (hB1.lies.drop h)).mono (by
        rintro e W2 ⟨rfl, hT2, hs2, hb2⟩
        have hz := hB1.size
        rw [hz, LB.out] at hs2
        rw [hz] at hT2
        have hk : Keeps (Is W2.heap.size) W1 W2 := Keeps.ofBelow hb2
        refine ⟨by rw [hz], hB1.left.keeps hk (fun k k1 k2 e => by rw [LA.out] at k2; unfold Is at e; omega), hT2, hB1.blk.below hb2 (by omega), by omega, chain hB1.bel hb2⟩))
      clear HI1 HI2
      go_region_with (first
        | (go_at_call 61; (with_reducible refine HC1.out.mono ?_); rintro e W1 ⟨rfl, hB1⟩; have HB1 := Lib.hid hB1; clear hB1)
        | (go_at_call 61; (with_reducible refine (HC2.out _ HB1.out).mono ?_); rintro e W2 ⟨rfl, hB2⟩; have HB2 := Lib.hid hB2; obtain ⟨k0, k1, k2, k3, k4, k5, k6⟩ := ofB hB2.blk; have hfk := hB2.blk.frozen; clear hB2))
      all_goals
        go_wp2_with fail
        have hB2 := HB2.out
        have hk : Keeps (Is w.heap.size) W2 ((W2.setCell ⟨w.heap.size, 5, none⟩ (.pointer (some ⟨w.heap.size + 1, 0, none⟩))).setCell ⟨w.heap.size, 6, none⟩ (.pointer (some ⟨w.heap.size + 2 * h, 0, none⟩))) := ((Keeps.refl (Is w.heap.size) W2).put1 _ _).put1 _ _
        have hsz : ((W2.setCell ⟨w.heap.size, 5, none⟩ (.pointer (some ⟨w.heap.size + 1, 0, none⟩))).setCell ⟨w.heap.size, 6, none⟩ (.pointer (some ⟨w.heap.size + 2 * h, 0, none⟩))).heap.size = W2.heap.size := by simp only [World.size_setCell]
        have hqq : ((l.take h).length + (l.drop h).length : Nat) = q := by rw [LA.out, LB.out]; omega
        have hP : Pushed ((W2.setCell ⟨w.heap.size, 5, none⟩ (.pointer (some ⟨w.heap.size + 1, 0, none⟩))).setCell ⟨w.heap.size, 6, none⟩ (.pointer (some ⟨w.heap.size + 2 * h, 0, none⟩))) w.heap.size 0 0 (l.take h) (l.drop h) := by
          refine ⟨?_, hB2.left.keeps hk (fun k k1 k2 e => by unfold Is at e; omega), ?_⟩
          · rw [hqq, LA.out]
            exact (hB2.blk.put 5 _).put 6 _
          · rw [LA.out]
            exact hB2.right.keeps hk (fun k k1 k2 e => by unfold Is at e; omega)
        have HP2 := Lib.hid hP
        have HK2 := Lib.hid hk
        have HZ2 := Lib.hid hsz
        clear hB2 hk hsz hqq hP
        refine (HU.out _ 0 0 HP2.out).mono ?_
        rintro e W4 ⟨rfl, hT4, hk4, hz4⟩
        have HT4 := Lib.hid hT4
        have HZ4 := Lib.hid hz4
        clear hT4 hz4
        go_wp2_with fail
        go_ret
        refine ⟨rfl, by rw [HP.out]; exact HT4.out, ?_, ?_⟩
        · have h5 := HB2.out.size
          rw [HZ4.out, HZ2.out, HQ.out]
          omega
        · exact HB2.out.bel.trans ((HK2.out.trans hk4).below (by have := HB2.out.blk.lt; omega) fun k k1 k2 => by unfold Is at k2; omega)
end Go.Proofs.Ytefgfkicacbmeaa
