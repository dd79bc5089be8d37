/-
  The small functions of the ninth chapter's statements, but for Ops: contracts, walked over the translated text. No condition but what each theorem names.
-/
import Derived.Test.YtnjpehgmlfenbaaSegPl
import Derived.Test.YtnjpehgmlfenbaaSegRf
import Derived.Test.YtnjpehgmlfenbaaParRec
import Derived.Test.YtnjpehgmlfenbaaKeep8
namespace Go.Proofs.Ytnjpehgmlfenbaa
open Go.RowKit Words

/-- 'append(out, xs...)', sz cells an element, out nil or the call's own, xs nil or in memory. -/
theorem append_recs {P : Program} (w : World) {ops : Array Oper} {rest : List Oper} {o : Oper} {a : Act} {Q : Exit → Act → World → Prop} (hgd : o.guard = none) (s x : Operand) (t : TypeId)
    (ho : o.op = .call { callee := .builtin .append, args := #[s, x], argTypes := #[t, t] }) (base : Nat) (e : TypeId) (z : Value) (sz bytes : Nat) (ht : P.underlying t = some (.slice e))
    (hinfo : (P.info? e).map (fun i => (i.zero, i.size, i.bytes)) = some (some z, sz, bytes)) (hz : z.cells.size = sz) (hsz : 0 < sz) (v : Value) (n : Nat) (xs : List Value) (hs : a.eval s = v) (hown : w.ownsRow base e sz v n xs)
    (A : Option Addr) (m c : Nat) (news : List Value) (hx : a.eval x = .slice A m c) (hm : news.length = m * sz) (hnone : A = none → c = 0) (hl : Lies w w.heap.size A news) (h1 : ∀ u ∈ news, u.oneCell' = true) (h63 : n + m ≤ maxLen) (hbytes : (n + m) * bytes ≤ 140737488355328) (hbase : base ≤ w.heap.size)
    (h : ∀ v' w', w'.ownsRow base e sz v' (n + m) (xs ++ news) → w.grownBy w' v.ownBlock → wpList P ops Q rest (a.put o.dst v') w') : wpList P ops Q (o :: rest) a w := by
  obtain ⟨i, hi, hz0, hz1, hz2⟩ := info_parts hinfo
  cases A with
  | none =>
    have hc := hnone rfl
    have hn : news = [] := by
      by_cases hne : news = []
      · exact hne
      · obtain ⟨b, o', e', _⟩ := hl hne
        cases e'
    subst hn
    have hm0 : m = 0 := by
      have h2 : m * sz = 0 := hm.symm
      rcases Nat.mul_eq_zero.1 h2 with e2 | e2
      · exact e2
      · omega
    subst hm0 hc
    exact wpList_append_own_none hgd s x t ho base e i sz ht hi v n xs hs hown hx (h v w (by simpa using hown) ⟨rfl, rfl, rfl, Nat.le_refl _, fun _ _ _ => rfl⟩)
  | some ad =>
    refine wpList_append_own w hgd s x t ho base e i z sz bytes ht hi hz0 hz1 hz2 hz hsz v n xs hs hown ad m c news hx hm ?_ h1 h63 hbytes hbase fun v' w' h2 h3 _ => h v' w' h2 h3
    intro j u hj
    obtain ⟨b, o', e', _, hc⟩ := hl (by intro e'; subst e'; simp at hj)
    obtain rfl := Option.some.inj e'
    rw [Addr.add_lit]
    exact hc j u hj

/-- .. at a step of a region that draws its order. -/
theorem step_append_recs {P : Program} (w : World) {ops : Array Oper} {o : Oper} {a : Act} {K : Act → World → Prop} {Q : Exit → Act → World → Prop} {E : Prop} (hgd : o.guard = none) (s x : Operand) (t : TypeId)
    (ho : o.op = .call { callee := .builtin .append, args := #[s, x], argTypes := #[t, t] }) (base : Nat) (e : TypeId) (z : Value) (sz bytes : Nat) (ht : P.underlying t = some (.slice e))
    (hinfo : (P.info? e).map (fun i => (i.zero, i.size, i.bytes)) = some (some z, sz, bytes)) (hz : z.cells.size = sz) (hsz : 0 < sz) (v : Value) (n : Nat) (xs : List Value) (hs : a.eval s = v) (hown : w.ownsRow base e sz v n xs)
    (A : Option Addr) (m c : Nat) (news : List Value) (hx : a.eval x = .slice A m c) (hm : news.length = m * sz) (hnone : A = none → c = 0) (hl : Lies w w.heap.size A news) (h1 : ∀ u ∈ news, u.oneCell' = true) (h63 : n + m ≤ maxLen) (hbytes : (n + m) * bytes ≤ 140737488355328) (hbase : base ≤ w.heap.size)
    (h : ∀ v' w', w'.ownsRow base e sz v' (n + m) (xs ++ news) → w.grownBy w' v.ownBlock → K (a.put o.dst v') w') : if Region.wanted o (yielded ops a.tmps) = true then Oper.wp P o a w K Q else E := by
  have hw : Region.wanted o (yielded ops a.tmps) = true := by simp [Region.wanted, hgd]
  rw [if_pos hw]
  obtain ⟨i, hi, hz0, hz1, hz2⟩ := info_parts hinfo
  cases A with
  | none =>
    have hc := hnone rfl
    have hn : news = [] := by
      by_cases hne : news = []
      · exact hne
      · obtain ⟨b, o', e', _⟩ := hl hne
        cases e'
    subst hn
    have hm0 : m = 0 := by
      have h2 : m * sz = 0 := hm.symm
      rcases Nat.mul_eq_zero.1 h2 with e2 | e2
      · exact e2
      · omega
    subst hm0 hc
    have hrun := run_append_owned_none (P := P) (w := w) base t o.type e i sz ht hi v n xs hown
    unfold Oper.wp
    simp [execOp, ho, resolve, invoke, builtin, hs, hx, hrun, Result.andThen]
    exact h v w (by simpa using hown) ⟨rfl, rfl, rfl, Nat.le_refl _, fun _ _ _ => rfl⟩
  | some ad =>
    refine wp_append_own w s x t ho base e i z sz bytes ht hi hz0 hz1 hz2 hz hsz v n xs hs hown ad m c news hx hm ?_ h1 h63 hbytes hbase fun v' w' h2 h3 _ => h v' w' h2 h3
    intro j u hj
    obtain ⟨b, o', e', _, hc⟩ := hl (by intro e'; subst e'; simp at hj)
    obtain rfl := Option.some.inj e'
    rw [Addr.add_lit]
    exact hc j u hj

theorem op9_info : (Try.prog.info? 39).map (fun i => (i.zero, i.size, i.bytes)) = some (some (.agg #[.int .i64 0, .int .i64 0, .int .i64 0, .int .i64 0]), 4, 32) := by kernel_rfl

/-- A row of a call's own, as a slice; its capacity. -/
theorem own_slice_all {w : World} {base sz : Nat} {e : TypeId} {v : Value} {n : Nat} {xs : List Value} (h : w.ownsRow base e sz v n xs) : ∃ A c, v = .slice A n c ∧ Lies w w.heap.size A xs ∧ (A = none → c = 0) ∧ New base A := by
  obtain ⟨A, c, e1, hl⟩ := own_slice_n h
  refine ⟨A, c, e1, hl, fun e2 => ?_, fun ad e2 => ?_⟩
  · rcases h.2 with ⟨h3, _⟩ | ⟨g, cap, cur, h3, _⟩
    · rw [h3] at e1; injection e1 with _ _ e4; exact e4.symm
    · rw [h3] at e1; injection e1 with e4; rw [e2] at e4; cases e4
  · rcases h.2 with ⟨h3, _⟩ | ⟨g, cap, cur, h3, hb, _⟩
    · rw [h3] at e1; injection e1 with e4; rw [e2] at e4; cases e4
    · rw [h3] at e1; injection e1 with e4; rw [e2] at e4; injection e4 with e4; rw [← e4]; exact hb

/-- A row of operations of a call's own, made behind W. -/
def RowOps (W : World) (os : List Op9) (v : Value) (w' : World) : Prop := w'.ownsRow W.heap.size 39 4 v os.length (opsC os) ∧ Below W.heap.size W w'

/-- What behind returns where the list and the operations are within the limits. -/
def Behind (w : World) (l : List Int) (ops : List Op9) (e : Ending) (w' : World) : Prop := ∃ A c B d, e = .returned (.tuple #[.slice A l.length c, .slice B ops.length d, .bool true]) ∧ Lies w' w'.heap.size A ((runL l ops ops.length).map (.int .i64)) ∧ Lies w' w'.heap.size B (cellsOf (reps l ops) (ops.length * 2)) ∧ Below w.heap.size w w'

/-- .. the list in new memory. -/
def BehindN (w : World) (l : List Int) (ops : List Op9) (e : Ending) (w' : World) : Prop := ∃ A c B d, e = .returned (.tuple #[.slice A l.length c, .slice B ops.length d, .bool true]) ∧ Lies w' w'.heap.size A ((runL l ops ops.length).map (.int .i64)) ∧ Lies w' w'.heap.size B (cellsOf (reps l ops) (ops.length * 2)) ∧ Below w.heap.size w w' ∧ New w.heap.size A

/-- What is known behind a call of behind: its answer; other rows that lay there. -/
def BehRel (W : World) (E : List Int) (n m : Nat) (B9 : Option Addr) (xs : List Value) (A3 : Option Addr) (ys : List Value) (s1 s2 s3 : Value) (wx : World) : Prop := ∃ A c B d, s1 = .slice A n c ∧ s2 = .slice B m d ∧ s3 = .bool true ∧ Lies wx wx.heap.size A (E.map (.int .i64)) ∧ Lies wx wx.heap.size B9 xs ∧ Lies wx wx.heap.size A3 ys ∧ Below W.heap.size W wx

theorem new_four0 (w : World) (t : TypeId) (n : Nat) (hn : w.heap.size = n) (a b c d : Value) : ∀ j u, ([a, b, c, d] : List Value)[j]? = some u → (w.alloc (.cells #[a, b, c, d] t)).cell? ⟨n, j, none⟩ = some u := by
  subst hn
  intro j u h
  rw [← h]
  exact (Blk.new w t [a, b, c, d]).cell j

set_option maxHeartbeats 1000000 in
/-- damaskkeep.behind. -/
theorem behind_new (A B : Option Addr) (l : List Int) (ops : List Op9) (c d : Nat) (w : World) (h0 : 1 ≤ l.length) (hn : l.length ≤ 300) (hm : ops.length ≤ 300) (hc : Cos l) (hA : A = none → c = 0) (hB : B = none → d = 0) (hL : Lies w w.heap.size A (l.map (.int .i64))) (hO : Lies w w.heap.size B (opsC ops)) :
    Calls Try.prog 12 #[.slice A l.length c, .slice B ops.length d] w (BehindN w l ops) := by
  have HCo := Lib.hid (copied_any A l c w (by omega) hA hL)
  have HP := Lib.hid (fun A2 c2 B2 d2 W hcc hL hO => play_new A2 B2 l ops c2 d2 W h0 hn hcc hm hc hL hO)
  have HO := Lib.hid hO
  have HB := Lib.hid hB
  have HLn := Lib.hid (opsC_length ops)
  have H1 := Lib.hid (opsC_one ops)
  unfold GivesSlice at HCo
  rw [List.length_map] at HCo
  unfold PlayedN at HP
  have e1 : ((ops.length : Int) == (ops.length : Int)) = true := by simp
  have e2 : ((l.length : Int) == (l.length : Int)) = true := by simp
  clear hL hO hA hB hc
  go_enter Try.func12, Try.ntmps12
  go_wp2_with fail
  refine HCo.out.mono ?_
  rintro e w1 ⟨A2, c2, rfl, hle, hl1, hn1, hw1, hb1⟩
  have HO1 := Lib.hid (HO.out.on hb1)
  have HL1 := Lib.hid hl1
  clear hl1
  go_wp2_with (at_builtin; go_loud (refine append_recs _ rfl (.const (.slice none 0 0)) (.tmp 13) 23 rfl w1.heap.size 39 (.agg #[.int .i64 0, .int .i64 0, .int .i64 0, .int .i64 0]) 4 32 Try.underlying23 op9_info rfl (by decide) (.slice none 0 0) 0 [] rfl (World.ownsRow_nil _ _ _ _) B ops.length d (opsC ops) rfl HLn.out HB.out HO1.out H1.out (by simp only [maxLen]; omega) (by omega) (Nat.le_refl _) ?_))
  intro v2 w2 hown2 hg2
  have hb2 : Below w1.heap.size w1 w2 := (Below.refl _ _).grown hg2 (Nat.le_refl _) (fun q hq => by cases hq)
  obtain ⟨B2, d2, rfl, hl2, _, _⟩ := own_slice_all hown2
  have HL2 := Lib.hid hl2
  have HL12 := Lib.hid (HL1.out.on hb2)
  have hb02 := chain hb1 hb2
  clear hown2 hg2 hl2 HL1 HO1
  go_wp2_with fail
  refine (HP.out A2 c2 B2 d2 _ hle HL12.out HL2.out).mono ?_
  rintro e w3 ⟨A3, c3, B3, d3, rfl, hx1, hx2, hx3, hb3, hw3⟩
  have HX1 := Lib.hid hx1
  have HX2 := Lib.hid hx2
  clear hx1 hx2
  go_wp2_with fail
  go_ret3
  exact ⟨B3, d3, A3, c3, rfl, HX2.out, HX1.out, chain hb02 hb3, hw3.mono hb02.size⟩
theorem behind_any (A B : Option Addr) (l : List Int) (ops : List Op9) (c d : Nat) (w : World) (h0 : 1 ≤ l.length) (hn : l.length ≤ 300) (hm : ops.length ≤ 300) (hc : Cos l) (hA : A = none → c = 0) (hB : B = none → d = 0) (hL : Lies w w.heap.size A (l.map (.int .i64))) (hO : Lies w w.heap.size B (opsC ops)) :
    Calls Try.prog 12 #[.slice A l.length c, .slice B ops.length d] w (Behind w l ops) :=
  (behind_new A B l ops c d w h0 hn hm hc hA hB hL hO).mono fun _ _ ⟨A1, c1, B1, d1, h1, h2, h3, h4, _⟩ => ⟨A1, c1, B1, d1, h1, h2, h3, h4⟩
end Go.Proofs.Ytnjpehgmlfenbaa
