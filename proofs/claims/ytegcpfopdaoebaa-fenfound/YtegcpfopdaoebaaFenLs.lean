/-
  What slices.Backward of a list of int and fen.list return: a range over a function whose body writes the very row that the function reads: a law for rounds that are counted, the iterator's contract, fen.list. No condition but what each theorem names.
-/
import Derived.Test.YtegcpfopdaoebaaFenRg
import Derived.RangeFuncNested
import Derived.RangeFuncBound
import Derived.RangeFuncCalls
import Derived.RangeFuncLeaves
import Derived.RangeFuncBox
import Derived.Shelf.Abstract
import Derived.Shelf.RegionOpen
import Derived.WalkKit
import Derived.OwnWalkIn
import Derived.TacticsInMore
import Derived.LoopNIn
import Derived.LoopIn
namespace Go.Proofs.Ytegcpfopdaoebaa
open Go.RowKit Go.Shelf Words
attribute [local go_sem] Oper.semAt_some

/-- A range over a function that comes to exactly N rounds, the arguments of round k known ahead; the iterator may lean on the caller's invariant. -/
theorem range_counted {F : Fence} {n : Nat} {P : Program} {g : Operand} {ps : Array Tmp} {assign body : Code} {Q : Exit → Act → World → Prop} {a : Act} {w : World}
    (hro : F.round = none) (h1 : 1 ≤ n) {gf : Nat} {lb : Array Value} (hg : a.eval g = .func (.func gf) #[] lb) (hFg : F.fn gf) (eg : ∀ args w, (callFunc gf args).run P w = .ok (.enter gf args) w)
    (N : Nat) (args : Nat → Array Value) (hps : ∀ k, (args k).size = ps.size) (I : Nat → World → Prop) (hI : OwnFrom w.heap.size I) (h0 : I 0 w)
    (hseq : ∀ (l : Nat) (J : Nat → World → Prop) (W : World), (∀ k V, J k V → I k V) →
      (∀ k V, k < N → J k V → YieldAt F (n - 1 - 1) P l (args k) V fun e V' => e = .returned (.bool true) ∧ J (k + 1) V') → J 0 W →
      CallsIn F (n - 1) P gf (#[.func (.yield l) #[] #[]] ++ lb) W fun e W' => (∃ v, e = .returned v) ∧ J N W')
    (a₁ : Nat → Act)
    (hassign : ∀ (l k : Nat) (W : World) (K : Act → World → Prop), K (a₁ k) W →
      assign.wpIn (F.inRound l) (n - 1 - 1) P (Exit.then K (fun _ _ _ => False)) { tmps := (ps.zip (args k)).foldl (fun t (p, v) => t.setIfInBounds p v) a.tmps, defers := [] } W)
    (hbody : ∀ (l k : Nat) (W : World), k < N → I k W → body.wpIn (F.inRound l) (n - 1 - 1) P (fun e _ W' => e = .normal ∧ KeepsFrom w.heap.size W W' ∧ I (k + 1) W') (a₁ k) W)
    (hdone : ∀ (D : Nat) (W : World), w.heap.size ≤ D → I N W → W.heap[D]? = some (.deferred (some [])) → Q .normal { a with defers := { target := .collected D, args := #[] } :: a.defers } W) :
    (Code.rangeFunc g ps assign body).wpIn F n P Q a w := by
  refine wpIn_rangeFunc fun fn hfn => ?_
  rw [hro]
  obtain ⟨B, hB⟩ : ∃ B, B = w.heap.size := ⟨_, rfl⟩
  obtain ⟨L, hL⟩ : ∃ L : LoopState → Loop, L = fun st => { state := st, pending := none, fn, tmps := a.tmps, params := ps, assign, body, defers := w.heap.size } := ⟨_, rfl⟩
  have hent := run_enterLoop_outer (P := P) (w := w) fn a.tmps ps assign body
  obtain ⟨W1, hW1⟩ : ∃ W1, (w.alloc (.deferred (some []))).alloc (.loop (L .ready)) = W1 := ⟨_, rfl⟩
  have hd1 : W1.heap[B]? = some (.deferred (some [])) := by
    rw [← hW1, hB]
    exact (Below.heap_alloc _ _ _ (by simp)).trans (World.alloc_heap_new w _)
  have hl1 : W1.heap[B + 1]? = some (.loop (L .ready)) := by
    have := World.alloc_heap_new (w.alloc (.deferred (some []))) (.loop (L .ready))
    rwa [World.size_alloc, ← hB, hW1] at this
  have hi1 : I 0 W1 := by rw [← hW1]; exact hI.alloc _ (hI.alloc _ h0)
  refine ⟨B + 1, [{ target := .collected B, args := #[] }], W1, { target := .fn (.func gf) lb, args := #[.func (.yield (B + 1)) #[] #[]] }, W1, gf, #[.func (.yield (B + 1)) #[] #[]] ++ lb, W1, ?_, ?_, ?_, ?_, fun _ => h1, ?_⟩
  · rw [← hW1, hL, hB]; exact hent
  · simp only [resolve, hg]; simp [go_sem]
  · intro f' hf'
    simp [Target.leads] at hf'
    subst hf'
    exact hFg
  · simp [invoke, go_sem, eg]
  refine (hseq (B + 1) (fun k V => I k V ∧ V.heap[B + 1]? = some (.loop (L .ready)) ∧ V.heap[B]? = some (.deferred (some []))) W1 (fun k V h => h.1) ?_ ⟨hi1, hl1, hd1⟩).mono ?_
  · rintro k V hk ⟨hi, hl, hd⟩
    have hlt := (Array.getElem?_eq_some_iff.1 hl).1
    have hy := run_yield (P := P) (args := args k) hl (by rw [hL]; exact hps k)
    rw [hL] at hy
    refine ⟨fn, _, assign, body, hy, roundIn_of_wpIn hfn (hassign _ k V _ ⟨_, run_beginRound hl (by rw [hL]), ?_⟩)⟩
    refine wpIn_mono (hbody _ k _ hk (hI.putObj _ hi (by omega) hl rfl)) ?_
    rintro e a3 V3 ⟨rfl, hkeep, hi3⟩
    have hl3 := hkeep.same _ _ (by omega) (World.putObj_heap_same hlt) rfl
    have hd3 := hkeep.same B _ (by omega) ((World.putObj_heap_other (by omega)).trans hd) rfl
    have hend := run_endRound (P := P) none hl3
    refine ⟨_, _, hend, rfl, hI.putObj _ hi3 (by omega) hl3 rfl, ?_, (World.putObj_heap_other (by omega)).trans hd3⟩
    rw [World.putObj_heap_same (Array.getElem?_eq_some_iff.1 hl3).1, hL]
    rfl
  · rintro e W2 ⟨⟨v, rfl⟩, hi, hl, hd⟩
    have hend := run_endLoop (P := P) hl (by rw [hL]; simp)
    rw [hL] at hend
    exact ⟨none, _, hend, hdone B _ (by omega) (hI.putObj _ hi (by omega) hl rfl) ((World.putObj_heap_other (by omega)).trans hd)⟩

/-- slices.Backward. -/
theorem backward_any (A : Option Addr) (n c : Nat) (w : World) :
    Calls Try.prog 37 #[.slice A n c] w fun e w' => e = .returned (.func (.func 39) #[] #[.pointer (some ⟨w.heap.size, 0, none⟩)]) ∧ w' = w.alloc (.cells #[.slice A n c] 22) := by
  go_enter Try.func37, Try.ntmps37
  go_wp2_with fail
  go_ret
  exact ⟨rfl, rfl⟩

set_option maxRecDepth 100000 in
set_option maxHeartbeats 2000000 in
/-- The iterator: from the last to the first, each element as it is when its round comes. -/
theorem backward1_in (F : Fence) (n : Nat) (hF : F.fn 39) (hro : F.round = none) (hn : 1 ≤ n) (l Bs m c : Nat) (A : Option Addr) (t : Nat → Int) (hm : m ≤ 300) (J : Nat → World → Prop)
    (hJ : ∀ k V, J k V → V.cell? ⟨Bs, 0, none⟩ = some (.slice A m c) ∧ (k < m → ∃ g, A = some ⟨g, 0, none⟩ ∧ V.cell? ⟨g, m - 1 - k, none⟩ = some (.int .i64 (t (m - 1 - k)))))
    (hY : ∀ k V, k < m → J k V → YieldAt F (n - 1) Try.prog l #[.int .i64 (m - 1 - k : Nat), .int .i64 (t (m - 1 - k))] V fun e V' => e = .returned (.bool true) ∧ J (k + 1) V')
    (W : World) (h0 : J 0 W) :
    CallsIn F n Try.prog 39 #[.func (.yield l) #[] #[], .pointer (some ⟨Bs, 0, none⟩)] W fun e W' => (∃ v, e = .returned v) ∧ J m W' := by
  have HJ := Lib.hid hJ
  have HY := Lib.hid hY
  clear hJ hY
  have hc0 := (HJ.out 0 W h0).1
  refine callsIn_of_wp Try.func39 rfl hF ?_ hro
  simp only [Try.ntmps39, List.size_toArray, List.length_cons, List.length_nil, Nat.reduceAdd, Nat.reduceSub, Array.replicate_succ, Array.replicate_zero, List.push_toArray, List.append_toArray, List.nil_append, List.cons_append]
  gi_wp2
  gi_loopw [3] (fun p wr => ∃ k : Nat, k ≤ m ∧ p = .int .i64 ((m : Int) - 1 - k) ∧ J k wr) (fun p _ => (intOf p + 1).toNat)
  case atStart => exact ⟨0, Nat.zero_le _, by simp, h0⟩
  case round =>
    obtain ⟨k, hk, rfl, hJs⟩ := hrel
    by_cases hlt : k < m
    · obtain ⟨hcs, hcx⟩ := HJ.out k wr hJs
      obtain ⟨g, rfl, hcg⟩ := hcx hlt
      obtain ⟨fn, tmps, assign, body, hy, hR⟩ := HY.out k wr hlt hJs
      have hidx : (m : Int) - 1 - (k : Int) = ((m - 1 - k : Nat) : Int) := by omega
      rw [hidx]
      have hjb : m - 1 - k < m := by omega
      have hj1 : ((m - 1 - k : Nat) : Int) - 1 = (m : Int) - 1 - ((k + 1 : Nat) : Int) := by omega
      generalize t (m - 1 - k) = x at *
      generalize m - 1 - k = j at *
      have hjm : (j : Int) < (m : Int) := by omega
      have HJ1 := Lib.hid hj1
      clear hj1 hidx
      gi_wp2
      refine hR.mono ?_
      rintro e W3 ⟨rfl, hJ3⟩
      gi_wp2
      go_roundw
      case rel => exact ⟨k + 1, by omega, by rw [← HJ1.out], hJ3⟩
      case measure => simp [intOf]
    · obtain rfl : m = k := by omega
      have hidx : (m : Int) - 1 - (m : Int) = -1 := by omega
      rw [hidx]
      gi_wp2
      go_end0
      exact ⟨⟨_, rfl⟩, hJs⟩

/-- A row of the call's own, where a block that is no cells is turned. -/
theorem own_turn {W W' : World} {base : Nat} {e : TypeId} {v : Value} {n : Nat} {xs : List Value} {row : Option Nat} (h : W.ownsRow base e 1 v n xs) (hg : W.grownBy W' row) (hr : ∀ r, row = some r → ∃ o : Obj, W.heap[r]? = some o ∧ o.isCells = false) : W'.ownsRow base e 1 v n xs := by
  refine ⟨h.1, ?_⟩
  rcases h.2 with ⟨rfl, hn⟩ | ⟨g, cap, cur, rfl, hb, hh, hx⟩
  · exact .inl ⟨rfl, hn⟩
  · refine .inr ⟨g, cap, cur, rfl, hb, (hg.block g (Array.getElem?_eq_some_iff.1 hh).1 fun e => ?_).trans hh, hx⟩
    obtain ⟨o, ho, hc⟩ := hr g e.symm
    rw [hh] at ho
    obtain rfl := Option.some.inj ho
    simp [Obj.isCells] at hc

/-- What lies in memory between two rounds of fen.list: the row, and the two boxes that bear its slice. -/
def ListAt (w : World) (B Bs n c : Nat) (A : Option Addr) (f : Nat → Int) (k : Nat) (W : World) : Prop :=
  (W.ownsRow w.heap.size 3 1 (.slice A n c) n (cellsOf (U f (n - k)) n) ∧ Boxed W B 22 (.slice A n c) ∧ Boxed W Bs 22 (.slice A n c)) ∧ Below w.heap.size w W

set_option maxRecDepth 100000 in
set_option maxHeartbeats 4000000 in
/-- fen.list. -/
theorem list_any (A : Option Addr) (l : List Int) (c : Nat) (w : World) (hv : Valid l) (hnone : A = none → c = 0) (hL : Lies w w.heap.size A (l.map (.int .i64))) :
    Calls Try.prog 33 #[.slice A l.length c] w (GivesF w (num (at0 l)) l.length) := by
  have hn := hv.1
  have HC := Lib.hid (clone_any A l c w (by omega) hnone hL)
  have HB := Lib.hid (fun i j (hi : i ≤ l.length) (hj : j < l.length) => U_bound (num (at0 l)) l.length hn 1099511627776 330952999960576 (by decide) (fun c hc => num_bound (at0 l) l.length hn 1099511627776 (by decide) (fun c hc => hv.2.at0 c hc) c hc) (fun c hc => by rw [tr_num]; exact hv.2.at0 c hc) i j hi hj)
  have HE := Lib.hid (cellsOf_congr (f := at0 l) (g := U (num (at0 l)) l.length) l.length fun j hj => by rw [U_all _ _ _ (by omega), tr_num])
  have HA := Lib.hid (fun i (hi : i ≤ 1000000) W => around_any i W hi)
  have HBk := Lib.hid (fun A n c w => backward_any A n c w)
  unfold GivesF at HC ⊢
  clear hL hnone hv
  rw [HE.out] at HC
  generalize num (at0 l) = f at *
  generalize l.length = n at *
  refine (callsIn_wide (n := 5)).1 ?_
  refine callsIn_of_wp_marks Try.func33 rfl trivial ?_ rfl
  simp only [Try.ntmps33, List.size_toArray, List.length_cons, List.length_nil, Nat.reduceAdd, Nat.reduceSub, Array.replicate_succ, Array.replicate_zero, List.push_toArray, List.append_toArray, List.nil_append, List.cons_append]
  gi_wp2_with (refine ⟨trivial, ?_⟩; gi_at_call 25; refine (callsIn_wide.2 HC.out).mono ?_; rintro e w1 ⟨A2, c2, rfl, hown, hb1⟩)
  refine ⟨trivial, ?_⟩
  refine (callsIn_wide.2 (HBk.out A2 n c2 _)).mono ?_
  rintro e w2 ⟨rfl, rfl⟩
  have hsz := hb1.size
  have hrow : ∀ gb, A2 = some ⟨gb, 0, none⟩ → gb < w1.heap.size := fun gb e => (hown.lt gb (by rw [e]; rfl)).2
  have hat0 : ListAt w w1.heap.size (w1.heap.size + 1) n c2 A2 f 0 ((w1.alloc (.cells #[.slice A2 n c2] 22)).alloc (.cells #[.slice A2 n c2] 22)) := by
    refine ⟨⟨?_, (Boxed.new w1 _ _).alloc _, ?_⟩, (hb1.alloc hsz _).alloc (by simp; omega) _⟩
    · exact own_turn (own_turn hown (World.grownBy_alloc _ _ none) (fun r e => by cases e)) (World.grownBy_alloc _ _ none) (fun r e => by cases e)
    · have := Boxed.new (w1.alloc (.cells #[.slice A2 n c2] 22)) 22 (.slice A2 n c2)
      rwa [World.size_alloc] at this
  have HAt0 := Lib.hid hat0
  have HRow := Lib.hid hrow
  obtain ⟨W0, hW0⟩ : ∃ W0, (w1.alloc (.cells #[.slice A2 n c2] 22)).alloc (.cells #[.slice A2 n c2] 22) = W0 := ⟨_, rfl⟩
  have hs0 : W0.heap.size = w1.heap.size + 2 := by rw [← hW0]; simp
  have hbx : (w1.alloc (.cells #[.slice A2 n c2] 22)).heap.size = w1.heap.size + 1 := by simp
  rw [hW0] at HAt0
  clear hat0 hrow
  gi_wp2
  refine range_counted rfl (by decide) (gf := 39) (lb := #[.pointer (some ⟨w1.heap.size + 1, 0, none⟩)]) rfl trivial (enters_of Try.func39 (by kernel_rfl) rfl)
    n (fun k => #[.int .i64 ((n - 1 - k : Nat) : Int), .int .i64 (tr f (n - 1 - k))]) (fun _ => rfl) (ListAt w w1.heap.size (w1.heap.size + 1) n c2 A2 f)
    (OwnFrom.and (Own.from (fun s X Y row hs hg hr => ⟨own_turn hs.1 hg hr, boxed_own _ _ (fun _ : Nat => _) s X Y row hs.2.1 hg hr, boxed_own _ _ (fun _ : Nat => _) s X Y row hs.2.2 hg hr⟩) _) (ownFrom_below (Nat.le_refl _) (by omega)))
    HAt0.out
    (fun l J W hJI hY h0 => backward1_in Fence.wide 4 trivial rfl (by decide) l (w1.heap.size + 1) n c2 A2 (tr f) hn J (fun k V hj => by
      obtain ⟨⟨hr, _, hb⟩, _⟩ := hJI k V hj
      refine ⟨hb.cell, fun hk => ?_⟩
      obtain ⟨g, rfl, _⟩ := own_at hr (by omega)
      refine ⟨g, rfl, ?_⟩
      rw [own_cell hr (cellsOf_get _ n (n - 1 - k) (by omega)), U_all f (n - k) (n - 1 - k) (by omega)]) hY W h0)
    (fun k => { tmps := #[.slice A n c, undef, .slice none 0 0, .pointer (some ⟨w1.heap.size, 0, none⟩), .int .i64 ((n - 1 - k : Nat) : Int), .int .i64 (tr f (n - 1 - k)), undef, .slice A n c, .slice A2 n c2, .slice A2 n c2, .func (.func 39) #[] #[.pointer (some ⟨w1.heap.size + 1, 0, none⟩)], .int .i64 ((n - 1 - k : Nat) : Int), .int .i64 (tr f (n - 1 - k)), undef, undef, undef, undef, undef, undef, undef, undef, undef, undef, undef, undef, undef, undef], defers := [] }) ?assign ?body ?done
  case assign =>
    intro l k W K hK
    gi_wp2
    exact hK
  case body =>
    rintro lp k W hk ⟨⟨hr, hB1, hB2⟩, hbl⟩
    obtain ⟨i, hi⟩ : ∃ i, n - 1 - k = i := ⟨_, rfl⟩
    have hi1 : n - k = i + 1 := by omega
    have H2 := Lib.hid (show n - (k + 1) = i by omega)
    have hin : i < n := by omega
    obtain ⟨gb, rfl, hgb⟩ := own_at hr (by omega)
    have hgl := HRow.out gb rfl
    rw [hi]
    rw [hi1] at hr
    have hti : tr f i = U f (i + 1) i := (U_all f (i + 1) i (by omega)).symm
    rw [hti]
    obtain ⟨b1, b2⟩ := HB.out (i + 1) i (by omega) hin
    have hgt := aro_gt i
    have hle := aro_le i
    have HAi := Lib.hid (fun W => HA.out i (by omega) W)
    have hcB := hB1.cell
    have hne1 : w1.heap.size ≠ gb := by omega
    have hne2 : w1.heap.size + 1 ≠ gb := by omega
    by_cases hup : aro i < n
    · have hca := own_cell hr (cellsOf_get (U f (i + 1)) n (aro i) hup)
      obtain ⟨b3, b4⟩ := HB.out (i + 1) (aro i) (by omega) hup
      have hfz := own_frozen hr (aro i)
      have HP := Lib.hid (own_put hr (aro i) (.int .i64 (U f (i + 1) (aro i) - U f (i + 1) i)))
      rw [cellsOf_set, cellsOf_congr (g := U f i) n fun j _ => by rw [U_back f i j]; rfl] at HP
      have HX1 := Lib.hid (fun u => (Below.heap_setCell W ⟨gb, aro i, none⟩ u w1.heap.size hne1).trans hB1)
      have HX2 := Lib.hid (fun u => (Below.heap_setCell W ⟨gb, aro i, none⟩ u (w1.heap.size + 1) hne2).trans hB2)
      have hun : (aro i : Int) < (n : Int) := by omega
      clear hr hti hi hi1
      generalize U f (i + 1) (aro i) = x at *
      generalize U f (i + 1) i = y at *
      generalize aro i = q at *
      gi_wp2_with (refine ⟨trivial, ?_⟩; gi_at_call 26; refine (CallsIn.inRound lp (callsIn_wide.2 (HAi.out _))).mono ?_; rintro e w' ⟨rfl, rfl⟩)
      exact ⟨(KeepsOthers.setCell _ _ _).from _, ⟨by rw [H2.out]; exact HP.out, HX1.out _, HX2.out _⟩, hbl.setCell (by show w.heap.size ≤ gb; omega) _⟩
    · have HR := Lib.hid hr
      rw [cellsOf_congr (g := U f i) n fun j hj => by rw [U_back f i j, if_neg (by omega)]] at HR
      have hun : (n : Int) ≤ (aro i : Int) := by omega
      clear hr hti hi hi1
      generalize U f (i + 1) i = y at *
      generalize aro i = q at *
      gi_wp2_with (refine ⟨trivial, ?_⟩; gi_at_call 26; refine (CallsIn.inRound lp (callsIn_wide.2 (HAi.out _))).mono ?_; rintro e w' ⟨rfl, rfl⟩)
      exact ⟨KeepsFrom.refl _ _, ⟨by rw [H2.out]; exact HR.out, hB1, hB2⟩, hbl⟩
  case done =>
    rintro D W hD ⟨⟨hr, hB1, hB2⟩, hbl⟩ hK
    have hcB := hB1.cell
    rw [Nat.sub_self] at hr
    have HR := Lib.hid hr
    rw [cellsOf_congr (g := f) n fun j _ => U_zero f j] at HR
    clear hr
    gi_wp2
    refine ⟨by simp, .inl ⟨_, _, rfl, run_takeDeferred hK, ?_⟩⟩
    exact ⟨_, results_tmp rfl _ _ _, A2, c2, rfl, ownsRow_putObj HR.out _ hK rfl, hbl.trans (belowK_b (w := w) (Nat.le_refl _) W D _ _ (by omega) hK rfl rfl)⟩
end Go.Proofs.Ytegcpfopdaoebaa
