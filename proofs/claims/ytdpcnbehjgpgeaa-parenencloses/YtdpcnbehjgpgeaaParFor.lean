/-
  What paren.forest returns: its contract, walked over the translated text. No condition but what each theorem names.
-/
import Derived.Test.YtdpcnbehjgpgeaaParCk
import Derived.Test.YtdpcnbehjgpgeaaParTr
import Derived.Deep.Cut
namespace Go.Proofs.Ytdpcnbehjgpgeaa
open Go.RowKit Words

theorem enc_up {l : List Bool} (h : Bal l) {i : Nat} (hi : l[i]? = some true) : enc l (i + 1) = some i := by
  rw [enc_pst h (get_lt hi), pst_up hi]
  rfl
theorem enc_same {l : List Bool} (h : Bal l) {k i : Nat} (hc : IsClose l k i) : enc l (i + 1) = enc l k := by
  have hil := get_lt hc.shuts
  have hki := hc.lt
  cases he : enc l k with
  | none =>
    rw [enc_none_iff h (by omega), ← hc.back] at he
    exact (enc_none_iff h (by omega)).2 he
  | some m =>
    have g := (enc_iff (by omega)).1 he
    have gl := g.lt
    refine (enc_iff (by omega)).2 ⟨by omega, g.opens, by rw [hc.back]; exact g.one, fun q q1 q2 => ?_⟩
    rw [hc.back]
    by_cases e1 : q ≤ k
    · exact g.btw q q1 e1
    · by_cases e2 : q ≤ i
      · have := hc.btw q (by omega) e2; omega
      · obtain rfl : q = i + 1 := by omega
        rw [hc.back]; exact Int.le_refl _
theorem enc_shut {l : List Bool} (h : Bal l) {i : Nat} (hi : l[i]? = some false) : ∃ k, IsClose l k i ∧ enc l i = some k := by
  obtain ⟨k, hk⟩ := h.opened hi
  have hl := hk.lt
  have hil := get_lt hi
  have hd := dp_down hi
  refine ⟨k, hk, (enc_iff (by omega)).2 ⟨hl, hk.opens, by have := hk.back; omega, fun m m1 m2 => ?_⟩⟩
  have := hk.btw m m1 m2
  have := hk.back
  omega
theorem cntO_inj {l : List Bool} {a b : Nat} (ha : l[a]? = some true) (hb : l[b]? = some true) (h : cntO l a = cntO l b) : a = b := by
  rcases Nat.lt_trichotomy a b with e | e | e
  · have := cntO_mono l (show a + 1 ≤ b by omega)
    rw [cntO_up ha] at this; omega
  · exact e
  · have := cntO_mono l (show b + 1 ≤ a by omega)
    rw [cntO_up hb] at this; omega
theorem cntO_lt {l : List Bool} {a b : Nat} (ha : l[a]? = some true) (h : a < b) : cntO l a < cntO l b := by
  have := cntO_mono l (show a + 1 ≤ b by omega)
  rw [cntO_up ha] at this; omega

/-- 'append(out, u)', sz cells an element, out nil or the call's own. -/
theorem append_rec {P : Program} (w : World) {ops : Array Oper} {rest : List Oper} {o : Oper} {a : Act} {Q : Exit → Act → World → Prop} (hgd : o.guard = none) (s x : Operand) (t : TypeId)
    (ho : o.op = .call { callee := .builtin .append, args := #[s, x], argTypes := #[t, t] }) (base : Nat) (e : TypeId) (z : Value) (sz bytes : Nat) (ht : P.underlying t = some (.slice e))
    (hinfo : (P.info? e).map (fun i => (i.zero, i.size, i.bytes)) = some (some z, sz, bytes)) (hz : z.cells.size = sz) (hsz : 0 < sz) (v : Value) (n : Nat) (xs : List Value) (hs : a.eval s = v) (hown : w.ownsRow base e sz v n xs)
    (g c : Nat) (us : List Value) (hx : a.eval x = .slice (some ⟨g, 0, none⟩) 1 c) (hl : us.length = sz) (hu : ∀ j u, us[j]? = some u → w.cell? ⟨g, j, none⟩ = some u) (h1 : ∀ u ∈ us, u.oneCell' = true) (h63 : n + 1 ≤ maxLen) (hbytes : (n + 1) * bytes ≤ 140737488355328) (hbase : base ≤ w.heap.size)
    (h : ∀ v' w', w'.ownsRow base e sz v' (n + 1) (xs ++ us) → w.grownBy w' v.ownBlock → wpList P ops Q rest (a.put o.dst v') w') : wpList P ops Q (o :: rest) a w := by
  obtain ⟨i, hi, hz0, hz1, hz2⟩ := info_parts hinfo
  refine wpList_append_own w hgd s x t ho base e i z sz bytes ht hi hz0 hz1 hz2 hz hsz v n xs hs hown ⟨g, 0, none⟩ 1 c us hx (by omega) ?_ h1 h63 hbytes hbase fun v' w' h2 h3 _ => h v' w' h2 h3
  intro j u hj
  rw [Addr.add_lit, Nat.zero_add]
  exact hu j u hj

/-- The memory of paren.forest ahead of place i: the nodes' cells xs, the places' nodes ys. -/
structure ForAt (l : List Bool) (w0 w : World) (i : Nat) (v : Value) (xs ys : List Value) : Prop where
  row : w.ownsRow (w0.heap.size + 1) 44 3 v (cntO l i) xs
  blk : Blk w w0.heap.size 3 ys
  len : ys.length = l.length
  fst : ∀ k, k < i → l[k]? = some true → xs[cntO l k * 3]? = some (.int .i64 (k : Nat))
  par : ∀ k, k < i → l[k]? = some true → xs[cntO l k * 3 + 2]? = some (.int .i64 (parP l k))
  mid : ∀ k, k < i → l[k]? = some true → ∃ z, xs[cntO l k * 3 + 1]? = some (.int .i64 z)
  lst : ∀ k j, j < i → IsClose l k j → xs[cntO l k * 3 + 1]? = some (.int .i64 (j : Nat))
  ats : ∀ j k, j < i → (k = j ∧ l[j]? = some true ∨ IsClose l k j) → ys[j]? = some (.int .i64 (cntO l k : Nat))
  any : ∀ j, j < l.length → ∃ z, ys[j]? = some (.int .i64 z)
  bel : Below w0.heap.size w0 w

theorem ForAt.len3 {l : List Bool} {w0 w : World} {i : Nat} {v : Value} {xs ys : List Value} (h : ForAt l w0 w i v xs ys) : xs.length = cntO l i * 3 := h.row.1

/-- A place that opens. -/
theorem ForAt.up {l : List Bool} {w0 w w' : World} {i : Nat} {v v' : Value} {xs ys : List Value} (h : ForAt l w0 w i v xs ys) (hi : l[i]? = some true)
    (hr : w'.ownsRow (w0.heap.size + 1) 44 3 v' (cntO l i + 1) (xs ++ [.int .i64 (i : Nat), .int .i64 0, .int .i64 (parP l i)])) (hb : Blk w' w0.heap.size 3 ys) (hB : Below w0.heap.size w0 w') :
    ForAt l w0 (w'.setCell ⟨w0.heap.size, i, none⟩ (.int .i64 (cntO l i : Nat))) (i + 1) v' (xs ++ [.int .i64 (i : Nat), .int .i64 0, .int .i64 (parP l i)]) (ys.set i (.int .i64 (cntO l i : Nat))) := by
  have hil := get_lt hi
  have h3 := h.len3
  have old : ∀ q, q < cntO l i * 3 → (xs ++ [Value.int .i64 (i : Nat), .int .i64 0, .int .i64 (parP l i)])[q]? = xs[q]? := fun q hq => List.getElem?_append_left (by omega)
  have new : ∀ q, (xs ++ [Value.int .i64 (i : Nat), .int .i64 0, .int .i64 (parP l i)])[cntO l i * 3 + q]? = [Value.int .i64 (i : Nat), .int .i64 0, .int .i64 (parP l i)][q]? := fun q => by
    rw [List.getElem?_append_right (by omega)]
    congr 1
    omega
  have lt3 : ∀ k, k < i → l[k]? = some true → cntO l k * 3 + 2 < cntO l i * 3 := fun k hk hk2 => by have := cntO_lt hk2 hk; omega
  refine ⟨?_, hb.put i _, by rw [List.length_set]; exact h.len, fun k hk hk2 => ?_, fun k hk hk2 => ?_, fun k hk hk2 => ?_, fun k j hj hc => ?_, fun j k hj hc => ?_, fun j hj => ?_, hB.setCell (Nat.le_refl _) _⟩
  · rw [cntO_up hi]
    refine hr.kept (row := some w0.heap.size) ⟨rfl, rfl, rfl, by simp [World.setCell], fun q _ hq => Below.heap_setCell _ _ _ _ (fun e => hq (by simp [e]))⟩ ?_
    refine .inr fun e => ?_
    have := (hr.lt _ e).1
    omega
  · by_cases e : k = i
    · subst e; exact new 0
    · rw [old _ (by have := lt3 k (by omega) hk2; omega)]; exact h.fst k (by omega) hk2
  · by_cases e : k = i
    · subst e; exact new 2
    · rw [old _ (by have := lt3 k (by omega) hk2; omega)]; exact h.par k (by omega) hk2
  · by_cases e : k = i
    · subst e; exact ⟨0, new 1⟩
    · rw [old _ (by have := lt3 k (by omega) hk2; omega)]; exact h.mid k (by omega) hk2
  · have hj2 : j < i := by
      by_cases e : j = i
      · subst e; have := hc.shuts; rw [hi] at this; cases this
      · omega
    have hcl := hc.lt
    rw [old _ (by have := lt3 k (by omega) hc.opens; omega)]
    exact h.lst k j hj2 hc
  · by_cases e : j = i
    · subst e
      rcases hc with ⟨rfl, _⟩ | hc
      · rw [List.getElem?_set_self (by rw [h.len]; exact hil)]
      · have := hc.shuts; rw [hi] at this; cases this
    · rw [List.getElem?_set_ne (by omega)]
      exact h.ats j k (by omega) hc
  · by_cases e : j = i
    · subst e; exact ⟨_, by rw [List.getElem?_set_self (by rw [h.len]; exact hil)]⟩
    · rw [List.getElem?_set_ne (by omega)]; exact h.any j hj

/-- A place that closes. -/
theorem ForAt.down {l : List Bool} {w0 w : World} {i k0 g c : Nat} {xs ys : List Value} (h : ForAt l w0 w i (.slice (some ⟨g, 0, none⟩) (cntO l i) c) xs ys) (hi : IsClose l k0 i) :
    ForAt l w0 ((w.setCell ⟨g, cntO l k0 * 3 + 1, none⟩ (.int .i64 (i : Nat))).setCell ⟨w0.heap.size, i, none⟩ (.int .i64 (cntO l k0 : Nat))) (i + 1) (.slice (some ⟨g, 0, none⟩) (cntO l i) c) (xs.set (cntO l k0 * 3 + 1) (.int .i64 (i : Nat))) (ys.set i (.int .i64 (cntO l k0 : Nat))) := by
  have hil := get_lt hi.shuts
  have h3 := h.len3
  have hk0 := hi.lt
  have hg : w0.heap.size + 1 ≤ g := (h.row.lt g rfl).1
  have lt3 : ∀ k, k < i → l[k]? = some true → cntO l k * 3 + 2 < cntO l i * 3 := fun k hk hk2 => by have := cntO_lt hk2 hk; omega
  have lt0 := lt3 k0 hk0 hi.opens
  have hst := h.row.stored (cntO l k0 * 3 + 1) (.int .i64 (i : Nat))
  have hbk := h.blk.far (p := ⟨g, cntO l k0 * 3 + 1, none⟩) (by show w0.heap.size ≠ g; omega) (.int .i64 (i : Nat))
  refine ⟨?_, hbk.put i _, by rw [List.length_set]; exact h.len, fun k hk hk2 => ?_, fun k hk hk2 => ?_, fun k hk hk2 => ?_, fun k j hj hc => ?_, fun j k hj hc => ?_, fun j hj => ?_, (h.bel.setCell (by show w0.heap.size ≤ g; omega) _).setCell (Nat.le_refl _) _⟩
  · rw [cntO_no (by rw [hi.shuts]; simp)]
    refine hst.1.kept (row := some w0.heap.size) ⟨rfl, rfl, rfl, by simp [World.setCell], fun q _ hq => Below.heap_setCell _ _ _ _ (fun e => hq (by simp [e]))⟩ ?_
    refine .inr fun e => ?_
    have : g = w0.heap.size := Option.some.inj e
    omega
  · have e : k ≠ i := fun e => by subst e; rw [hi.shuts] at hk2; cases hk2
    rw [List.getElem?_set_ne (by omega)]; exact h.fst k (by omega) hk2
  · have e : k ≠ i := fun e => by subst e; rw [hi.shuts] at hk2; cases hk2
    rw [List.getElem?_set_ne (by omega)]; exact h.par k (by omega) hk2
  · have e : k ≠ i := fun e => by subst e; rw [hi.shuts] at hk2; cases hk2
    by_cases e2 : k = k0
    · subst e2; exact ⟨_, by rw [List.getElem?_set_self (by omega)]⟩
    · rw [List.getElem?_set_ne (fun e3 => e2 (cntO_inj hk2 hi.opens (by omega)))]; exact h.mid k (by omega) hk2
  · by_cases e : j = i
    · subst e
      obtain rfl := hc.uniq2 hi
      rw [List.getElem?_set_self (by omega)]
    · rw [List.getElem?_set_ne (fun e3 => by
        have e4 := cntO_inj hc.opens hi.opens (by omega)
        subst e4
        exact e (hc.uniq hi))]
      exact h.lst k j (by omega) hc
  · by_cases e : j = i
    · subst e
      rcases hc with ⟨rfl, hc⟩ | hc
      · rw [hi.shuts] at hc; cases hc
      · obtain rfl := hc.uniq2 hi
        rw [List.getElem?_set_self (by rw [h.len]; exact hil)]
    · rw [List.getElem?_set_ne (by omega)]
      exact h.ats j k (by omega) hc
  · by_cases e : j = i
    · subst e; exact ⟨_, by rw [List.getElem?_set_self (by rw [h.len]; exact hil)]⟩
    · rw [List.getElem?_set_ne (by omega)]; exact h.any j hj

theorem pnode_info : (Try.prog.info? 44).map (fun i => (i.zero, i.size, i.bytes)) = some (some (.agg #[.int .i64 0, .int .i64 0, .int .i64 0]), 3, 24) := by kernel_rfl

/-- A block beside a row that grows. -/
theorem Blk.grew {w w' : World} {g : Nat} {t : TypeId} {xs : List Value} {row : Option Nat} (h : Blk w g t xs) (hg : w.grownBy w' row) (hne : some g ≠ row) : Blk w' g t xs := (hg.block g h.lt hne).trans h
/-- A row that is not empty is not nil. -/
theorem own_some {w : World} {base : Nat} {e : TypeId} {sz : Nat} {v : Value} {n : Nat} {xs : List Value} (h : w.ownsRow base e sz v n xs) (hn : 0 < n) : ∃ g c, v = .slice (some ⟨g, 0, none⟩) n c ∧ base ≤ g ∧ n ≤ c := by
  rcases h.2 with ⟨_, h0⟩ | ⟨g, cap, cur, rfl, hb, _, hc, _⟩
  · omega
  · exact ⟨g, cap, rfl, hb, hc⟩

theorem new_cells (w : World) (t : TypeId) (us : List Value) : ∀ j u, us[j]? = some u → (w.alloc (.cells us.toArray t)).cell? ⟨w.heap.size, j, none⟩ = some u := fun j _ h => ((Blk.new w t us).cell j).trans h

/-- What paren.forest leaves. -/
def GivesForest (w : World) (l : List Bool) (e : Ending) (w' : World) : Prop := ∃ v xs ys, e = .returned (.tuple #[v, .slice (some ⟨w.heap.size, 0, none⟩) l.length l.length]) ∧ ForAt l w w' l.length v xs ys

set_option maxHeartbeats 1000000 in
/-- paren.forest. -/
theorem forest_any (l : List Bool) (w : World) (hn : l.length ≤ 400) (hb : Bal l) :
    Calls Try.prog 26 #[.string (txtP l)] w (GivesForest w l) := by
  have hsz := txtP_size l
  have HAt := Lib.hid (fun k b (h1 : l[k]? = some b) (h2 : k < (txtP l).size) => txtP_at h1 h2)
  have HB := Lib.hid hb
  have hmk := make_row (P := Try.prog) 28 3 (.int .i64 0) 8 Try.underlying28 pint_info rfl l.length (by omega) (by omega)
  clear hb
  generalize txtP l = bs at *
  go_enter Try.func26, Try.ntmps26
  go_wp2_with fail
  go_loopw [2, 4, 11] (fun v t s w' => ∃ (i : Nat) (xs ys : List Value), i ≤ l.length ∧ s = .int .i64 i ∧ t = .int .i64 (parP l i) ∧ ForAt l w w' i v xs ys) (fun _ _ s _ => l.length - (intOf s).toNat)
  case atStart =>
    refine ⟨0, [], List.replicate l.length (.int .i64 0), Nat.zero_le _, rfl, rfl, ⟨World.ownsRow_nil _ _ _ _, zeros_blk w _ _ _, by simp, (fun k hk => by omega), (fun k hk => by omega), (fun k hk => by omega), (fun k j hj => by omega), (fun j k hj => by omega), (fun j hj => ⟨0, by simp [hj]⟩), bnew w _⟩⟩
  case round =>
    obtain ⟨i, xs, ys, hi, rfl, rfl, hat⟩ := hrel
    have hci := cntO_le l i
    have HATT := Lib.hid hat
    by_cases hlt : i < l.length
    · have hil : i < bs.size := by omega
      have hiI : (i : Int) < (bs.size : Int) := by omega
      have hiL : (i : Int) < (l.length : Int) := by omega
      obtain ⟨z, hz⟩ := hat.any i hlt
      rcases get_or hlt with hb | hb
      · have hbi : (bs[i]'hil).toNat = 40 := HAt.out i true hb hil
        have hrow := hat.row
        have hsb := hat.bel.size
        have hsl := hat.blk.lt
        have HPar := Lib.hid (show parP l (i + 1) = (cntO l i : Nat) from parP_some (enc_up HB.out hb))
        have HBi := Lib.hid hb
        clear hb hat
        generalize hp : parP l i = p at *
        have HPp := Lib.hid hp
        clear hp
        go_wp2_with (at_builtin; go_loud (refine append_rec _ rfl (.tmp 18) (.tmp 22) 40 rfl (w.heap.size + 1) 44 (.agg #[.int .i64 0, .int .i64 0, .int .i64 0]) 3 24 Try.underlying40 pnode_info rfl (by decide) u2 (cntO l i) xs rfl (hrow.alloc _) wr.heap.size 1 [.int .i64 i, .int .i64 0, .int .i64 p] rfl rfl (new_cells wr 44 [.int .i64 i, .int .i64 0, .int .i64 p]) (by intro u hu; simp at hu; rcases hu with rfl | rfl | rfl <;> rfl) (by simp only [maxLen]; omega) (by omega) (by simp; omega) ?_))
        intro v2 w2 hown2 hg2
        have hblk2 := (HATT.out.blk.alloc (.cells #[.int .i64 i, .int .i64 0, .int .i64 p] 44)).grew hg2 (fun e => by have := (hrow.lt _ e.symm).1; omega)
        have hbel2 := (HATT.out.bel.alloc hsb (.cells #[.int .i64 i, .int .i64 0, .int .i64 p] 44)).grown hg2 (by simp; omega) (fun q hq => by have := (hrow.lt q hq).1; omega)
        have hown2' := hown2
        rw [← HPp.out] at hown2'
        have HUp := Lib.hid (HATT.out.up HBi.out hown2' hblk2 hbel2)
        obtain ⟨g, c, rfl, hg, hgc⟩ := own_some hown2 (by omega)
        have hcell : w2.cell? ⟨w.heap.size, i, none⟩ = some (.int .i64 z) := (hblk2.cell i).trans hz
        have hfro := hblk2.frozen i
        clear hown2 hown2' hg2 hblk2 hbel2 hrow hz
        generalize cntO l i = N at *
        go_wp2_with fail
        go_roundw
        case rel => exact ⟨i + 1, _, _, by omega, by go_num, by rw [HPar.out], HUp.out⟩
        case measure => simp [intOf]; omega
      · have hbi : (bs[i]'hil).toNat = 41 := HAt.out i false hb hil
        obtain ⟨k, hk, hek⟩ := enc_shut HB.out hb
        have hki := hk.lt
        have hkN := cntO_lt hk.opens hki
        obtain ⟨g, c, rfl, hg, hgc⟩ := own_some hat.row (by omega)
        obtain ⟨z1, hz1⟩ := hat.mid k hki hk.opens
        have hc1 : wr.cell? ⟨g, cntO l k * 3 + 1, none⟩ = some (.int .i64 z1) := (hat.row.cellAt _ (by omega)).trans hz1
        have hc2 : wr.cell? ⟨g, cntO l k * 3 + 2, none⟩ = some (.int .i64 (parP l k)) := (hat.row.cellAt _ (by omega)).trans (hat.par k hki hk.opens)
        have hf1 := hat.row.frozenAt (cntO l k * 3 + 1)
        have hcell : wr.cell? ⟨w.heap.size, i, none⟩ = some (.int .i64 z) := (hat.blk.cell i).trans hz
        have hfro := hat.blk.frozen i
        have HDn := Lib.hid (hat.down hk)
        have HPar := Lib.hid (show parP l (i + 1) = parP l k by unfold parP; rw [enc_same HB.out hk])
        have hpi : parP l i = (cntO l k : Nat) := parP_some hek
        rw [hpi]
        clear hat hz hz1 hk hek hpi hb
        generalize cntO l i = N at *
        generalize cntO l k = m at *
        generalize parP l k = p at *
        have hg1 : ¬ g = w.heap.size := by omega
        have hg2 : ¬ w.heap.size = g := by omega
        have hmN : (m : Int) < (N : Int) := by omega
        go_wp2_with fail
        go_roundw
        case rel => exact ⟨i + 1, _, _, by omega, by go_num, by rw [HPar.out], HDn.out⟩
        case measure => simp [intOf]; omega
    · obtain rfl : i = l.length := by omega
      clear hat
      go_wp2_with fail
      go_ret2
      exact ⟨_, xs, ys, rfl, HATT.out⟩
end Go.Proofs.Ytdpcnbehjgpgeaa
