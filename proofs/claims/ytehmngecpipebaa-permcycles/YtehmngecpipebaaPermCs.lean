/-
  What perm.Cycles and the document's PermCycles return: contracts, walked over the translated text. No condition but what each theorem names.
-/
import Derived.Test.YtehmngecpipebaaPermIn
import Derived.Test.YtehmngecpipebaaPermCy
import Derived.Test.YtehmngecpipebaaLists
namespace Go.Proofs.Ytehmngecpipebaa
open Go.RowKit Words

theorem prow_info : (Try.prog.info? 22).map (fun i => (i.zero, i.size, i.bytes)) = some (some (.slice none 0 0), 1, 24) := by kernel_rfl

/-- The length of a slice's value. -/
def lenOf : Value → Nat
  | .slice _ n _ => n
  | _ => 0

/-- All but one block below is as it was. -/
structure But (g : Nat) (w w' : World) : Prop where
  os : w'.os = w.os
  tape : w'.tape = w.tape
  output : w'.output = w.output
  size : w.heap.size ≤ w'.heap.size
  block : ∀ k, k < w.heap.size → k ≠ g → w'.heap[k]? = w.heap[k]?
theorem But.refl (g : Nat) (w : World) : But g w w := ⟨rfl, rfl, rfl, Nat.le_refl _, fun _ _ _ => rfl⟩
theorem But.trans {g : Nat} {w w' w'' : World} (h : But g w w') (k : But g w' w'') : But g w w'' :=
  ⟨k.os.trans h.os, k.tape.trans h.tape, k.output.trans h.output, Nat.le_trans h.size k.size, fun j hj hne => (k.block j (Nat.lt_of_lt_of_le hj h.size) hne).trans (h.block j hj hne)⟩
theorem But.of_below {g : Nat} {w w' : World} (h : Below w.heap.size w w') : But g w w' := ⟨h.os, h.tape, h.output, h.size, fun k hk _ => h.block k hk⟩
theorem But.set {g : Nat} (w : World) (i : Nat) (u : Value) : But g w (w.setCell ⟨g, i, none⟩ u) :=
  ⟨rfl, rfl, rfl, by simp, fun k _ hne => Below.heap_setCell w ⟨g, i, none⟩ u k hne⟩
theorem But.below {g B : Nat} {w0 w w' : World} (h : But g w w') (hb : Below B w0 w) (hg : B ≤ g) (hB : B ≤ w.heap.size) : Below B w0 w' :=
  ⟨h.os.trans hb.os, h.tape.trans hb.tape, h.output.trans hb.output, Nat.le_trans hb.size h.size, fun k hk => (h.block k (Nat.lt_of_lt_of_le hk hB) (by omega)).trans (hb.block k hk)⟩
theorem Blk.beside {w w' : World} {g B : Nat} {e e2 : TypeId} {u : Value} {m : Nat} {xs ys : List Value} (h : Blk w g e xs) (k : w.ownsRow B e2 1 u m ys) (hne : e ≠ e2) (hg : w.grownBy w' u.ownBlock) : Blk w' g e xs :=
  (hg.block g h.lt fun e' => by
    obtain ⟨c2, h2⟩ := own_kind k e'.symm
    unfold Blk at h
    rw [h] at h2
    injection h2 with h2
    injection h2 with _ h3
    exact hne h3).trans h
theorem own_but {w w' : World} {g base : Nat} {e e2 : TypeId} {v : Value} {n : Nat} {xs ys : List Value} (h : w.ownsRow base e 1 v n xs) (k : Blk w g e2 ys) (hne : e ≠ e2) (hb : But g w w') : w'.ownsRow base e 1 v n xs :=
  own_keep h fun q hq => hb.block q (own_lt h hq) fun e' => by
    obtain ⟨c1, h1⟩ := own_kind h hq
    subst e'
    unfold Blk at k
    rw [k] at h1
    injection h1 with h1
    injection h1 with _ h3
    exact hne h3.symm

/-- A table of rows that a call owns. -/
structure TabC (w0 w' : World) (v : Value) (T : List (List Nat)) (rs : List Row) : Prop where
  own : w'.ownsRow w0.heap.size 22 1 v rs.length (rs.map Row.val)
  tab : rs.map Row.nums = T.map ofN
  rows : ∀ r ∈ rs, w'.ownsRow w0.heap.size 3 1 r.val r.nums.length (r.nums.map (.int .i64))
  bel : Below w0.heap.size w0 w'
theorem TabC.nil (w : World) : TabC w w (.slice none 0 0) [] [] := ⟨World.ownsRow_nil _ _ _ _, rfl, (fun r hr => by cases hr), Below.refl _ _⟩
theorem TabC.on {w0 w w' : World} {v : Value} {T : List (List Nat)} {rs : List Row} (h : TabC w0 w v T rs) (hb : Below w.heap.size w w') : TabC w0 w' v T rs :=
  ⟨own_below h.own hb (Nat.le_refl _), h.tab, fun r hr => own_below (h.rows r hr) hb (Nat.le_refl _), chain h.bel hb⟩
theorem TabC.but {w0 w w' : World} {g : Nat} {v : Value} {T : List (List Nat)} {rs : List Row} {ys : List Value} (h : TabC w0 w v T rs) (k : Blk w g 4 ys) (hb : But g w w') (hg : w0.heap.size ≤ g) : TabC w0 w' v T rs :=
  ⟨own_but h.own k (by decide) hb, h.tab, fun r hr => own_but (h.rows r hr) k (by decide) hb, hb.below h.bel hg h.bel.size⟩
theorem TabC.length {w0 w : World} {v : Value} {T : List (List Nat)} {rs : List Row} (h : TabC w0 w v T rs) : rs.length = T.length := by
  have := congrArg List.length h.tab
  simpa using this
theorem TabC.added {w0 w1 w2 : World} {v v2 : Value} {T : List (List Nat)} {rs : List Row} {A : Option Addr} {n c : Nat} {q : List Nat} {o : Obj} (h : TabC w0 w1 v T rs)
    (row : w1.ownsRow w0.heap.size 3 1 (.slice A n c) n (natC q)) (hown : w2.ownsRow w0.heap.size 22 1 v2 (rs.length + 1) (rs.map Row.val ++ [.slice A n c])) (hg : (w1.alloc o).grownBy w2 v.ownBlock) : ∃ qs, TabC w0 w2 v2 (T ++ [q]) qs := by
  have hn : n = (ofN q).length := by have := row.1; rw [natC_length] at this; rw [ofN_length]; omega
  subst hn
  refine ⟨rs ++ [⟨A, ofN q, c⟩], ?_, ?_, ?_, ?_⟩
  · rw [List.map_append, List.map_cons, List.map_nil, List.length_append]
    exact hown
  · rw [List.map_append, List.map_append, h.tab]
    rfl
  · intro r hr
    rcases List.mem_append.1 hr with h1 | h1
    · exact own_beside ((h.rows r h1).alloc o) (h.own.alloc o) (by decide) hg
    · obtain rfl : r = ⟨A, ofN q, c⟩ := by simpa using h1
      show w2.ownsRow _ _ 1 (.slice A (ofN q).length c) _ ((ofN q).map _)
      have e : (ofN q).map (Value.int .i64) = natC q := by unfold ofN; rw [← natC_map]
      rw [e]
      exact own_beside (row.alloc o) (h.own.alloc o) (by decide) hg
  · have hs := h.bel.size
    exact (h.bel.alloc hs _).grown hg (by simp; omega) (fun q hq => (h.own.lt q hq).1)
theorem TabC.grid {w0 w' : World} {A : Option Addr} {k c : Nat} {T : List (List Nat)} {rs : List Row} (h : TabC w0 w' (.slice A k c) T rs) : Grid w' w'.heap.size A rs ∧ (A = none → c = 0) ∧ k = rs.length ∧ rs.length ≤ c := by
  obtain ⟨A', c', e, hle, hlen, hl, hn, _⟩ := own_slice h.own
  injection e with e1 e2 e3
  subst e1 e3
  refine ⟨⟨hl, fun r hr => ?_⟩, hn, e2, hle⟩
  obtain ⟨A2, c2, e, _, _, hl2, _, _⟩ := own_slice (h.rows r hr)
  injection e with e1 e2 e3
  subst e1
  exact hl2

/-- What a call that returns rows and no error leaves; no rows and an error. -/
def GivesCy (w : World) (T : List (List Nat)) (e : Ending) (w' : World) : Prop := ∃ A rs c, e = .returned (.tuple #[.slice A rs.length c, .int .i64 0]) ∧ Grid w' w'.heap.size A rs ∧ rs.map Row.nums = T.map ofN ∧ (A = none → c = 0) ∧ rs.length ≤ c ∧ Below w.heap.size w w'

/-- Which numbers below n stand in a list. -/
def markN (n : Nat) (l : List Nat) : List Value := (List.range n).map fun x : Nat => .bool (decide (x ∈ l))
theorem markN_length (n : Nat) (l : List Nat) : (markN n l).length = n := by simp [markN]
theorem markN_get (n : Nat) (l : List Nat) (x : Nat) (h : x < n) : (markN n l)[x]? = some (.bool (decide (x ∈ l))) := by unfold markN; rw [List.getElem?_map, List.getElem?_range h]; rfl
theorem markN_nil (n : Nat) : markN n [] = List.replicate n (.bool false) := by
  apply List.ext_getElem?
  intro i
  by_cases h : i < n
  · rw [markN_get n [] i h, List.getElem?_replicate, if_pos h]; simp
  · rw [List.getElem?_eq_none (by rw [markN_length]; omega), List.getElem?_eq_none (by simp; omega)]
theorem markN_set (n : Nat) (l : List Nat) (x : Nat) : (markN n l).set x (.bool true) = markN n (l ++ [x]) := by
  apply List.ext_getElem?
  intro i
  by_cases hi : i < n
  · rw [markN_get n _ i hi]
    by_cases e : x = i
    · subst e
      rw [List.getElem?_set_self (by rw [markN_length]; exact hi)]
      simp
    · rw [List.getElem?_set_ne e, markN_get n l i hi]
      have : (i ∈ l ++ [x]) ↔ i ∈ l := by
        rw [List.mem_append, List.mem_singleton]
        exact ⟨fun h => h.elim id fun e2 => by omega, Or.inl⟩
      simp only [this]
  · rw [List.getElem?_eq_none (by rw [List.length_set, markN_length]; omega), List.getElem?_eq_none (by rw [markN_length]; omega)]

/-- While a cycle is followed: the next number is new, till it has closed. -/
theorem cyc_new {p : List Nat} (h : PermL p) {i k : Nat} (hi : i < p.length) (hl : least p i = true) (hk : k < per p i) : it p k i ∉ (cycsTo p i).flatten ++ (cyc p i).take k := by
  rw [List.mem_append]
  rintro (hm | hm)
  · obtain ⟨j, hj, hr⟩ := (mem_cycsTo h (Nat.le_of_lt hi)).1 hm
    have hr2 : Reach p j i := hr.trans (Reach.symm h hi ⟨k, rfl⟩)
    exact (fresh_iff h hi).2 hl ((mem_cycsTo h (Nat.le_of_lt hi)).2 ⟨j, hj, hr2⟩)
  · rw [cyc_take p i k (Nat.le_of_lt hk)] at hm
    obtain ⟨j, hj, e⟩ := List.mem_map.1 hm
    exact it_differ h hi (List.mem_range.1 hj) hk e
theorem cyc_closed {p : List Nat} (h : PermL p) {i : Nat} (hi : i < p.length) : it p (per p i) i ∈ (cycsTo p i).flatten ++ (cyc p i).take (per p i) := by
  rw [it_per h hi, List.mem_append]
  right
  rw [cyc_take p i _ (Nat.le_refl _)]
  exact List.mem_map.2 ⟨0, List.mem_range.2 (per_pos p i), rfl⟩
theorem cyc_take_succ (p : List Nat) (i k : Nat) (hk : k < per p i) : (cyc p i).take (k + 1) = (cyc p i).take k ++ [it p k i] := by
  rw [List.take_add_one, cyc_get p i k hk]; rfl
theorem cyc_take_all (p : List Nat) (i : Nat) : (cyc p i).take (per p i) = cyc p i := List.take_of_length_le (by rw [cyc_length]; exact Nat.le_refl _)
theorem cycsTo_yes {p : List Nat} {i : Nat} (hl : least p i = true) : cycsTo p (i + 1) = cycsTo p i ++ [cyc p i] := by rw [cycsTo_succ, if_pos hl]
theorem cycsTo_no {p : List Nat} {i : Nat} (hl : least p i = false) : cycsTo p (i + 1) = cycsTo p i := by rw [cycsTo_succ, hl]; simp

set_option maxHeartbeats 1000000 in
/-- perm.Cycles of what is none. -/
theorem cycles_err (A : Option Addr) (n c : Nat) (r : Int) (w : World) (hr : r ≠ 0) (h : Calls Try.prog 18 #[.slice A n c] w (Says w r)) :
    Calls Try.prog 25 #[.slice A n c] w (NoPL w r) := by
  have H := Lib.hid h
  have hne : (r != 0) = true := by simpa using hr
  clear h hr
  go_enter Try.func25, Try.ntmps25
  go_wp2_with fail
  refine H.out.mono ?_
  rintro e w1 ⟨rfl, hb1⟩
  go_wp2_with fail
  go_ret2
  exact ⟨rfl, hb1⟩

/-- Memory while a cycle is followed. -/
structure CyIn (g : Nat) (w2 w' : World) (n : Nat) (v : Value) (k : Nat) (F q : List Nat) : Prop where
  row : w'.ownsRow w2.heap.size 3 1 v k (natC q)
  seen : Blk w' g 4 (markN n (F ++ q))
  but : But g w2 w'

theorem But.then_ {g : Nat} {w w' w'' : World} (h : But g w w') (k : Below w.heap.size w' w'') : But g w w'' :=
  ⟨k.os.trans h.os, k.tape.trans h.tape, k.output.trans h.output, Nat.le_trans h.size k.size, fun j hj hne => (k.block j hj).trans (h.block j hj hne)⟩
theorem CyIn.step {g : Nat} {w2 w w3 : World} {n k x : Nat} {v v1 : Value} {F q : List Nat} {o : Obj} (h : CyIn g w2 w n v k F q)
    (hown : w3.ownsRow w2.heap.size 3 1 v1 (k + 1) (natC q ++ [.int .i64 x])) (hgr : ((w.setCell ⟨g, x, none⟩ (.bool true)).alloc o).grownBy w3 v.ownBlock) : CyIn g w2 w3 n v1 (k + 1) F (q ++ [x]) := by
  have hrow2 := own_but h.row h.seen (by decide) (But.set w x (.bool true))
  have hsz := h.but.size
  refine ⟨by rw [natC_snoc]; exact hown, ?_, ?_⟩
  · have h1 := Blk.beside ((h.seen.put x (.bool true)).alloc o) (hrow2.alloc o) (by decide) hgr
    rw [markN_set, List.append_assoc] at h1
    exact h1
  · refine (h.but.trans (But.set w x (.bool true))).then_ ?_
    exact ((Below.refl _ _).alloc (by simp; omega) o).grown hgr (by simp; omega) (fun q hq => (hrow2.lt q hq).1)

set_option maxHeartbeats 4000000 in
/-- perm.Cycles. -/
theorem cycles_ok (A : Option Addr) (p : List Nat) (c : Nat) (w : World) (hp : PermL p) (hn : p.length ≤ 300) (hL : Lies w w.heap.size A (natC p)) :
    Calls Try.prog 25 #[.slice A p.length c] w (GivesCy w (cycs p)) := by
  have HL := Lib.hid hL
  have HC := Lib.hid (check_ok A p c w hp hn hL)
  have hmk := make_row (P := Try.prog) 54 4 (.bool false) 1 Try.underlying54 pbool_info rfl p.length (by omega) (by omega)
  have HM := Lib.hid (show markN p.length (cycsTo p 0).flatten = List.replicate p.length (.bool false) from markN_nil p.length)
  have HFr := Lib.hid (fun i (hi : i < p.length) => fresh_iff hp hi)
  have HNew := Lib.hid (fun i k (hi : i < p.length) (hl : least p i = true) (hk : k < per p i) => cyc_new hp hi hl hk)
  have HClo := Lib.hid (fun i (hi : i < p.length) => cyc_closed hp hi)
  have HPer := Lib.hid (fun i (hi : i < p.length) => per_le hp hi)
  have HIt := Lib.hid (fun i (hi : i < p.length) k => it_lt hp hi k)
  have HCl := Lib.hid (fun i => cycsTo_length_le p i)
  have HG := Lib.hid (fun (l : List Nat) x (hx : x < p.length) => markN_get p.length l x hx)
  have HSet := Lib.hid (fun (l : List Nat) x => markN_set p.length l x)
  have HFin := Lib.hid (show cycs p = cycsTo p p.length from rfl)
  obtain ⟨n, hk⟩ : ∃ n, p.length = n := ⟨_, rfl⟩
  rw [hk] at hn hmk HC ⊢
  have HN := Lib.hid hk
  rw [HN.out] at HM HFr HNew HClo HPer HIt HG HSet HFin
  clear hk hL hp
  go_enter Try.func25, Try.ntmps25
  go_wp2_with fail
  refine HC.out.mono ?_
  rintro e w1 ⟨rfl, hb1⟩
  have HL1 := Lib.hid (HL.out.on hb1)
  have HB1 := Lib.hid hb1
  clear hb1
  go_wp2_with fail
  have hbz := zeros_blk w1 (.bool false) n 4
  rw [← HM.out] at hbz
  have HBl := Lib.hid (bnew w1 (.cells (zeros (.bool false) n) 4))
  have HT0 := Lib.hid ((TabC.nil w1).on HBl.out)
  generalize w1.alloc (.cells (zeros (.bool false) n) 4) = w2 at *
  have HBz := Lib.hid hbz
  clear hbz hmk HM
  go_loopw [5, 20] (fun v u w' => ∃ (i : Nat) (rs : List Row), i ≤ n ∧ u = .int .i64 i ∧ TabC w1 w' v (cycsTo p i) rs ∧ Blk w' w1.heap.size 4 (markN n (cycsTo p i).flatten)) (fun _ u _ => n - (intOf u).toNat)
  case atStart => exact ⟨0, [], Nat.zero_le _, rfl, HT0.out, HBz.out⟩
  case round =>
    rename World => wo
    obtain ⟨i, rs, hi, rfl, htab, hbk⟩ := hrel
    have HTab := Lib.hid htab
    have HBk := Lib.hid hbk
    by_cases hlt : i < n
    · have hci := hbk.cell i
      rw [HG.out _ i hlt] at hci
      cases hle : least p i
      · -- not the least: it has been seen
        have hm : i ∈ (cycsTo p i).flatten := Classical.not_not.1 fun hn2 => by
          have := (HFr.out i hlt).1 hn2
          rw [hle] at this
          cases this
        rw [decide_eq_true hm] at hci
        have HNo := Lib.hid (cycsTo_no hle)
        clear htab hbk hm hle
        go_wp2_with fail
        go_roundw
        case rel => exact ⟨i + 1, rs, by omega, by go_num, by rw [HNo.out]; exact HTab.out, by rw [HNo.out]; exact HBk.out⟩
        case measure => simp [intOf]; omega
      · have hm : i ∉ (cycsTo p i).flatten := (HFr.out i hlt).2 hle
        rw [decide_eq_false hm] at hci
        have HYes := Lib.hid (cycsTo_yes hle)
        have hpl := HPer.out i hlt
        have HNw := Lib.hid (fun k hk => HNew.out i k hlt hle hk)
        have HCd := Lib.hid (HClo.out i hlt)
        have HI := Lib.hid (HIt.out i hlt)
        have HTk := Lib.hid (fun k hk => cyc_take_succ p i k hk)
        have HTa := Lib.hid (cyc_take_all p i)
        have hcl := HCl.out i
        have hrl : rs.length ≤ 300 := by have := htab.length; omega
        have HIs := Lib.hid (fun k => show it p (k + 1) i = st p (it p k i) from rfl)
        have HI0 := Lib.hid (show it p 0 i = i from rfl)
        generalize per p i = m at *
        generalize hF : cycsTo p i = T at *
        have HF := Lib.hid hF
        clear htab hbk hm hle hF
        go_wp2_with fail
        go_loopw [8, 9] (fun v u w' => ∃ (k : Nat) (B : Option Addr) (d : Nat), k ≤ m ∧ u = .int .i64 (it p k i : Nat) ∧ v = .slice B k d ∧ CyIn w1.heap.size wo w' n v k T.flatten ((cyc p i).take k)) (fun v _ _ => m - lenOf v)
        case atStart => exact ⟨0, none, 0, Nat.zero_le _, by rw [HI0.out], rfl, by rw [List.take_zero]; exact World.ownsRow_nil _ _ _ _, by rw [List.take_zero, List.append_nil]; exact HBk.out, But.refl _ _⟩
        case round =>
          obtain ⟨k, B, d, hk, rfl, rfl, hcy⟩ := hrel
          have HCy := Lib.hid hcy
          have hx := HI.out k
          have hcs := hcy.seen.cell (it p k i)
          rw [HG.out _ _ hx] at hcs
          have hfz := hcy.seen.frozen (it p k i)
          have HBel := Lib.hid (hcy.but.below HTab.out.bel (Nat.le_refl _) HTab.out.bel.size)
          have hso := hcy.but.size
          have hs1 := HTab.out.bel.size
          by_cases hkm : k < m
          · rw [decide_eq_false (HNw.out k hkm)] at hcs
            have HTs := Lib.hid (HTk.out k hkm)
            have HNx := Lib.hid (HIs.out k)
            have hrow2 := own_but hcy.row hcy.seen (by decide) (But.set wr (it p k i) (.bool true))
            have hgx : Hid (∃ b o, A = some ⟨b, o, none⟩ ∧ b < w1.heap.size ∧ w1.cell? ⟨b, o + it p k i, none⟩ = some (.int .i64 (st p (it p k i) : Nat))) := nat_at HL1.out (k := it p k i) (by rw [HN.out]; exact hx)
            generalize it p k i = x at *
            generalize hq : (cyc p i).take k = q at *
            have HCell := Lib.hid (show ((wr.setCell ⟨w1.heap.size, x, none⟩ (.bool true)).alloc (.cells #[.int .i64 x] 3)).cell? ⟨wr.heap.size, 0, none⟩ = some (.int .i64 x) by
              have h := (Blk.new (wr.setCell ⟨w1.heap.size, x, none⟩ (.bool true)) 3 [.int .i64 x]).cell 0
              rwa [show (wr.setCell ⟨w1.heap.size, x, none⟩ (.bool true)).heap.size = wr.heap.size by simp] at h)
            clear hcy hq
            go_wp2_with (at_builtin; go_loud (refine append_one _ rfl (.tmp 40) (.tmp 42) 22 rfl wo.heap.size 3 (.int .i64 0) 8 Try.underlying22 pint_info rfl (.slice B k d) k _ rfl (hrow2.alloc _) wr.heap.size 1 (.int .i64 x) rfl HCell.out rfl (by simp only [maxLen]; omega) (by omega) (by simp; omega) ?_))
            intro v1 w3 hown1 hg1
            have HC3 := Lib.hid (HCy.out.step hown1 hg1)
            obtain ⟨B3, d3, rfl, _, _, _, _, _⟩ := own_slice hown1
            have hb3 := HC3.out.but.below HTab.out.bel (Nat.le_refl _) HTab.out.bel.size
            obtain ⟨b, o, rfl, hb, hcx⟩ := hgx.out
            have hc3 := bcell hb3 b (o + x) hb
            rw [hcx] at hc3
            clear hown1 hg1 hrow2 hcs hfz hb3 hcx
            go_wp2_with fail
            go_roundw
            case rel => exact ⟨k + 1, B3, d3, by omega, by rw [HNx.out], rfl, by rw [HTs.out]; exact HC3.out⟩
            case measure => simp [lenOf]; omega
          · obtain rfl : m = k := by omega
            rw [decide_eq_true HCd.out] at hcs
            have htab2 := HTab.out.but HBk.out hcy.but (Nat.le_refl _)
            have hrow := own_base hcy.row hs1
            have hseen := hcy.seen
            rw [HTa.out] at hrow hseen
            have HTb2 := Lib.hid htab2
            have HRow := Lib.hid hrow
            have HSeen := Lib.hid hseen
            have hown := htab2.own
            have hsz2 := HBel.out.size
            have HFl := Lib.hid (show (cycsTo p (i + 1)).flatten = T.flatten ++ cyc p i by rw [HYes.out, List.flatten_append]; simp)
            clear hcy htab2 hrow hseen hfz
            go_wp2_with (at_builtin; go_loud (refine append_one _ rfl (.tmp 44) (.tmp 46) 40 rfl w1.heap.size 22 (.slice none 0 0) 24 Try.underlying40 prow_info rfl u5 rs.length _ rfl (hown.alloc _) wr.heap.size 1 (.slice B m d) rfl (by simp) rfl (by simp only [maxLen]; omega) (by omega) (by simp; omega) ?_))
            intro v3 w3 hown3 hg3
            obtain ⟨qs, hqs⟩ := HTb2.out.added HRow.out hown3 hg3
            have HQs := Lib.hid hqs
            have HS3 := Lib.hid (Blk.beside (HSeen.out.alloc _) (hown.alloc _) (by decide) hg3)
            clear hown3 hg3 hqs hown hcs
            go_wp2_with fail
            go_roundw
            case rel => exact ⟨i + 1, qs, by omega, by go_num, by rw [HYes.out]; exact HQs.out, by rw [HFl.out]; exact HS3.out⟩
            case measure => simp [intOf]; omega
    · obtain rfl : n = i := by omega
      obtain ⟨A4, c4, rfl, _, _, _, _, _⟩ := own_slice htab.own
      obtain ⟨hg1, hg2, _, hg4⟩ := htab.grid
      have HG1 := Lib.hid hg1
      have HG2 := Lib.hid hg2
      clear hbk hg1 hg2 htab
      go_wp2_with fail
      go_ret2
      exact ⟨A4, rs, c4, rfl, HG1.out, by rw [HFin.out]; exact HTab.out.tab, HG2.out, hg4, chain HB1.out HTab.out.bel⟩
end Go.Proofs.Ytehmngecpipebaa
