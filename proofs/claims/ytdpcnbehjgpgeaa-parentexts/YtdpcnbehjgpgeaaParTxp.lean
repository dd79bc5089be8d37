/-
  What paren.Text returns: contracts, walked over the translated text. No condition but what each theorem names.
-/
import Derived.Test.YtdpcnbehjgpgeaaParOpn
import Derived.Test.YtdpcnbehjgpgeaaParTx
import Derived.Test.YtdpcnbehjgpgeaaShelf
import Derived.Lib.AppendIntMem
namespace Go.Proofs.Ytdpcnbehjgpgeaa
open Go.RowKit Words

/-- A builder whose blocks stay. -/
theorem bld_keep {T e : TypeId} {B b : Nat} {bs : List Value} {w w' : World} (h : Lib.IsBuilderF T e B b bs w) (hk : ∀ k o, w.heap[k]? = some o → (k = b ∨ ∃ c fz, o = .cells c e fz) → w'.heap[k]? = some o) : Lib.IsBuilderF T e B b bs w' := by
  have aux : ∀ p, Lib.BuilderAtF T e B b p bs w → Lib.BuilderAtF T e B b p bs w' := by
    rintro p ⟨hB, v, hb, hown, hne⟩
    refine ⟨hB, v, hk b _ hb (.inl rfl), ⟨hown.1, ?_⟩, hne⟩
    rcases hown.2 with hn | ⟨g, cap, cur, fz, hv, hbg, hg, rest⟩
    · exact .inl hn
    · exact .inr ⟨g, cap, cur, fz, hv, hbg, hk g _ hg (.inr ⟨cur, fz, rfl⟩), rest⟩
  exact h.elim (fun x => .inl (aux _ x)) (fun x => .inr (aux _ x))
theorem heap_lt {w : World} {k : Nat} {o : Obj} (h : w.heap[k]? = some o) : k < w.heap.size := (Array.getElem?_eq_some_iff.1 h).1
/-- .. where memory is made alone. -/
theorem bld_below {T e : TypeId} {B b : Nat} {bs : List Value} {w w' : World} (h : Lib.IsBuilderF T e B b bs w) (hb : Below w.heap.size w w') : Lib.IsBuilderF T e B b bs w' :=
  bld_keep h fun k _ hk _ => (hb.block k (heap_lt hk)).trans hk
/-- .. beside a row of another kind that grows. -/
theorem bld_grown {T e e2 : TypeId} {B b base : Nat} {bs : List Value} {w w' : World} {v : Value} {n : Nat} {xs : List Value} (h : Lib.IsBuilderF T e B b bs w) (hr : w.ownsRow base e2 1 v n xs) (hg : w.grownBy w' v.ownBlock) (hb : b < base) (hne : e2 ≠ e) : Lib.IsBuilderF T e B b bs w' :=
  bld_keep h fun k o hk hc => by
    refine (hg.block k (heap_lt hk) fun e1 => ?_).trans hk
    rcases hr.2 with ⟨rfl, _⟩ | ⟨g, cap, cur, rfl, hbg, hgg, _⟩
    · cases e1
    · obtain rfl : k = g := Option.some.inj e1
      rw [hk] at hgg
      rcases hc with rfl | ⟨c, fz, rfl⟩
      · omega
      · injection hgg with h1
        injection h1 with _ h2
        exact hne h2.symm
/-- A row of another kind, beside a builder that is written. -/
theorem row_others {e e2 : TypeId} {b base : Nat} {w w' : World} {v : Value} {n : Nat} {xs : List Value} (hr : w.ownsRow base e2 1 v n xs) (ho : Lib.OthersKept e (some b) w w') (hb : b < base) (hne : e2 ≠ e) : w'.ownsRow base e2 1 v n xs := by
  refine ⟨hr.1, ?_⟩
  rcases hr.2 with hn | ⟨g, cap, cur, rfl, hbg, hgg, rest⟩
  · exact .inl hn
  · refine .inr ⟨g, cap, cur, rfl, hbg, ho g _ hgg (fun e1 => ?_) (fun c fz e1 => ?_), rest⟩
    · obtain rfl : g = b := Option.some.inj e1
      omega
    · injection e1 with _ h2
      exact hne h2
theorem row_below {e2 : TypeId} {base : Nat} {w w' : World} {v : Value} {n : Nat} {xs : List Value} (hr : w.ownsRow base e2 1 v n xs) (hb : Below w.heap.size w w') : w'.ownsRow base e2 1 v n xs := by
  refine ⟨hr.1, ?_⟩
  rcases hr.2 with hn | ⟨g, cap, cur, rfl, hbg, hgg, rest⟩
  · exact .inl hn
  · exact .inr ⟨g, cap, cur, rfl, hbg, (hb.block g (heap_lt hgg)).trans hgg, rest⟩
/-- A row cut short. -/
theorem row_cut {w : World} {base : Nat} {e : TypeId} {A : Option Addr} {n c : Nat} {xs : List Value} (h : w.ownsRow base e 1 (.slice A n c) n xs) {d : Nat} (hd : d ≤ n) : w.ownsRow base e 1 (.slice A d c) d (xs.take d) := by
  have hl := h.1
  refine ⟨by rw [List.length_take]; omega, ?_⟩
  rcases h.2 with ⟨e1, hn⟩ | ⟨g, cap, cur, e1, hb, hh, h1, h2, h3, h4⟩
  · injection e1 with e1 e2 e3
    subst e1 e3
    obtain rfl : d = 0 := by omega
    exact .inl ⟨rfl, rfl⟩
  · injection e1 with e1 e2 e3
    subst e1 e3
    refine .inr ⟨g, c, cur, rfl, hb, hh, by omega, h2, h3, ?_⟩
    rw [← h4, List.take_take]
    congr 1
    omega

/-- The text's bytes. -/
def tby (t : List Bool) : List UInt8 := t.map pb
theorem tby_length (t : List Bool) : (tby t).length = t.length := List.length_map _
theorem repeat_shut : ∀ m, Lib.repeatL [41] m = tby (shuts m)
  | 0 => rfl
  | m + 1 => by
    show [41] ++ Lib.repeatL [41] m = _
    rw [repeat_shut m]
    rfl
/-- m times ')' as a text. -/
def rsh (m : Nat) : ByteArray := ⟨(Lib.repeatL [41] m).toArray⟩
theorem tby_shuts (t : List Bool) (m : Nat) : Lib.byteCells (tby t) ++ Lib.strCells (rsh m) = Lib.byteCells (tby (t ++ shuts m)) := by
  unfold rsh
  rw [Lib.strCells_toArray, repeat_shut, ← Lib.byteCells_append]
  unfold tby
  rw [List.map_append]
theorem tby_open (t : List Bool) : Lib.byteCells (tby t) ++ [Value.int .u8 40] = Lib.byteCells (tby (t ++ [true])) := by
  unfold tby
  rw [List.map_append, Lib.byteCells_append]
  rfl
theorem tby_txt (t : List Bool) : (⟨(tby t).toArray⟩ : ByteArray) = txtP t := rfl
theorem rsh_size (m : Nat) : (rsh m).size = m := by
  show (Lib.repeatL [41] m).toArray.size = m
  rw [List.size_toArray, Lib.repeatL_length]
  simp

/-- The memory of paren.Text: the builder, the open nodes. -/
structure TxMem (w0 w : World) (t : List Bool) (v : Value) (S : List Nat) : Prop where
  bld : Lib.IsBuilderF 49 5 w0.heap.size w0.heap.size (Lib.byteCells (tby t)) w
  row : w.ownsRow (w0.heap.size + 1) 3 1 v S.length ((asInts S).map (.int .i64))
  bel : Below w0.heap.size w0 w

theorem TxMem.below {w0 w w' : World} {t : List Bool} {v : Value} {S : List Nat} (h : TxMem w0 w t v S) (hb : Below w.heap.size w w') : TxMem w0 w' t v S :=
  ⟨bld_below h.bld hb, row_below h.row hb, chain h.bel hb⟩
theorem TxMem.wrote {w0 w w' : World} {t t' : List Bool} {v : Value} {S : List Nat} (h : TxMem w0 w t v S) (hk : Lib.BuilderAtF 49 5 w0.heap.size w0.heap.size (.pointer (some ⟨w0.heap.size, 0, none⟩)) (Lib.byteCells (tby t')) w') (hb : Below w0.heap.size w w') (ho : Lib.OthersKept 5 (some w0.heap.size) w w') : TxMem w0 w' t' v S :=
  ⟨.inr hk, row_others h.row ho (by omega) (by decide), h.bel.trans hb⟩
theorem TxMem.pushed {w0 w w' : World} {t : List Bool} {v v' : Value} {S : List Nat} {A : Option Addr} {c d i : Nat} (h : TxMem w0 w t v S) (hv : v = .slice A S.length c) (hd : d ≤ S.length) (o : Obj)
    (hr : w'.ownsRow (w0.heap.size + 1) 3 1 v' (d + 1) (((asInts S).map (Value.int .i64)).take d ++ [.int .i64 (i : Nat)])) (hg : (w.alloc o).grownBy w' (Value.slice A d c).ownBlock) : TxMem w0 w' t v' (S.take d ++ [i]) := by
  subst hv
  have hcut := (row_cut h.row hd).alloc o
  have hs := h.bel.size
  refine ⟨bld_grown (h.bld.alloc o) hcut hg (by omega) (by decide), ?_, (h.bel.alloc hs o).grown hg (by simp; omega) (fun q hq => by have := (hcut.lt q hq).1; omega)⟩
  have e1 : (S.take d ++ [i]).length = d + 1 := by rw [List.length_append, List.length_take]; simp; omega
  have e2 : (asInts (S.take d ++ [i])).map (Value.int .i64) = ((asInts S).map (Value.int .i64)).take d ++ [.int .i64 (i : Nat)] := by
    unfold asInts
    rw [List.map_append, List.map_append, List.map_take, List.map_take]
    rfl
  rw [e1, e2]
  exact hr

/-- Where a number comes first, or nowhere. -/
theorem first_or (zs : List Int) (p : Int) : ∀ n, (∃ k, k < n ∧ zs.getD k 0 = p ∧ ∀ j, j < k → zs.getD j 0 ≠ p) ∨ ∀ j, j < n → zs.getD j 0 ≠ p
  | 0 => .inr fun j hj => by omega
  | n + 1 => by
    rcases first_or zs p n with ⟨k, h1, h2⟩ | h
    · exact .inl ⟨k, by omega, h2⟩
    · by_cases e : zs.getD n 0 = p
      · exact .inl ⟨n, by omega, e, h⟩
      · refine .inr fun j hj => ?_
        by_cases e2 : j = n
        · rw [e2]; exact e
        · exact h j (by omega)

/-- strings.Repeat of ')'. -/
theorem rep_any (m : Nat) (w : World) (hm : m ≤ 400) : Calls Try.prog 30 #[.string (ByteArray.mk #[41]), .int .i64 m] w fun e w' => e = .returned (.string (rsh m)) ∧ Below w.heap.size w w' :=
  Try.repeated (ByteArray.mk #[41]) m w (by omega) (by show 1 * m ≤ _; omega)
/-- A text is written behind what a builder holds. -/
theorem wrs_any {w0 w : World} {t : List Bool} {v : Value} {S : List Nat} (m : Nat) (h : TxMem w0 w t v S) (ht : t.length ≤ 400) (hm : m ≤ 400) :
    Calls Try.prog 29 #[.pointer (some ⟨w0.heap.size, 0, none⟩), .string (rsh m)] w fun e w' => e = .returned (.tuple #[.int .i64 m, .nilIface]) ∧ TxMem w0 w' (t ++ shuts m) v S := by
  have h1 := Try.wstring w0.heap.size w0.heap.size (Lib.byteCells (tby t)) (rsh m) w h.bld (by rw [Lib.byteCells_length, tby_length, rsh_size]; omega) h.bel.size
  rw [rsh_size, tby_shuts] at h1
  exact h1.mono fun _ _ ⟨he, hk, hb, ho⟩ => ⟨he, h.wrote hk hb ho⟩
theorem wrb_any {w0 w : World} {t : List Bool} {v : Value} {S : List Nat} (h : TxMem w0 w t v S) (ht : t.length ≤ 1000) :
    Calls Try.prog 31 #[.pointer (some ⟨w0.heap.size, 0, none⟩), .int .u8 40] w fun e w' => e = .returned .nilIface ∧ TxMem w0 w' (t ++ [true]) v S := by
  have h1 := Try.wbyte w0.heap.size w0.heap.size (Lib.byteCells (tby t)) 40 w h.bld (by rw [Lib.byteCells_length, tby_length]; omega) h.bel.size
  rw [tby_open] at h1
  exact h1.mono fun _ _ ⟨he, hk, hb, ho⟩ => ⟨he, h.wrote hk hb ho⟩
theorem str_any {w0 w : World} {t : List Bool} {v : Value} {S : List Nat} (h : TxMem w0 w t v S) :
    Calls Try.prog 32 #[.pointer (some ⟨w0.heap.size, 0, none⟩)] w fun e w' => e = .returned (.string (txtP t)) ∧ Below w0.heap.size w0 w' :=
  (Try.bstring w0.heap.size w0.heap.size (tby t) w h.bld h.bel.size).mono fun _ _ ⟨he, _, hb, _⟩ => ⟨he, h.bel.trans hb⟩
/-- slices.Index of the open nodes. -/
theorem index_open {w : World} {base : Nat} {v : Value} {S : List Nat} (hn : S.length ≤ 200) (hr : w.ownsRow base 3 1 v S.length ((asInts S).map (.int .i64))) (p : Int) :
    Calls Try.prog 28 #[v, .int .i64 p] w fun e w' => e = .returned (.int .i64 (Lib.idxOf (asInts S) p)) ∧ w = w' := by
  have hlen : (asInts S).length = S.length := asInts_length S
  rcases hr.2 with ⟨rfl, h0⟩ | ⟨g, cap, cur, rfl, _⟩
  · obtain rfl : S = [] := List.eq_nil_of_length_eq_zero h0
    exact (Try.indexNone none 0 p w).mono fun _ _ ⟨h1, h2⟩ => ⟨h1, h2.symm⟩
  · have h := Try.indexInt g 0 S.length cap (asInts S) p w (by omega) (by omega) (fun j hj => by
      have := hr.cells (g := g) rfl j (.int .i64 ((asInts S).getD j 0)) (by rw [List.getElem?_map, List.getD, List.getElem?_eq_getElem hj]; rfl)
      rwa [Addr.add_lit] at this)
    rw [← hlen, List.take_length] at h
    rw [← hlen]
    exact h.mono fun _ _ ⟨h1, h2⟩ => ⟨h1, h2.symm⟩

/-- paren.Text of too many nodes. -/
theorem ptext_size (A : Option Addr) (n c : Nat) (w : World) (hn : 200 < n) (hb : n ≤ 17592186044416) :
    Calls Try.prog 20 #[.slice A n c] w (GivesText w ⟨#[]⟩ 1) := by
  go_enter Try.func20, Try.ntmps20
  go_wp2_with fail
  go_ret2
  exact ⟨rfl, Below.refl _ _⟩

set_option maxHeartbeats 2000000 in
/-- paren.Text. -/
theorem ptext_any (A : Option Addr) (ps : List Int) (c : Nat) (xs : ByteArray) (r : Int) (w : World) (hn : ps.length ≤ 200) (hwf : ∀ z ∈ ps, (Lit.int .i64 z).wf = true) (hL : Lies w w.heap.size A (ps.map (.int .i64)))
    (hyes : ∀ l, Bal l → treeP l = ps → xs = txtP l ∧ r = 0) (hno : (¬ ∃ l, Bal l ∧ treeP l = ps) → xs = ⟨#[]⟩ ∧ r = 4) :
    Calls Try.prog 20 #[.slice A ps.length c] w (GivesText w xs r) := by
  have HL := Lib.hid hL
  have HY := Lib.hid hyes
  have HNo := Lib.hid hno
  have HWf := Lib.hid hwf
  clear hL hyes hno hwf
  generalize hN : ps.length = N at *
  have HN := Lib.hid hN
  clear hN
  go_enter Try.func20, Try.ntmps20
  go_wp2_with fail
  go_loopw [5, 14] (fun v s w' => ∃ (i : Nat) (t : List Bool) (S : List Nat), i ≤ N ∧ s = .int .i64 i ∧ TxAt ps i t S ∧ TxMem w w' t v S) (fun _ s _ => N - (intOf s).toNat)
  case atStart =>
    refine ⟨0, [], [], Nat.zero_le _, rfl, TxAt.start ps, ⟨.inl ⟨Nat.le_refl _, .slice none 0 0, Blk.new w 49 [.pointer none, .slice none 0 0], ⟨rfl, .inl ⟨rfl, rfl⟩⟩, (fun e => by cases e)⟩, World.ownsRow_nil _ _ _ _, bnew w _⟩⟩
  case round =>
    obtain ⟨i, t, S, hi, rfl, hat, hmem⟩ := hrel
    have hlen := hat.len
    have HAT := Lib.hid hat
    have HM := Lib.hid hmem
    obtain ⟨A2, c2, rfl, hc2, _, _, hnil, _⟩ := own_slice hmem.row
    have hS : S.length ≤ 200 := by
      have h1 := cntO_le t t.length
      have h2 : cntO t t.length = i := hat.num
      omega
    have HIx := Lib.hid (fun p => index_open (w := wr) hS hmem.row p)
    by_cases hlt : i < N
    · obtain ⟨b1, o1, p, rfl, hb1, hp, hcell⟩ := (HL.out.below hmem.bel).at_ (k := i) (by rw [HN.out]; exact hlt)
      have hiI : (i : Int) < (N : Int) := by omega
      have HP := Lib.hid hp
      have hsl : (asInts S).length = S.length := asInts_length S
      have HSg := Lib.hid (show ∀ j, j < S.length → ∃ k : Nat, S[j]? = some k ∧ (asInts S).getD j 0 = (k : Int) from fun j hj => by
        have h1 := List.getElem?_eq_getElem hj
        exact ⟨_, h1, by rw [List.getD, asInts_nat S j _ h1]; rfl⟩)
      have hcase : (Lib.idxOf (asInts S) p = -1 ∧ (p != -1) = true ∧ ¬ ∃ l, Bal l ∧ treeP l = ps) ∨ ∃ dep : Nat, Lib.idxOf (asInts S) p = (dep : Int) - 1 ∧ dep ≤ S.length ∧ ((dep = 0 ∧ p = -1) ∨ ∃ j k : Nat, dep = j + 1 ∧ S[j]? = some k ∧ p = (k : Int)) := by
        rcases first_or (asInts S) p S.length with ⟨k, h1, h2, h3⟩ | h
        · obtain ⟨x, hx1, hx2⟩ := HSg.out k h1
          have h4 := Lib.idxOf_hit (asInts S) S.length k p h1 (by omega) h2 h3
          rw [← hsl, List.take_length] at h4
          exact .inr ⟨k + 1, by rw [h4]; omega, by omega, .inr ⟨k, x, rfl, hx1, by rw [← h2, hx2]⟩⟩
        · have h4 := Lib.idxOf_miss (asInts S) S.length p h
          rw [← hsl, List.take_length] at h4
          by_cases hp1 : p = -1
          · exact .inr ⟨0, by rw [h4]; rfl, Nat.zero_le _, .inl ⟨rfl, hp1⟩⟩
          · refine .inl ⟨h4, by simpa using hp1, hat.fail hp hp1 fun j k hj e => ?_⟩
            have hjl := get_lt hj
            obtain ⟨x, hx1, hx2⟩ := HSg.out j hjl
            rw [hj] at hx1
            obtain rfl := Option.some.inj hx1
            exact h j hjl (by rw [hx2, e])
      have HI1 := Lib.hid (HIx.out p)
      clear hat hmem hp HIx hsl HSg
      rcases hcase with ⟨hx, hp1, hno⟩ | ⟨dep, hx, hdep, hpar⟩
      · rw [hx] at HI1
        obtain ⟨rfl, rfl⟩ := HNo.out hno
        have hB := HM.out.bel
        clear hx hno HNo HY
        go_wp2_with fail
        refine HI1.out.mono ?_
        rintro e w1 ⟨rfl, rfl⟩
        go_wp2_with fail
        go_ret2
        exact ⟨rfl, hB⟩
      · rw [hx] at HI1
        clear hx
        have HStep := Lib.hid (HAT.out.step HP.out hdep hpar)
        have htest : (p = -1 ∧ dep = 0) ∨ ((dep : Int) == 0) = false := by
          rcases hpar with ⟨h1, h2⟩ | ⟨j, k, h1, _⟩
          · exact .inl ⟨h2, h1⟩
          · exact .inr (by rw [beq_eq_false_iff_ne]; omega)
        clear hpar HNo HY
        obtain ⟨m, hm⟩ : ∃ m, S.length - dep = m := ⟨_, rfl⟩
        have hmI : (S.length : Int) - (dep : Int) = (m : Int) := by omega
        have hdI : (dep : Int) - 1 + 1 = (dep : Int) := by omega
        rw [hm] at HStep
        have hm2 : m ≤ 200 := by omega
        have htl : t.length ≤ 400 := by omega
        have HR := Lib.hid (fun W => rep_any m W (by omega))
        clear hm
        cases A2 with
        | none =>
          obtain rfl := hnil rfl
          obtain rfl : S = [] := List.eq_nil_of_length_eq_zero (by omega)
          obtain ⟨rfl, rfl⟩ : p = -1 ∧ dep = 0 := by
            rcases htest with h | h
            · exact h
            · have : dep = 0 := by simpa using hdep
              rw [this] at h
              cases h
          obtain rfl : m = 0 := by
            have : ((([] : List Nat).length : Nat) : Int) = 0 := rfl
            omega
          have HR0 := Lib.hid (show ∀ W, Calls Try.prog 30 #[.string (ByteArray.mk #[41]), .int .i64 0] W fun e w' => e = .returned (.string (rsh 0)) ∧ Below W.heap.size W w' from HR.out)
          clear htest HR hmI hdI
          go_wp2_with fail
          refine HI1.out.mono ?_
          rintro e w1 ⟨rfl, rfl⟩
          go_wp2_with fail
          refine (HR0.out _).mono ?_
          rintro e w2 ⟨rfl, hb2⟩
          have hm2 := HM.out.below hb2
          clear hb2
          go_wp2_with fail
          refine (wrs_any 0 hm2 (by omega) (by omega)).mono ?_
          rintro e w3 ⟨rfl, hm3⟩
          clear hm2
          go_wp2_with fail
          refine (wrb_any hm3 (by rw [List.length_append, shuts_length]; omega)).mono ?_
          rintro e w4 ⟨rfl, hm4⟩
          have hs4 := hm4.bel.size
          have hrow := row_cut hm4.row (d := 0) (Nat.zero_le _)
          have HM4 := Lib.hid hm4
          clear hm3 hm4
          go_wp2_with (at_builtin; go_loud (refine append_one _ rfl (.tmp 38) (.tmp 40) 28 rfl (w.heap.size + 1) 3 (.int .i64 0) 8 Try.underlying28 pint_info rfl (.slice none 0 0) 0 _ rfl (hrow.alloc _) w4.heap.size 1 (.int .i64 i) rfl (by simp) rfl (by simp only [maxLen]; omega) (by omega) (by simp; omega) ?_))
          intro v5 w5 hown5 hg5
          have HM5 := Lib.hid (HM4.out.pushed (i := i) rfl (Nat.zero_le _) _ (by first | exact hown5 | simpa using hown5) hg5)
          clear hown5 hg5 hrow HM4
          go_wp2_with fail
          go_roundw
          case rel => exact ⟨i + 1, _, _, by omega, by go_num, HStep.out, HM5.out⟩
          case measure => simp [intOf]; omega
        | some ad =>
          obtain ⟨g, had⟩ : ∃ g, ad = ⟨g, 0, none⟩ := by
            rcases HM.out.row.2 with ⟨e1, _⟩ | ⟨g, cap, cur, e1, _⟩
            · injection e1 with e1; cases e1
            · injection e1 with e1; exact ⟨g, Option.some.inj e1⟩
          subst had
          have hdc : dep ≤ c2 := by omega
          have hdcI : (dep : Int) ≤ (c2 : Int) := by omega
          rcases htest with ⟨rfl, rfl⟩ | htest
          · obtain rfl : m = S.length := by omega
            clear hmI hdI
            go_wp2_with fail
            refine HI1.out.mono ?_
            rintro e w1 ⟨rfl, rfl⟩
            go_wp2_with fail
            refine (HR.out _).mono ?_
            rintro e w2 ⟨rfl, hb2⟩
            have hm2 := HM.out.below hb2
            clear hb2
            go_wp2_with fail
            refine (wrs_any S.length hm2 (by omega) (by omega)).mono ?_
            rintro e w3 ⟨rfl, hm3⟩
            clear hm2
            go_wp2_with fail
            refine (wrb_any hm3 (by rw [List.length_append, shuts_length]; omega)).mono ?_
            rintro e w4 ⟨rfl, hm4⟩
            have hs4 := hm4.bel.size
            have hrow := row_cut hm4.row (d := 0) (Nat.zero_le _)
            have HM4 := Lib.hid hm4
            clear hm3 hm4
            go_wp2_with (at_builtin; go_loud (refine append_one _ rfl (.tmp 38) (.tmp 40) 28 rfl (w.heap.size + 1) 3 (.int .i64 0) 8 Try.underlying28 pint_info rfl (.slice (some ⟨g, 0, none⟩) 0 c2) 0 _ rfl (hrow.alloc _) w4.heap.size 1 (.int .i64 i) rfl (by simp) rfl (by simp only [maxLen]; omega) (by omega) (by simp; omega) ?_))
            intro v5 w5 hown5 hg5
            have HM5 := Lib.hid (HM4.out.pushed (i := i) rfl (Nat.zero_le _) _ (by first | exact hown5 | simpa using hown5) hg5)
            clear hown5 hg5 hrow HM4
            go_wp2_with fail
            go_roundw
            case rel => exact ⟨i + 1, _, _, by omega, by go_num, HStep.out, HM5.out⟩
            case measure => simp [intOf]; omega
          · clear hdI
            have hdI : (dep : Int) - 1 + 1 = (dep : Int) := by omega
            go_wp2_with fail
            refine HI1.out.mono ?_
            rintro e w1 ⟨rfl, rfl⟩
            go_wp2_with fail
            refine (HR.out _).mono ?_
            rintro e w2 ⟨rfl, hb2⟩
            have hm2 := HM.out.below hb2
            clear hb2
            go_wp2_with fail
            refine (wrs_any m hm2 (by omega) (by omega)).mono ?_
            rintro e w3 ⟨rfl, hm3⟩
            clear hm2
            go_wp2_with fail
            refine (wrb_any hm3 (by rw [List.length_append, shuts_length]; omega)).mono ?_
            rintro e w4 ⟨rfl, hm4⟩
            have hs4 := hm4.bel.size
            have hrow := row_cut hm4.row (d := dep) hdep
            have HM4 := Lib.hid hm4
            clear hm3 hm4
            go_wp2_with (at_builtin; go_loud (refine append_one _ rfl (.tmp 38) (.tmp 40) 28 rfl (w.heap.size + 1) 3 (.int .i64 0) 8 Try.underlying28 pint_info rfl (.slice (some ⟨g, 0, none⟩) dep c2) dep _ rfl (hrow.alloc _) w4.heap.size 1 (.int .i64 i) rfl (by simp) rfl (by simp only [maxLen]; omega) (by omega) (by simp; omega) ?_))
            intro v5 w5 hown5 hg5
            have HM5 := Lib.hid (HM4.out.pushed (i := i) rfl hdep _ (by first | exact hown5 | simpa using hown5) hg5)
            clear hown5 hg5 hrow HM4
            go_wp2_with fail
            go_roundw
            case rel => exact ⟨i + 1, _, _, by omega, by go_num, HStep.out, HM5.out⟩
            case measure => simp [intOf]; omega
    · obtain rfl : i = N := by omega
      have hat2 := HAT.out
      rw [← HN.out] at hat2
      obtain ⟨hbal, htr⟩ := hat2.done
      obtain ⟨hxs, rfl⟩ := HY.out _ hbal htr
      have HX := Lib.hid hxs
      have HR := Lib.hid (fun W => rep_any S.length W (by omega))
      clear hat hmem hat2 hbal htr hxs HIx HY HNo
      go_wp2_with fail
      refine (HR.out _).mono ?_
      rintro e w2 ⟨rfl, hb2⟩
      have hm2 := HM.out.below hb2
      clear hb2
      go_wp2_with fail
      refine (wrs_any S.length hm2 (by omega) (by omega)).mono ?_
      rintro e w3 ⟨rfl, hm3⟩
      clear hm2
      go_wp2_with fail
      refine (str_any hm3).mono ?_
      rintro e w4 ⟨rfl, hb4⟩
      rw [← HX.out]
      clear hm3
      go_wp2_with fail
      go_ret2
      exact ⟨rfl, hb4⟩
end Go.Proofs.Ytdpcnbehjgpgeaa
