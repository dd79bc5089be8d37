/-
  What rmq.Make and rmq.isTable return: contracts, walked over the translated text. No condition but what each theorem names.
-/
import Derived.Test.YtefgfkicacbmeaaRmqMk
namespace Go.Proofs.Ytefgfkicacbmeaa
open Go.RowKit Words

/-- Row k of the sparse table of l, and the table. -/
def spR (l : List Int) (k : Nat) : List Nat := spRow (nth l) l.length k
def sparse (l : List Int) : List (List Int) := (List.range (lev l.length)).map fun k => asInts (spR l k)

theorem spR_length (l : List Int) (k : Nat) : (spR l k).length = l.length + 1 - 2 ^ k := spRow_length _ _ _
theorem spR_lt (l : List Int) (k i : Nat) (h : i < (spR l k).length) : (spR l k).getD i 0 < l.length := by
  have g := List.getElem?_eq_getElem h
  have t := spRow_top _ _ _ _ _ g
  have hp := Nat.two_pow_pos k
  have h1 := t.2.hi
  rw [List.getD, g]
  show (spR l k)[i] < l.length
  have := t.1
  omega
theorem doubled_any (A : Option Addr) (l : List Int) (c : Nat) (A2 : Option Addr) (k c2 : Nat) (w : World) (hn : l.length ≤ 300) (hL : Lies w w.heap.size A (l.map (.int .i64))) (hR : Lies w w.heap.size A2 ((asInts (spR l k)).map (.int .i64))) (hp : 2 ^ k ≤ 300) :
    Calls Try.prog 54 #[.slice A l.length c, .slice A2 (spR l k).length c2, .int .i64 (2 ^ k : Nat)] w (GivesOwn w (asInts (spR l (k + 1)))) := by
  have h := doubled_core A l c A2 (spR l k) (2 ^ k) c2 w hn (by rw [spR_length]; have := Nat.two_pow_pos k; omega) hp (spR_lt l k) hL hR
  rwa [show dbl l (spR l k) (2 ^ k) = spR l (k + 1) from dbl_row l k] at h

/-- A table of k rows that a call owns, and the next row. -/
structure TabAt (w0 w' : World) (v v5 : Value) (l : List Int) (k : Nat) (rs : List Row) : Prop where
  own : w'.ownsRow w0.heap.size 22 1 v k (rs.map Row.val)
  tab : tabOf rs = (List.range k).map fun j => asInts (spR l j)
  rows : ∀ r ∈ rs, w'.ownsRow w0.heap.size 3 1 r.val r.nums.length (r.nums.map (.int .i64))
  next : w'.ownsRow w0.heap.size 3 1 v5 (spR l k).length ((asInts (spR l k)).map (.int .i64))
  bel : Below w0.heap.size w0 w'

/-- The table with one row more, before the next row is made. -/
structure TabOn (w0 w' : World) (v : Value) (l : List Int) (k : Nat) (rs : List Row) : Prop where
  own : w'.ownsRow w0.heap.size 22 1 v k (rs.map Row.val)
  tab : tabOf rs = (List.range k).map fun j => asInts (spR l j)
  rows : ∀ r ∈ rs, w'.ownsRow w0.heap.size 3 1 r.val r.nums.length (r.nums.map (.int .i64))
  bel : Below w0.heap.size w0 w'

theorem TabOn.grid {w0 w' : World} {A : Option Addr} {k c : Nat} {l : List Int} {rs : List Row} (h : TabOn w0 w' (.slice A k c) l k rs) : rs.length = k ∧ Grid w' w'.heap.size A rs ∧ (A = none → c = 0) := by
  obtain ⟨A', c', e, hle, hlen, hl, hn, _⟩ := own_slice h.own
  injection e with e1 e2 e3
  subst e1 e3
  refine ⟨by rw [List.length_map] at hlen; exact hlen, ⟨hl, fun r hr => ?_⟩, hn⟩
  obtain ⟨A2, c2, e, _, _, hl2, _, _⟩ := own_slice (h.rows r hr)
  injection e with e1 e2 e3
  subst e1
  exact hl2

/-- One row is appended. -/
theorem TabAt.added {w0 w1 w2 : World} {v v2 : Value} {l : List Int} {k : Nat} {rs : List Row} {A5 : Option Addr} {c5 : Nat} {o : Obj} (h : TabAt w0 w1 v (.slice A5 (spR l k).length c5) l k rs)
    (hown : w2.ownsRow w0.heap.size 22 1 v2 (k + 1) (rs.map Row.val ++ [.slice A5 (spR l k).length c5])) (hg : (w1.alloc o).grownBy w2 v.ownBlock) : ∃ qs, TabOn w0 w2 v2 l (k + 1) qs := by
  refine ⟨rs ++ [⟨A5, asInts (spR l k), c5⟩], ?_, ?_, ?_, ?_⟩
  · rw [List.map_append, List.map_cons, List.map_nil]
    show w2.ownsRow _ _ 1 v2 (k + 1) (rs.map Row.val ++ [.slice A5 (asInts (spR l k)).length c5])
    rw [asInts_length]
    exact hown
  · rw [List.range_succ, List.map_append, ← h.tab]
    simp [tabOf]
  · intro r hr
    rcases List.mem_append.1 hr with h1 | h1
    · exact own_beside ((h.rows r h1).alloc o) (h.own.alloc o) (by decide) hg
    · obtain rfl : r = ⟨A5, asInts (spR l k), c5⟩ := by simpa using h1
      show w2.ownsRow _ _ 1 (.slice A5 (asInts (spR l k)).length c5) _ _
      rw [asInts_length]
      exact own_beside (h.next.alloc o) (h.own.alloc o) (by decide) hg
  · have hs := h.bel.size
    exact (h.bel.alloc hs _).grown hg (by simp; omega) (fun q hq => (h.own.lt q hq).1)

theorem TabOn.next {w0 w2 w3 : World} {v v5 : Value} {l : List Int} {k : Nat} {rs : List Row} (h : TabOn w0 w2 v l k rs) (hb : Below w2.heap.size w2 w3) (hown : w3.ownsRow w2.heap.size 3 1 v5 (asInts (spR l k)).length ((asInts (spR l k)).map (.int .i64))) : TabAt w0 w3 v v5 l k rs := by
  refine ⟨own_below h.own hb (Nat.le_refl _), h.tab, fun r hr => own_below (h.rows r hr) hb (Nat.le_refl _), ?_, chain h.bel hb⟩
  rw [asInts_length] at hown
  exact own_base hown h.bel.size

/-- What a call that returns a table leaves; what it leaves where it fails. -/
def GivesTab (w : World) (T : List (List Int)) (e : Ending) (w' : World) : Prop := ∃ A rs c, e = .returned (.tuple #[.slice A rs.length c, .int .i64 0]) ∧ Grid w' w'.heap.size A rs ∧ tabOf rs = T ∧ (A = none → c = 0) ∧ Below w.heap.size w w'
def NoTab (w : World) (e : Ending) (w' : World) : Prop := e = .returned (.tuple #[.slice none 0 0, .int .i64 1]) ∧ Below w.heap.size w w'

/-- rmq.Make of a list that is too long. -/
theorem rmqmake_size (A : Option Addr) (n c : Nat) (w : World) (hn : 300 < n) (hb : n ≤ 17592186044416) :
    Calls Try.prog 32 #[.slice A n c] w (NoTab w) := by
  go_enter Try.func32, Try.ntmps32
  go_wp2_with fail
  go_ret2
  exact ⟨rfl, Below.refl _ _⟩

theorem lev_pow (n k : Nat) (hn : n ≤ 300) (hk : k ≤ lev n) : 2 ^ k ≤ 600 := by
  cases k with
  | zero => decide
  | succ k =>
    have := (lev_iff n k).1 hk
    rw [Nat.pow_succ]
    omega

set_option maxHeartbeats 2000000 in
/-- rmq.Make. -/
theorem rmqmake_any (A : Option Addr) (l : List Int) (c : Nat) (w : World) (hn : l.length ≤ 300) (hL : Lies w w.heap.size A (l.map (.int .i64))) :
    Calls Try.prog 32 #[.slice A l.length c] w (GivesTab w (sparse l)) := by
  have HL := Lib.hid hL
  have HI := Lib.hid (fun W => indices_any l.length W hn)
  have HD := Lib.hid (fun A2 k c2 W (h1 : 2 ^ k ≤ 300) hL hR => doubled_any A l c A2 k c2 W hn hL hR h1)
  have HLev := Lib.hid (fun k => lev_iff l.length k)
  have HLP := Lib.hid (fun k => lev_pow l.length k hn)
  have HS0 := Lib.hid (show asInts (List.range l.length) = asInts (spR l 0) by rw [show spR l 0 = List.range l.length from spRow_zero _ _])
  have HSp := Lib.hid (show sparse l = (List.range (lev l.length)).map fun j => asInts (spR l j) from rfl)
  clear hL
  generalize l.length = n at *
  go_enter Try.func32, Try.ntmps32
  go_wp2_with fail
  refine (HI.out _).mono ?_
  rintro e w1 ⟨v1, rfl, hv1, hb1⟩
  have HV1 := Lib.hid hv1
  clear hv1
  go_wp2_with fail
  go_loopw [4, 5, 6] (fun v v5 s w' => ∃ (k p : Nat) (rs : List Row), k ≤ lev n ∧ p = 2 ^ k ∧ p ≤ 600 ∧ s = .int .i64 p ∧ TabAt w w' v v5 l k rs) (fun _ _ s _ => 601 - (intOf s).toNat)
  case atStart => exact ⟨0, 1, [], Nat.zero_le _, rfl, by decide, rfl, World.ownsRow_nil _ _ _ _, rfl, (fun r hr => by cases hr), (by have h := HV1.out; rw [HS0.out, asInts_length] at h; exact h), hb1⟩
  case round =>
    obtain ⟨k, p, rs, hk, hpk, hp, rfl, hat⟩ := hrel
    have HAT := Lib.hid hat
    have HPK := Lib.hid hpk
    have hp1 : 1 ≤ p := by rw [hpk]; exact Nat.two_pow_pos k
    by_cases hlt : k < lev n
    · have hpn : p ≤ n := by rw [hpk]; exact (HLev.out k).1 hlt
      have hkk : k ≤ 300 := by
        have h1 := Nat.lt_two_pow_self (n := k)
        omega
      have hdbl : ((p : Int) * 2) = ((2 * p : Nat) : Int) := by omega
      obtain ⟨A5, c5, rfl, hle5, _, hl5, _, _⟩ := own_slice hat.next
      have hown := hat.own
      have hsz := hat.bel.size
      clear hat hpk hl5
      go_wp2_with (at_builtin; go_loud (refine append_one _ rfl (.tmp 19) (.tmp 21) 49 rfl w.heap.size 22 (.slice none 0 0) 24 Try.underlying49 rrow_info rfl u4 k _ rfl (hown.alloc _) wr.heap.size 1 (.slice A5 (spR l k).length c5) rfl (by simp) rfl (by simp only [maxLen]; omega) (by omega) (by simp; omega) ?_))
      intro v2 w2 hown2 hg2
      obtain ⟨qs, hon⟩ := HAT.out.added hown2 hg2
      have HON := Lib.hid hon
      have hl6 : Lies w2 w2.heap.size A5 ((asInts (spR l k)).map (.int .i64)) := by
        have h := own_beside (HAT.out.next.alloc _) (hown.alloc _) (by decide) hg2
        obtain ⟨A', c', e, _, _, hl, _, _⟩ := own_slice h
        injection e with e1
        subst e1
        exact hl
      have HL6 := Lib.hid hl6
      have HL7 := Lib.hid (HL.out.on hon.bel)
      clear hl6 hon hown2 hg2 hown
      have HD2 := Lib.hid (fun W hL hR => HD.out A5 k c5 W (by rw [← HPK.out]; omega) hL hR)
      rw [← HPK.out] at HD2
      generalize hm5 : (spR l k).length = m5 at *
      have HM5 := Lib.hid hm5
      clear hm5
      go_wp2_with fail
      refine (HD2.out _ HL7.out HL6.out).mono ?_
      rintro e w3 ⟨v6, rfl, hv6, hb6⟩
      have HAT2 := Lib.hid (HON.out.next hb6 hv6)
      clear hv6
      go_wp2_with fail
      go_roundw
      case rel => exact ⟨k + 1, 2 * p, qs, by omega, by rw [HPK.out, Nat.pow_succ]; omega, by omega, by go_num, HAT2.out⟩
      case measure => simp [intOf]; omega
    · obtain rfl : k = lev n := by omega
      have hpn : n < p := by
        rcases Nat.lt_or_ge n p with h | h
        · exact h
        · rw [hpk] at h
          exact absurd ((HLev.out _).2 h) hlt
      obtain ⟨A4, c4, rfl, hle4, _, _, _, _⟩ := own_slice hat.own
      clear hat hpk
      go_wp2_with fail
      have hon : TabOn w wr (.slice A4 (lev n) c4) l (lev n) rs := ⟨HAT.out.own, HAT.out.tab, HAT.out.rows, HAT.out.bel⟩
      obtain ⟨h1, h2, h3⟩ := hon.grid
      go_ret2
      exact ⟨A4, rs, c4, by rw [h1]; rfl, h2, by rw [HSp.out]; exact HAT.out.tab, h3, HAT.out.bel⟩

set_option maxHeartbeats 400000 in
/-- rmq.isTable of a list that is too long. -/
theorem isTable_size (A : Option Addr) (n c : Nat) (A2 : Option Addr) (m c2 : Nat) (w : World) (hn : 300 < n) (hb : n ≤ 17592186044416) :
    Calls Try.prog 55 #[.slice A n c, .slice A2 m c2] w fun e w' => e = .returned (.bool false) ∧ Below w.heap.size w w' := by
  have HM := Lib.hid (fun W => rmqmake_size A n c W hn hb)
  go_enter Try.func55, Try.ntmps55
  go_wp2_with fail
  refine (HM.out _).mono ?_
  rintro e w1 ⟨rfl, hb1⟩
  go_wp2_with fail
  go_ret
  exact ⟨rfl, hb1⟩

set_option maxHeartbeats 400000 in
/-- rmq.isTable. -/
theorem isTable_any (A : Option Addr) (l : List Int) (c : Nat) (A2 : Option Addr) (rs : List Row) (c2 : Nat) (w : World) (t : Bool) (hn : l.length ≤ 300) (hL : Lies w w.heap.size A (l.map (.int .i64))) (hm : rs.length ≤ 17592186044416) (hf : ∀ r ∈ rs, r.nums.length ≤ 17592186044416) (hG : Grid w w.heap.size A2 rs) (ht : t = true ↔ tabOf rs = sparse l) :
    Calls Try.prog 55 #[.slice A l.length c, .slice A2 rs.length c2] w fun e w' => e = .returned (.bool t) ∧ Below w.heap.size w w' := by
  have HM := Lib.hid (fun W hL => rmqmake_any A l c W hn hL)
  have HL := Lib.hid hL
  have HE := Lib.hid (fun A3 qs c3 W h1 h2 ht => eqRows_any A2 A3 rs qs c2 c3 W t hm hf h1 h2 ht)
  have HG := Lib.hid hG
  have HT := Lib.hid ht
  clear hL hG ht hf
  generalize sparse l = T at *
  generalize l.length = n at *
  generalize rs.length = m at *
  go_enter Try.func55, Try.ntmps55
  go_wp2_with fail
  refine (HM.out _ HL.out).mono ?_
  rintro e w1 ⟨A3, qs, c3, rfl, hG3, hT3, _, hb1⟩
  have HG3 := Lib.hid hG3
  have HT3 := Lib.hid hT3
  clear hG3 hT3
  have HE2 := Lib.hid (HE.out A3 qs c3 w1 (HG.out.on hb1) HG3.out (by rw [HT3.out]; exact HT.out))
  generalize qs.length = m3 at *
  go_wp2_with (go_at_call 79; refine HE2.out.mono ?_; rintro e w2 ⟨rfl, d2, rfl⟩)
  go_ret
  exact ⟨rfl, bdN hb1 _⟩

theorem lev_small (n k : Nat) (hn : n ≤ 300) (hk : k ≤ lev n) : k ≤ 9 := by
  have h := lev_pow n k hn hk
  rcases Nat.lt_or_ge 9 k with h1 | h1
  · have : 2 ^ 10 ≤ 2 ^ k := Nat.pow_le_pow_right (by decide) h1
    omega
  · exact h1
theorem pow_small (k : Nat) (h : k ≤ 9) : IntKind.i64.wrap (2 ^ k) = ((2 ^ k : Nat) : Int) := by
  have h1 : 2 ^ k ≤ 2 ^ 9 := Nat.pow_le_pow_right (by decide) h
  have e : (2 : Int) ^ k = ((2 ^ k : Nat) : Int) := by simp
  rw [e, IntKind.wrap_i64]
  generalize 2 ^ k = q at *
  omega

end Go.Proofs.Ytefgfkicacbmeaa
