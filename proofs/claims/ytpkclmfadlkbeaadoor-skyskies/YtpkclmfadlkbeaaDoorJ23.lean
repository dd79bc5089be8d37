/-
  What wave's digit, fits, size, onesBefore and split return: contracts, walked over the translated text. What wave's length, May and check return: contracts, walked over the translated text. A matrix is '.agg #[.slice A vs.length c]', its levels vs in memory. What wave.compare returns: contracts, walked over the translated text. What wave.kth returns: contracts, walked over the translated text. What wave.At, Rank, Below, Kth and Next return: contracts, walked over the translated text. Plain mathematics of the making of a matrix, of no program; the levels of a matrix that was made of a list. No condition but what each theorem names.
-/
import Derived.Test.YtpkclmfadlkbeaaDoorJ06
import Derived.Test.YtpkclmfadlkbeaaDoorJ04
import Derived.Test.YtpkclmfadlkbeaaDoorJ19
import Derived.Deep.RegionWith
import Derived.Deep.RegionHeld3
import Derived.Deep.Cut
import Derived.Deep.DeepCutAuto
namespace Go.Proofs.YtpkclmfadlkbeaaDoor
open Go.RowKit Words

theorem digit_int (x p : Nat) (hx : x < 9223372036854775808) : bits BinOp.and IntKind.i64 ((x : Int) / 2 ^ p) 1 = ((x.testBit p).toNat : Int) := by
  have e : ((x : Int) / 2 ^ p) = ((x / 2 ^ p : Nat) : Int) := by simp
  have hl : x / 2 ^ p < 9223372036854775808 := Nat.lt_of_le_of_lt (Nat.div_le_self _ _) hx
  have h := bits_and_i64_nat (x / 2 ^ p) 1 hl (by decide)
  rw [e]
  have h2 : bits BinOp.and IntKind.i64 ((x / 2 ^ p : Nat) : Int) 1 = ((x / 2 ^ p &&& 1 : Nat) : Int) := h
  rw [h2, nat_mask1, Nat.toNat_testBit]

/-- wave.digit. -/
theorem digit_any (x p : Nat) (w : World) (hx : x < 9223372036854775808) (hp : p ≤ 21) :
    Calls Tryd.prog 66 #[.int .i64 x, .int .i64 p] w fun e w' => e = .returned (.int .i64 ((x.testBit p).toNat : Nat)) ∧ w = w' := by
  have hd := digit_int x p hx
  go_enter Tryd.func66, Tryd.ntmps66
  go_wp2
  go_ret
  exact ⟨rfl, rfl⟩

/-- wave.fits. -/
theorem fits_neg (x : Int) (l : Nat) (w : World) (h : x < 0) :
    Calls Tryd.prog 57 #[.int .i64 x, .int .i64 l] w fun e w' => e = .returned (.bool false) ∧ w = w' := by
  have hd : decide (0 ≤ x) = false := by simp; omega
  go_enter Tryd.func57, Tryd.ntmps57
  go_wp2
  go_ret
  exact ⟨rfl, rfl⟩
theorem fits_any (x l : Nat) (w : World) (hl : l ≤ 21) (t : Bool) (ht : decide (x < 2 ^ l) = t) :
    Calls Tryd.prog 57 #[.int .i64 x, .int .i64 l] w fun e w' => e = .returned (.bool t) ∧ w = w' := by
  have hd : decide (0 ≤ (x : Int)) = true := by simp
  have hp : 2 ^ l ≤ 2 ^ 21 := Nat.pow_le_pow_right (by decide) hl
  go_enter Tryd.func57, Tryd.ntmps57
  go_wp2
  go_ret
  refine ⟨congrArg Ending.returned (congrArg Value.bool ?_), rfl⟩
  have e : ((2 : Int) ^ l) = ((2 ^ l : Nat) : Int) := by simp
  have hw : wrap64 ((2 : Int) ^ l) = ((2 ^ l : Nat) : Int) := by rw [e]; generalize 2 ^ l = y at *; unfold wrap64; omega
  rw [hw, ← ht]
  generalize 2 ^ l = y at *
  simp

/-- The four cells that split returns: where the next level has the zeros, and where it has the ones. -/
def splitC (n : Nat) (b : Nat → Bool) (f t : Nat) : Value := .agg #[.int .i64 (f - tally b f : Nat), .int .i64 (t - tally b t : Nat), .int .i64 (zr n b + tally b f : Nat), .int .i64 (zr n b + tally b t : Nat)]

/-- Two boxes, one behind the other. -/
def Bx (g t1 t2 : Nat) (a b c d : Value) (W : World) : Prop := Blk W g t1 [a, b] ∧ Blk W (g + 1) t2 [c, d]
theorem Bx.on {g t1 t2 : Nat} {a b c d : Value} {W W' : World} (h : Bx g t1 t2 a b c d W) (hb : Below W.heap.size W W') : Bx g t1 t2 a b c d W' := ⟨h.1.below hb h.1.lt, h.2.below hb h.2.lt⟩
theorem Bx.c {g t1 t2 : Nat} {a b c d : Value} {W : World} (h : Bx g t1 t2 a b c d W) : W.cell? ⟨g, 0, none⟩ = some a ∧ W.cell? ⟨g, 1, none⟩ = some b ∧ W.cell? ⟨g + 1, 0, none⟩ = some c ∧ W.cell? ⟨g + 1, 1, none⟩ = some d := ⟨h.1.cell 0, h.1.cell 1, h.2.cell 0, h.2.cell 1⟩

end Go.Proofs.YtpkclmfadlkbeaaDoor

namespace Go.Proofs.YtpkclmfadlkbeaaDoor
open Go.RowKit Words

/-- The length that a matrix tells. -/
def lenOf : List Lev → Int
  | [] => 0
  | v :: _ => v.n
/-- A level of n bits that is valid. -/
def Good10 (n : Int) (v : Lev) : Prop := v.n = n ∧ v.n ≤ 300 ∧ ∃ m : Nat, v.n = m ∧ Valid m v.ws
/-- A valid matrix. -/
def Sound (vs : List Lev) : Prop := vs.length ≤ 21 ∧ ∀ v ∈ vs, Good10 (lenOf vs) v

/-- What May leaves. -/
def MayPost (vs : List Lev) (w : World) (e : Ending) (w' : World) : Prop := ∃ r : Bool, e = .returned (.bool r) ∧ (r = true ↔ Sound vs) ∧ Below w.heap.size w w'

/-- A valid matrix of n numbers. -/
structure WV (n : Nat) (vs : List Lev) : Prop where
  few : vs.length ≤ 21
  hi : n ≤ 300
  len : lenOf vs = n
  each : ∀ v ∈ vs, v.n = (n : Int) ∧ Valid n v.ws
theorem WV.sound {n : Nat} {vs : List Lev} (h : WV n vs) : Sound vs :=
  ⟨h.few, fun v hv => ⟨by rw [h.len]; exact (h.each v hv).1, by have := (h.each v hv).1; have := h.hi; omega, n, (h.each v hv).1, (h.each v hv).2⟩⟩
theorem Sound.wv {vs : List Lev} (h : Sound vs) : ∃ n, WV n vs := by
  cases vs with
  | nil => exact ⟨0, h.1, by omega, rfl, fun v hv => by cases hv⟩
  | cons v r =>
    obtain ⟨h1, h2, m, h3, h4⟩ := h.2 v (by simp)
    refine ⟨m, h.1, by omega, h3, fun u hu => ?_⟩
    obtain ⟨g1, g2, k, g3, g4⟩ := h.2 u hu
    have e : u.n = (m : Int) := by rw [g1]; exact h3
    have ek : k = m := by omega
    exact ⟨e, by rw [← ek]; exact g4⟩
/-- The levels, each as a function. -/
def fns (vs : List Lev) : List (Nat → Bool) := vs.map fun v => bit v.ws
theorem fns_length (vs : List Lev) : (fns vs).length = vs.length := by simp [fns]
theorem fns_drop (vs : List Lev) (i : Nat) (v : Lev) (h : vs[i]? = some v) : (fns vs).drop i = bit v.ws :: (fns vs).drop (i + 1) := by
  obtain ⟨hi, rfl⟩ := List.getElem?_eq_some_iff.1 h
  unfold fns
  rw [List.drop_eq_getElem_cons (by simpa using hi)]
  simp

end Go.Proofs.YtpkclmfadlkbeaaDoor

namespace Go.Proofs.YtpkclmfadlkbeaaDoor
open Go.RowKit Words

theorem mod_step (y q : Nat) : y % 2 ^ (q + 1) = (y.testBit q).toNat * 2 ^ q + y % 2 ^ q := by
  rw [Nat.pow_succ, Nat.mod_mul, Nat.toNat_testBit, Nat.mul_comm, Nat.add_comm]
theorem less_zero_step (n : Nat) (b : Nat → Bool) (bs : List (Nat → Bool)) (y q f t : Nat) (hq : bs.length = q) (h : y.testBit q = false) :
    less n (b :: bs) (y % 2 ^ (q + 1)) f t = less n bs (y % 2 ^ q) (f - tally b f) (t - tally b t) ∧ same n (b :: bs) (y % 2 ^ (q + 1)) f t = same n bs (y % 2 ^ q) (f - tally b f) (t - tally b t) := by
  have hl : y % 2 ^ q < 2 ^ bs.length := by rw [hq]; exact Nat.mod_lt _ (Nat.two_pow_pos q)
  rw [mod_step, h]
  simp only [Bool.toNat_false, Nat.zero_mul, Nat.zero_add]
  exact ⟨less_zero_digit n b bs _ hl f t, same_zero_digit n b bs _ hl f t⟩
theorem less_one_step (n : Nat) (b : Nat → Bool) (bs : List (Nat → Bool)) (y q f t : Nat) (hq : bs.length = q) (h : y.testBit q = true) :
    less n (b :: bs) (y % 2 ^ (q + 1)) f t = ((t - tally b t : Nat) : Int) - ((f - tally b f : Nat) : Int) + less n bs (y % 2 ^ q) (zr n b + tally b f) (zr n b + tally b t) ∧ same n (b :: bs) (y % 2 ^ (q + 1)) f t = same n bs (y % 2 ^ q) (zr n b + tally b f) (zr n b + tally b t) := by
  rw [mod_step, h]
  simp only [Bool.toNat_true, Nat.one_mul]
  rw [← hq]
  exact ⟨less_one_digit n b bs _ f t, same_one_digit n b bs _ f t⟩

end Go.Proofs.YtpkclmfadlkbeaaDoor

namespace Go.Proofs.YtpkclmfadlkbeaaDoor
open Go.RowKit Words

theorem kv_zero_step (n : Nat) (b : Nat → Bool) (bs : List (Nat → Bool)) (f t m : Nat) (h : m < (t - tally b t) - (f - tally b f)) : kv n (b :: bs) f t m = kv n bs (f - tally b f) (t - tally b t) m := by rw [kv, if_pos h]
theorem kv_one_step (n : Nat) (b : Nat → Bool) (bs : List (Nat → Bool)) (f t m : Nat) (h : ¬ m < (t - tally b t) - (f - tally b f)) : kv n (b :: bs) f t m = 2 ^ bs.length + kv n bs (zr n b + tally b f) (zr n b + tally b t) (m - ((t - tally b t) - (f - tally b f))) := by rw [kv, if_neg h]

end Go.Proofs.YtpkclmfadlkbeaaDoor

namespace Go.Proofs.YtpkclmfadlkbeaaDoor
open Go.RowKit Words

/-- The answers, of a valid matrix of n numbers. -/
def atV10 (n : Nat) (bs : List (Nat → Bool)) (i : Int) : Int := if 0 ≤ i ∧ i < n then (val n bs i.toNat : Int) else 0
def atE10 (n : Nat) (i : Int) : Int := if 0 ≤ i ∧ i < n then 0 else 2
def rankV10 (n : Nat) (bs : List (Nat → Bool)) (x i : Int) : Int := if 0 ≤ i ∧ i ≤ n then sameI n bs x 0 i.toNat else 0
def rankE10 (n : Nat) (i : Int) : Int := if 0 ≤ i ∧ i ≤ n then 0 else 2
def belV10 (n : Nat) (bs : List (Nat → Bool)) (a b x : Int) : Int := if 0 ≤ a ∧ a ≤ b ∧ b ≤ n then lessI n bs x a.toNat b.toNat else 0
def belE10 (n : Nat) (a b : Int) : Int := if 0 ≤ a ∧ a ≤ b ∧ b ≤ n then 0 else 2
def kthV10 (n : Nat) (bs : List (Nat → Bool)) (a b k : Int) : Int := if (0 ≤ a ∧ a ≤ b ∧ b ≤ n) ∧ 0 ≤ k ∧ k < b - a then (kv n bs a.toNat b.toNat k.toNat : Int) else 0
def kthE10 (n : Nat) (a b k : Int) : Int := if (0 ≤ a ∧ a ≤ b ∧ b ≤ n) ∧ 0 ≤ k then (if k < b - a then 0 else 7) else 2
def nextV10 (n : Nat) (bs : List (Nat → Bool)) (a b x : Int) : Int := if (0 ≤ a ∧ a ≤ b ∧ b ≤ n) ∧ lessI n bs x a.toNat b.toNat < b - a then (kv n bs a.toNat b.toNat (lessI n bs x a.toNat b.toNat).toNat : Int) else 0
def nextE10 (n : Nat) (bs : List (Nat → Bool)) (a b x : Int) : Int := if 0 ≤ a ∧ a ≤ b ∧ b ≤ n then (if lessI n bs x a.toNat b.toNat < b - a then 0 else 7) else 2

theorem lessI_le (n : Nat) (bs : List (Nat → Bool)) (x : Int) (f t : Nat) (h : f ≤ t) : lessI n bs x f t ≤ (t : Int) - f := num_le _ _ _ _ _ h
theorem lessI_nonneg (n : Nat) (bs : List (Nat → Bool)) (x : Int) (f t : Nat) (h : f ≤ t) : 0 ≤ lessI n bs x f t := num_nonneg _ _ _ _ _ h
end Go.Proofs.YtpkclmfadlkbeaaDoor

namespace Go.Proofs.YtpkclmfadlkbeaaDoor
open Go.RowKit Words

/-- The numbers in the order of the level i. -/
def lst : Nat → Nat → List Nat → List Nat
  | _, 0, l => l
  | 0, _ + 1, l => l
  | L + 1, i + 1, l => lst L i (nxt L l)
theorem lst_zero (L : Nat) (l : List Nat) : lst L 0 l = l := by cases L <;> rfl
theorem lst_length (L : Nat) : ∀ i l, (lst L i l).length = l.length := by
  induction L with
  | zero => intro i l; cases i <;> rfl
  | succ L ih =>
    intro i l
    cases i with
    | zero => rfl
    | succ i => rw [lst, ih, nxt_length]
theorem lst_succ (L : Nat) : ∀ i l, i < L → lst L (i + 1) l = nxt (L - 1 - i) (lst L i l) := by
  induction L with
  | zero => intro i l h; omega
  | succ L ih =>
    intro i l h
    cases i with
    | zero =>
      show lst L 0 (nxt L l) = nxt L l
      rw [lst_zero]
    | succ i =>
      rw [lst, ih i _ (by omega), lst]
      congr 1
      omega
theorem levs_at (L : Nat) : ∀ i l, i < L → (levs L l)[i]? = some (digs10 (L - 1 - i) (lst L i l)) := by
  induction L with
  | zero => intro i l h; omega
  | succ L ih =>
    intro i l h
    cases i with
    | zero => rfl
    | succ i =>
      rw [levs, List.getElem?_cons_succ, ih i _ (by omega), lst]
      congr 2
      omega
theorem nxt_mem (p : Nat) (l : List Nat) (x : Nat) (h : x ∈ nxt p l) : x ∈ l := by
  unfold nxt at h
  rcases List.mem_append.1 h with h | h
  · exact (List.mem_filter.1 h).1
  · exact (List.mem_filter.1 h).1
theorem lst_mem (L : Nat) : ∀ i l x, x ∈ lst L i l → x ∈ l := by
  induction L with
  | zero => intro i l x h; cases i <;> exact h
  | succ L ih =>
    intro i l x h
    cases i with
    | zero => exact h
    | succ i => exact nxt_mem L l x (ih i _ x h)

/-- The levels vs are those of these rows of n bits. -/
def MadeOf (n : Nat) (rs : List (List Bool)) (vs : List Lev) : Prop := vs.map (fun v => (v.n, v.ws)) = rs.map fun r => ((n : Int), rowOf r)
theorem MadeOf.length {n : Nat} {rs : List (List Bool)} {vs : List Lev} (h : MadeOf n rs vs) : vs.length = rs.length := by
  have := congrArg List.length h
  simpa using this
theorem MadeOf.at_ {n : Nat} {rs : List (List Bool)} {vs : List Lev} (h : MadeOf n rs vs) {i : Nat} {v : Lev} (hv : vs[i]? = some v) : ∃ r, rs[i]? = some r ∧ v.n = (n : Int) ∧ v.ws = rowOf r := by
  have h1 : (vs.map fun v => (v.n, v.ws))[i]? = some (v.n, v.ws) := by rw [List.getElem?_map, hv]; rfl
  rw [h, List.getElem?_map] at h1
  cases hr : rs[i]? with
  | none => rw [hr] at h1; cases h1
  | some r =>
    rw [hr] at h1
    have h2 := Option.some.inj h1
    simp only [Prod.mk.injEq] at h2
    exact ⟨r, rfl, h2.1.symm, h2.2.symm⟩
theorem MadeOf.fns {n : Nat} {rs : List (List Bool)} {vs : List Lev} (h : MadeOf n rs vs) : fns vs = rs.map lf := by
  have h1 := congrArg (List.map fun q : Int × List Nat => bit q.2) h
  rw [List.map_map, List.map_map] at h1
  unfold Go.Proofs.YtpkclmfadlkbeaaDoor.fns
  rw [show (vs.map fun v => bit v.ws) = vs.map ((fun q : Int × List Nat => bit q.2) ∘ fun v => (v.n, v.ws)) from rfl, h1]
  exact List.map_congr_left fun r _ => bit_rowOf r
theorem rowOf_valid (r : List Bool) (h : r.length ≤ 4096) : Valid r.length (rowOf r) := by
  refine ⟨h, rowOf_length r, fun i h1 h2 => ?_⟩
  rw [bit_rowOf]
  unfold lf
  rw [List.getD_eq_getElem?_getD, List.getElem?_eq_none h1]
  rfl
/-- A matrix that was made of a list, of one level at least. -/
theorem made_wv {L : Nat} {ns : List Nat} {vs : List Lev} (h : MadeOf ns.length (levs L ns) vs) (h0 : 0 < L) (hL : L ≤ 21) (hn : ns.length ≤ 300) : WV ns.length vs := by
  have hl := h.length
  rw [levs_length] at hl
  refine ⟨by omega, hn, ?_, fun v hv => ?_⟩
  · cases vs with
    | nil => simp at hl; omega
    | cons v r =>
      obtain ⟨_, _, h1, _⟩ := h.at_ (i := 0) (v := v) rfl
      exact h1
  · obtain ⟨i, hi⟩ := List.getElem?_of_mem hv
    obtain ⟨r, hr, h1, h2⟩ := h.at_ hi
    have hrl := levs_each L ns r (List.mem_of_getElem? hr)
    refine ⟨h1, ?_⟩
    rw [h2, ← hrl]
    exact rowOf_valid r (by omega)
/-- Its numbers. -/
theorem made_val {L : Nat} {ns : List Nat} {vs : List Lev} (h : MadeOf ns.length (levs L ns) vs) (hx : ∀ x ∈ ns, x < 2 ^ L) (i x : Nat) (hi : ns[i]? = some x) : val ns.length (fns vs) i = x := by
  rw [h.fns, val_levs L ns i x hi]
  exact Nat.mod_eq_of_lt (hx x (List.mem_of_getElem? hi))
theorem made_lsI {L : Nat} {ns : List Nat} {vs : List Lev} (h : MadeOf ns.length (levs L ns) vs) (hx : ∀ x ∈ ns, x < 2 ^ L) : lsI ns.length (fns vs) = ns.map fun x : Nat => (x : Int) := by
  apply List.ext_getElem?
  intro i
  by_cases hi : i < ns.length
  · rw [lsI_at _ _ _ hi, List.getElem?_map, List.getElem?_eq_getElem hi, made_val h hx i _ (List.getElem?_eq_getElem hi)]
    rfl
  · rw [List.getElem?_eq_none (by rw [lsI_length]; omega), List.getElem?_eq_none (by simp; omega)]

/-- An empty level. -/
def lev0 : Lev := ⟨0, none, [], 0⟩
theorem made_levs (L : Nat) : madeCells #[.int .i64 0, .slice none 0 0] (L * 2) = (levC (List.replicate L lev0)).toArray := by
  apply Array.ext
  · simp [madeCells, levC_length]
  · intro i h1 h2
    have hi : i < L * 2 := by simpa [madeCells] using h1
    have hg := levC_get (List.replicate L lev0) (i / 2) lev0 (i % 2) (by rw [List.getElem?_replicate, if_pos (by omega)]) (Nat.mod_lt _ (by decide))
    rw [show i / 2 * 2 + i % 2 = i by omega] at hg
    have e : (levC (List.replicate L lev0)).toArray[i]? = lev0.cells[i % 2]? := by rw [List.getElem?_toArray]; exact hg
    have e2 : (madeCells #[.int .i64 0, .slice none 0 0] (L * 2))[i]? = lev0.cells[i % 2]? := by
      rw [Array.getElem?_eq_getElem h1]
      unfold madeCells
      have hp : i % 2 = 0 ∨ i % 2 = 1 := by omega
      rcases hp with e | e <;> simp [e, lev0, Lev.cells]
    have e3 := e2.trans e.symm
    rw [Array.getElem?_eq_getElem h1, Array.getElem?_eq_getElem h2] at e3
    exact Option.some.inj e3
theorem levC_set (xs : List Lev) (y y' : Lev) (zs : List Lev) (a b : Value) (h : y'.cells = [a, b]) : ((levC (xs ++ y :: zs)).set (xs.length * 2) a).set (xs.length * 2 + 1) b = levC (xs ++ y' :: zs) := by
  rw [levC_append, levC_append]
  have hl := levC_length xs
  rw [List.set_append, if_neg (by omega), List.set_append, if_neg (by omega), hl]
  congr 1
  show (((y.cells ++ levC zs).set (xs.length * 2 - xs.length * 2) a).set (xs.length * 2 + 1 - xs.length * 2) b) = y'.cells ++ levC zs
  rw [h, Nat.sub_self, show xs.length * 2 + 1 - xs.length * 2 = 1 by omega]
  rfl
end Go.Proofs.YtpkclmfadlkbeaaDoor
