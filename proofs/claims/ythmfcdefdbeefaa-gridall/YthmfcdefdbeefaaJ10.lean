/-
  Words for memory, of no program: a slice of structs of an integer and a slice of words (the levels of a wavelet matrix), what becomes of it where new memory is made; what the reading of such an argument comes to. A part of a slice, for every world. Plain mathematics of points in an order: their keys, their places, which of them come in a range. Plain mathematics of the heaviest points: what a heap of at most k points holds of those that came, what is taken off it in turn. No condition but what each theorem names.
-/
import Derived.Test.YthmfcdefdbeefaaJ03
import Derived.Test.YthmfcdefdbeefaaJ01
import Derived.Test.YthmfcdefdbeefaaJ02
import Derived.Test.YthmfcdefdbeefaaJ04
import Derived.IntWalk
namespace Go.Proofs.Ythmfcdefdbeefaa
open Go.RowKit Go.ChangeShapes Go.WideShapes Go.Deep Words

/-- A level: its length, the address of its words, the words, their capacity. -/
structure Lev where
  n : Int
  adr : Option Addr
  ws : List Nat
  cap : Nat
instance : Inhabited Lev := ⟨⟨0, none, [], 0⟩⟩
/-- Its cells. -/
def Lev.cells (v : Lev) : List Value := [.int .i64 v.n, .slice v.adr v.ws.length v.cap]
def levC : List Lev → List Value
  | [] => []
  | o :: r => o.cells ++ levC r
theorem levC_length : ∀ os : List Lev, (levC os).length = os.length * 2
  | [] => rfl
  | o :: r => by
    unfold levC
    rw [List.length_append, levC_length r, List.length_cons]
    show 2 + r.length * 2 = _
    omega
theorem levC_get : ∀ (os : List Lev) (i : Nat) (o : Lev) (j : Nat), os[i]? = some o → j < 2 → (levC os)[i * 2 + j]? = o.cells[j]?
  | [], i, o, j, h, _ => by simp at h
  | a :: r, 0, o, j, h, hj => by
    obtain rfl : a = o := by simpa using h
    unfold levC
    rw [List.getElem?_append_left (by show 0 * 2 + j < 2; omega)]
    congr 1
    omega
  | a :: r, i + 1, o, j, h, hj => by
    unfold levC
    rw [List.getElem?_append_right (by show 2 ≤ (i + 1) * 2 + j; omega)]
    have e : (i + 1) * 2 + j - a.cells.length = i * 2 + j := by show (i + 1) * 2 + j - 2 = _; omega
    rw [e]
    exact levC_get r i o j (by simpa using h) hj
theorem levC_append (a b : List Lev) : levC (a ++ b) = levC a ++ levC b := by
  induction a with
  | nil => rfl
  | cons o r ih => show o.cells ++ levC (r ++ b) = (o.cells ++ levC r) ++ levC b; rw [ih, List.append_assoc]
theorem levC_one (os : List Lev) : ∀ u ∈ levC os, u.oneCell' = true := by
  induction os with
  | nil => intro u hu; cases hu
  | cons o r ih =>
    intro u hu
    unfold levC at hu
    rcases List.mem_append.1 hu with e | e
    · unfold Lev.cells at e
      simp only [List.mem_cons, List.not_mem_nil, or_false] at e
      rcases e with rfl | rfl <;> rfl
    · exact ih u e

/-- The slice with the address A holds the levels vs, all below block B. -/
structure Mat (w : World) (B : Nat) (A : Option Addr) (vs : List Lev) : Prop where
  heads : Lies w B A (levC vs)
  rows : ∀ v ∈ vs, Words64 w B v.adr v.ws
theorem Mat.nil {w : World} {B : Nat} {A : Option Addr} : Mat w B A [] := ⟨Lies.nil, fun _ h => by cases h⟩
theorem Mat.below {w w' : World} {B : Nat} {A : Option Addr} {rs : List Lev} (h : Mat w B A rs) (hb : Below B w w') : Mat w' B A rs := ⟨h.heads.below hb, fun r hr => (h.rows r hr).below hb⟩
theorem Mat.on {w w' : World} {A : Option Addr} {rs : List Lev} (h : Mat w w.heap.size A rs) (hb : Below w.heap.size w w') : Mat w' w'.heap.size A rs := ⟨h.heads.on hb, fun r hr => (h.rows r hr).on hb⟩
theorem Mat.alloc {w : World} {A : Option Addr} {rs : List Lev} (h : Mat w w.heap.size A rs) (o : Obj) : Mat (w.alloc o) (w.alloc o).heap.size A rs := ⟨h.heads.alloc o, fun r hr => (h.rows r hr).alloc o⟩
theorem Mat.drewN {w : World} {B : Nat} {A : Option Addr} {rs : List Lev} (h : Mat w B A rs) (n : Nat) : Mat (w.drewN n) B A rs := ⟨h.heads.drewN n, fun r hr => (h.rows r hr).drewN n⟩
theorem Mat.drew {w : World} {B : Nat} {A : Option Addr} {rs : List Lev} (h : Mat w B A rs) : Mat w.drew B A rs := ⟨h.heads.drew, fun r hr => (h.rows r hr).drew⟩
/-- A level, by its number. -/
theorem Mat.at_ {w : World} {B : Nat} {A : Option Addr} {vs : List Lev} (h : Mat w B A vs) {i : Nat} (hi : i < vs.length) :
    ∃ b p v, A = some ⟨b, p, none⟩ ∧ b < B ∧ vs[i]? = some v ∧ w.cell? ⟨b, p + i * 2, none⟩ = some (.int .i64 v.n) ∧ w.cell? ⟨b, p + i * 2 + 1, none⟩ = some (.slice v.adr v.ws.length v.cap) ∧ Words64 w B v.adr v.ws := by
  obtain ⟨b, p, e, hb, hc⟩ := h.heads (by
    intro e
    have := levC_length vs
    rw [e] at this
    simp at this
    omega)
  have hx : vs[i]? = some vs[i] := List.getElem?_eq_getElem hi
  refine ⟨b, p, vs[i], e, hb, hx, ?_, ?_, h.rows _ (List.getElem_mem hi)⟩
  · exact hc (i * 2) _ (levC_get vs i _ 0 hx (by decide))
  · rw [Nat.add_assoc]; exact hc (i * 2 + 1) _ (levC_get vs i _ 1 hx (by decide))

/-- What is known of a level that was handed in. -/
structure Lev.Fits (v : Lev) : Prop where
  wf : (Lit.int .i64 v.n).wf = true
  le : v.ws.length ≤ v.cap
  room : v.cap * 8 ≤ 140737488351232
  nil : v.adr = none → v.cap = 0

section
variable {H : Type} {enc : TypeId × Value → H} {P : Program} {w : World} {held : Bool}

/-- A slice of such structs. -/
theorem rd_levs {t e tw ew ti : TypeId} {f0 f1 : Field} {fuel : Nat} {cs : List Value} {x : DataW H × List MemPlace} (ht : P.underlying t = some (.slice e)) (hs : P.underlying e = some (.struct #[f0, f1])) (hC : P.cellsOf e = 2) (hby : P.bytesOf e = 32) (h0 : f0.type = ti) (h1 : f1.type = tw) (o0 : f0.offset = 0) (o1 : f1.offset = 1)
    (hi : P.underlying ti = some (.int .i64)) (ci : P.cellsOf ti = 1) (htw : P.underlying tw = some (.slice ew)) (ctw : P.cellsOf tw = 1) (hew : P.underlying ew = some (.int .u64)) (hcw : P.cellsOf ew = 1) (hbw : P.bytesOf ew = 8)
    (h : DataW.trod enc P w 0 (fun _ => true) held fuel t cs = some x) (hw : ∀ n ∈ x.1.weights P t, n ≤ reachBytes) :
    ∃ (A : Option Addr) (vs : List Lev) (c : Nat), cs = [.slice A vs.length c] ∧ vs.length ≤ c ∧ c * 32 ≤ 140737488351232 ∧ (A = none → c = 0) ∧ Mat w w.heap.size A vs ∧ ∀ v ∈ vs, v.Fits := by
  rcases open_slice ht h with ⟨rfl, rfl⟩ | ⟨a, len, cap, m, n, D, Pl, rfl, _, hl, _, hm, rfl, hx⟩
  · exact ⟨none, [], 0, rfl, Nat.le_refl _, by omega, fun _ => rfl, Mat.nil, fun o ho => by cases ho⟩
  · simp only [if_true] at hm
    subst hm
    rw [hC] at hx
    obtain ⟨B, hB⟩ := choose_lt (α := Lev) (n := len) (p := fun i o => o.Fits ∧ Words64 w w.heap.size o.adr o.ws ∧ ∀ j u, o.cells[j]? = some u → w.cell? ((a.add (i * 2)).add j) = some u) (fun i hlt => by
      obtain ⟨cs', hc, ht'⟩ := hx i (by omega)
      obtain ⟨z, A, ws, c, rfl, r0, r1, r2, r3, r4⟩ := rd_bits hs hC h0 h1 o0 o1 hi ci htw ctw hew hcw hbw ht' (fun k hk => hw k (by
        simp only [DataW.weights, ht, List.mem_cons, List.mem_append]
        right; left
        have hmem : D i ∈ (List.range len).map D := List.mem_map.2 ⟨i, List.mem_range.2 hlt, rfl⟩
        generalize (List.range len).map D = l at hmem
        induction l with
        | nil => cases hmem
        | cons d r ih =>
          rw [DataW.weightsAll, List.mem_append]
          rcases List.mem_cons.1 hmem with e | e
          · left; rw [← e]; exact hk
          · right; exact ih e))
      obtain ⟨_, hcl, hat⟩ := World.cells?_some hc
      refine ⟨⟨z, A, ws, c⟩, ⟨r0, r1, r2, r3⟩, r4, fun j u hu => ?_⟩
      have hj : j < 2 := (List.getElem?_eq_some_iff.1 hu).1
      rw [hat j hj]
      exact hu)
    have hlenB : ((List.range len).map B).length = len := by simp
    refine ⟨some a, (List.range len).map B, m, by rw [hlenB], by rw [hlenB]; exact hl, ?_, (fun e => by cases e), ⟨?_, ?_⟩, ?_⟩
    · have := hw ((((List.range len).map D).length + ((List.range (m - len)).map fun j => D (len + j)).length) * P.bytesOf e) (by simp [DataW.weights, ht])
      simp only [List.length_map, List.length_range, hby, reachBytes] at this
      rwa [show len + (m - len) = m by omega] at this
    · intro hne
      have hlp : 0 < len := by
        rcases Nat.eq_zero_or_pos len with e | e
        · subst e; exact absurd rfl hne
        · exact e
      obtain ⟨b, o, s⟩ := a
      have hc0 := (hB 0 hlp).2.2 0 _ rfl
      have hs0 : s = none := by simpa [Addr.add] using World.cell?_spot hc0
      subst hs0
      have hbl : b < w.heap.size := by simpa [Addr.add] using cell_lt hc0
      refine ⟨b, o, rfl, hbl, fun j v hv => ?_⟩
      have hj : j < len * 2 := by
        have h4 := (List.getElem?_eq_some_iff.1 hv).1
        rw [levC_length, hlenB] at h4
        exact h4
      have hq : j / 2 < len := by omega
      have hge : ((List.range len).map B)[j / 2]? = some (B (j / 2)) := by rw [List.getElem?_map, List.getElem?_range hq]; rfl
      have hg := levC_get _ (j / 2) _ (j % 2) hge (Nat.mod_lt _ (by decide))
      rw [show j / 2 * 2 + j % 2 = j by omega, hv] at hg
      have h5 := (hB (j / 2) hq).2.2 (j % 2) v hg.symm
      rw [Addr.add_lit, Addr.add_lit, show o + j / 2 * 2 + j % 2 = o + j by omega] at h5
      exact h5
    · intro o ho
      obtain ⟨i, hi2, rfl⟩ := List.mem_map.1 ho
      exact (hB i (List.mem_range.1 hi2)).2.1
    · intro o ho
      obtain ⟨i, hi2, rfl⟩ := List.mem_map.1 ho
      exact (hB i (List.mem_range.1 hi2)).1

/-- A struct of such a slice alone. -/
theorem rd_wave {t tl e tw ew ti : TypeId} {f0 f1 g : Field} {fuel : Nat} {cs : List Value} {x : DataW H × List MemPlace} (hst : P.underlying t = some (.struct #[g])) (hCt : P.cellsOf t = 1) (hg : g.type = tl) (og : g.offset = 0) (ctl : P.cellsOf tl = 1)
    (ht : P.underlying tl = some (.slice e)) (hs : P.underlying e = some (.struct #[f0, f1])) (hC : P.cellsOf e = 2) (hby : P.bytesOf e = 32) (h0 : f0.type = ti) (h1 : f1.type = tw) (o0 : f0.offset = 0) (o1 : f1.offset = 1)
    (hi : P.underlying ti = some (.int .i64)) (ci : P.cellsOf ti = 1) (htw : P.underlying tw = some (.slice ew)) (ctw : P.cellsOf tw = 1) (hew : P.underlying ew = some (.int .u64)) (hcw : P.cellsOf ew = 1) (hbw : P.bytesOf ew = 8)
    (h : DataW.trod enc P w 0 (fun _ => true) held fuel t cs = some x) (hw : ∀ n ∈ x.1.weights P t, n ≤ reachBytes) :
    ∃ (A : Option Addr) (vs : List Lev) (c : Nat), cs = [.slice A vs.length c] ∧ vs.length ≤ c ∧ c * 32 ≤ 140737488351232 ∧ (A = none → c = 0) ∧ Mat w w.heap.size A vs ∧ ∀ v ∈ vs, v.Fits := by
  obtain ⟨hl, hf⟩ := rd_struct hst h hw
  rw [hCt] at hl
  match cs, hl with
  | [c0], _ =>
    obtain ⟨m0, y0, g0, w0⟩ := hf 0 g rfl
    rw [hg, og, ctl] at g0
    rw [hg] at w0
    exact rd_levs ht hs hC hby h0 h1 o0 o1 hi ci htw ctw hew hcw hbw g0 w0
end
end Go.Proofs.Ythmfcdefdbeefaa

namespace Go.Proofs.Ythmfcdefdbeefaa
open Go.RowKit

/-- A part of a slice. -/
theorem slice_row {P : Program} (t : TypeId) (ht : P.underlying t = some (.slice (P.elem t))) (hsz : ∀ W, (sizeOf (P.elem t)).run P W = .ok 1 W) {w : World} {B : Nat} {A : Option Addr} {n c a b : Nat} {xs : List Value} (h1 : a ≤ b) (h2 : b ≤ n) (hnc : n ≤ c) (hL : Lies w B A xs) (hn : xs.length = n) (hnone : A = none → c = 0) :
    ∃ A3, (∀ W, (Instr.slice t (.slice A n c) (some (.int .i64 (a : Int))) (some (.int .i64 (b : Int))) none).run P W = .ok (.slice A3 (b - a) (c - a)) W) ∧ Lies w B A3 ((xs.drop a).take (b - a)) ∧ (A3 = none → c - a = 0) := by
  refine ⟨if c = a then A else A.map (·.add (a * 1)), fun W => ?_, ?_, ?_⟩
  · rw [run_slice_lh W t A n c ht .i64 .i64 (a : Int) (b : Int) (by omega) (by omega) (by omega), hsz]
    rfl
  · intro hne
    have hab : a < b := by
      rcases Nat.lt_or_ge a b with h | h
      · exact h
      · exact absurd (by rw [show b - a = 0 by omega, List.take_zero]) hne
    obtain ⟨bk, o, e, hb, hc⟩ := hL (by intro e; subst e; simp at hn; omega)
    subst e
    rw [if_neg (by omega)]
    refine ⟨bk, o + a * 1, by rw [Option.map_some, Addr.add_lit], hb, fun j v hv => ?_⟩
    rw [List.getElem?_take] at hv
    split at hv
    · rw [List.getElem?_drop] at hv
      have := hc (a + j) v hv
      rwa [show o + a * 1 + j = o + (a + j) by omega]
    · cases hv
  · intro e
    by_cases hca : c = a
    · omega
    · rw [if_neg hca] at e
      cases A with
      | none => have := hnone rfl; omega
      | some ad => cases e
/-- s[:a]. -/
theorem slice_upto {P : Program} (t : TypeId) (ht : P.underlying t = some (.slice (P.elem t))) (hsz : ∀ W, (sizeOf (P.elem t)).run P W = .ok 1 W) {A : Option Addr} {n c a : Nat} (h1 : a ≤ c) (hA : A = none → c = 0) (hf : ∀ ad, A = some ad → ∃ b o, ad = ⟨b, o, none⟩) (W : World) :
    (Instr.slice t (.slice A n c) none (some (.int .i64 (a : Int))) none).run P W = .ok (.slice A a c) W := by
  rw [run_slice_h W t _ n c ht .i64 (a : Int) (by omega) (by omega), hsz]
  cases A with
  | none =>
    obtain rfl := hA rfl
    obtain rfl : a = 0 := by omega
    simp [Result.andThen, sliced]
  | some ad =>
    obtain ⟨b, o, rfl⟩ := hf ad rfl
    by_cases hc : c = 0
    · subst hc
      obtain rfl : a = 0 := by omega
      simp [Result.andThen, sliced]
    · simp [Result.andThen, sliced, hc, Addr.add_lit]
end Go.Proofs.Ythmfcdefdbeefaa

namespace Go.Proofs.Ythmfcdefdbeefaa
open Go.Sort

/-- A number that may be a coordinate. -/
def InC (x : Int) : Prop := -1048576 ≤ x ∧ x ≤ 1048576
/-- The key of a point. -/
def keyI (a b i : Int) : Int := ((a + 1048576) * 2097153 + b + 1048576) * 150 + i
theorem keyI_lt {a b a' b' : Int} {i j : Nat} (hb : InC b) (hb' : InC b') (hi : i < 150) (hj : j < 150) : keyI a b i < keyI a' b' j ↔ a < a' ∨ (a = a' ∧ (b < b' ∨ (b = b' ∧ i < j))) := by
  unfold keyI InC at *
  omega
theorem keyI_mod {a b : Int} {i : Nat} (hi : i < 150) : (keyI a b i % 150).toNat = i := by
  unfold keyI
  omega
theorem keyI_cut {a b c : Int} {i : Nat} (hb : InC b) (hi : i < 150) : keyI a b i < keyI c (-1048576) 0 ↔ a < c := by
  unfold keyI InC at *
  omega

section
variable (ps : List Pt3) (f g : Pt3 → Int)
/-- The points may be. -/
structure InV : Prop where
  few : ps.length ≤ 150
  fst : ∀ i, i < ps.length → InC (f (ptAt ps i))
  snd : ∀ i, i < ps.length → InC (g (ptAt ps i))
def kyI (i : Nat) : Int := keyI (f (ptAt ps i)) (g (ptAt ps i)) i
def keyL : List Int := (List.range ps.length).map (kyI ps f g)
/-- The place of a point in the order; the order. -/
def plc (i : Nat) : Nat := cntL (dst (keyL ps f g)) (kyI ps f g i)
def ordL : List Nat := (dst (keyL ps f g)).map fun k => (k % 150).toNat
end
variable {ps : List Pt3} {f g : Pt3 → Int}

theorem keyL_length : (keyL ps f g).length = ps.length := by simp [keyL]
theorem keyL_get {i : Nat} (h : i < ps.length) : (keyL ps f g)[i]? = some (kyI ps f g i) := by unfold keyL; rw [List.getElem?_map, List.getElem?_range h]; rfl
theorem kyI_mod (hV : InV ps f g) {i : Nat} (hi : i < ps.length) : (kyI ps f g i % 150).toNat = i := keyI_mod (by have := hV.few; omega)
theorem kyI_lt (hV : InV ps f g) {i j : Nat} (hi : i < ps.length) (hj : j < ps.length) : kyI ps f g i < kyI ps f g j ↔ f (ptAt ps i) < f (ptAt ps j) ∨ (f (ptAt ps i) = f (ptAt ps j) ∧ (g (ptAt ps i) < g (ptAt ps j) ∨ (g (ptAt ps i) = g (ptAt ps j) ∧ i < j))) :=
  keyI_lt (hV.snd i hi) (hV.snd j hj) (by have := hV.few; omega) (by have := hV.few; omega)
theorem kyI_cut (hV : InV ps f g) {i : Nat} (hi : i < ps.length) (c : Int) : kyI ps f g i < keyI c (-1048576) 0 ↔ f (ptAt ps i) < c := keyI_cut (hV.snd i hi) (by have := hV.few; omega)
theorem keyL_nodup (hV : InV ps f g) : (keyL ps f g).Nodup := by
  unfold keyL
  rw [List.Nodup, List.pairwise_map]
  refine List.Pairwise.imp_of_mem (fun {a b} ha hb hab => ?_) (List.pairwise_lt_range (n := ps.length))
  intro e
  have h1 := kyI_mod hV (List.mem_range.1 ha)
  have h2 := kyI_mod hV (List.mem_range.1 hb)
  rw [e] at h1
  omega
theorem dstK_perm (hV : InV ps f g) : (dst (keyL ps f g)).Perm (keyL ps f g) := (List.perm_ext_iff_of_nodup (lt_nodup (dst_lt _)) (keyL_nodup hV)).2 fun x => dst_mem _ x
theorem dstK_length (hV : InV ps f g) : (dst (keyL ps f g)).length = ps.length := (dstK_perm hV).length_eq.trans keyL_length
theorem kyI_mem {i : Nat} (hi : i < ps.length) : kyI ps f g i ∈ dst (keyL ps f g) := (dst_mem _ _).2 (List.mem_of_getElem? (keyL_get hi))
theorem keyL_mods (hV : InV ps f g) : (keyL ps f g).map (fun k => (k % 150).toNat) = List.range ps.length := by
  unfold keyL
  rw [List.map_map]
  conv => rhs; rw [← List.map_id (List.range ps.length)]
  exact List.map_congr_left fun i hi => kyI_mod hV (List.mem_range.1 hi)
theorem ordL_perm (hV : InV ps f g) : (ordL ps f g).Perm (List.range ps.length) := by
  have h := (dstK_perm hV).map fun k => (k % 150).toNat
  rwa [keyL_mods hV] at h
theorem ordL_length (hV : InV ps f g) : (ordL ps f g).length = ps.length := by rw [(ordL_perm hV).length_eq, List.length_range]
theorem ordL_mem (hV : InV ps f g) {i : Nat} : i ∈ ordL ps f g ↔ i < ps.length := (ordL_perm hV).mem_iff.trans List.mem_range
theorem ordL_nodup (hV : InV ps f g) : (ordL ps f g).Nodup := (ordL_perm hV).nodup_iff.2 List.nodup_range
theorem ordL_keys (hV : InV ps f g) : (ordL ps f g).map (kyI ps f g) = dst (keyL ps f g) := by
  unfold ordL
  rw [List.map_map]
  conv => rhs; rw [← List.map_id (dst (keyL ps f g))]
  refine List.map_congr_left fun k hk => ?_
  obtain ⟨i, hi, rfl⟩ := List.mem_map.1 ((dst_mem _ k).1 hk)
  show kyI ps f g ((kyI ps f g i % 150).toNat) = kyI ps f g i
  rw [kyI_mod hV (List.mem_range.1 hi)]
theorem ordL_sorted (hV : InV ps f g) : (ordL ps f g).Pairwise fun i j => kyI ps f g i < kyI ps f g j := by
  have h := dst_lt (keyL ps f g)
  rw [← ordL_keys hV, List.pairwise_map] at h
  exact h
theorem plc_lt (hV : InV ps f g) {i : Nat} (hi : i < ps.length) : plc ps f g i < ps.length := by
  have := cnt_lt (dst_lt (keyL ps f g)) (kyI_mem hi)
  rwa [dstK_length hV] at this
theorem ordL_at (hV : InV ps f g) {i : Nat} (hi : i < ps.length) : (ordL ps f g)[plc ps f g i]? = some i := by
  have h := at_cnt (dst_lt (keyL ps f g)) (kyI_mem hi)
  unfold ordL plc
  rw [List.getElem?_map, h]
  exact congrArg some (kyI_mod hV hi)
theorem plc_at (hV : InV ps f g) {p i : Nat} (h : (ordL ps f g)[p]? = some i) : plc ps f g i = p := by
  have hi := (ordL_mem hV).1 (List.mem_of_getElem? h)
  have h2 : (dst (keyL ps f g))[p]? = some (kyI ps f g i) := by rw [← ordL_keys hV, List.getElem?_map, h]; rfl
  exact cnt_at (dst_lt _) h2
/-- Counting in a strictly increasing list keeps the order. -/
theorem cnt_iff {s : List Int} (hs : s.Pairwise (· < ·)) {x : Int} (h : x ∈ s) (y : Int) : cntL s x < cntL s y ↔ x < y := by
  have mono : ∀ a b : Int, a ≤ b → cntL s a ≤ cntL s b := fun a b hab => List.countP_mono_left fun z _ hz => by simp only [decide_eq_true_eq] at hz ⊢; omega
  constructor
  · intro hl
    rcases Int.lt_or_le x y with g | g
    · exact g
    · have := mono y x g; omega
  · intro hl
    have h1 := cnt_next hs h
    have h2 := mono (x + 1) y (by omega)
    omega
theorem plc_iff {i j : Nat} (hi : i < ps.length) : plc ps f g i < plc ps f g j ↔ kyI ps f g i < kyI ps f g j := cnt_iff (dst_lt _) (kyI_mem hi) _
theorem plc_cut (hV : InV ps f g) {i : Nat} (hi : i < ps.length) (c : Int) : plc ps f g i < cntL (dst (keyL ps f g)) (keyI c (-1048576) 0) ↔ f (ptAt ps i) < c := (cnt_iff (dst_lt _) (kyI_mem hi) _).trans (kyI_cut hV hi c)
theorem plc_inj (hV : InV ps f g) {i j : Nat} (hi : i < ps.length) (hj : j < ps.length) (h : plc ps f g i = plc ps f g j) : i = j := by
  have h1 := ordL_at hV hi
  rw [h, ordL_at hV hj] at h1
  exact (Option.some.inj h1).symm

/-! ### A range of an order -/
def clampC (c : Int) : Int := min (max c (-1048576)) 1048577
def loS (ps : List Pt3) (f g : Pt3 → Int) (low : Int) : Nat := cntL (dst (keyL ps f g)) (keyI (clampC low) (-1048576) 0)
def hiS (ps : List Pt3) (f g : Pt3 → Int) (low high : Int) : Nat := max (loS ps f g low) (loS ps f g (min high 1048576 + 1))
theorem loS_le (hV : InV ps f g) (low : Int) : loS ps f g low ≤ ps.length := by
  have := cntL_le (dst (keyL ps f g)) (keyI (clampC low) (-1048576) 0)
  rwa [dstK_length hV] at this
theorem hiS_le (hV : InV ps f g) (low high : Int) : hiS ps f g low high ≤ ps.length := Nat.max_le.2 ⟨loS_le hV _, loS_le hV _⟩
theorem loS_hiS (low high : Int) : loS ps f g low ≤ hiS ps f g low high := Nat.le_max_left _ _
theorem loS_iff (hV : InV ps f g) {i : Nat} (hi : i < ps.length) (low : Int) : plc ps f g i < loS ps f g low ↔ f (ptAt ps i) < low := by
  have h1 := plc_cut hV hi (clampC low)
  have h2 := hV.fst i hi
  unfold loS
  rw [h1]
  unfold clampC InC at *
  omega
theorem span_iff (hV : InV ps f g) {i : Nat} (hi : i < ps.length) (low high : Int) : (loS ps f g low ≤ plc ps f g i ∧ plc ps f g i < hiS ps f g low high) ↔ (low ≤ f (ptAt ps i) ∧ f (ptAt ps i) ≤ high) := by
  have h1 := loS_iff hV hi low
  have h2 := loS_iff hV hi (min high 1048576 + 1)
  have h3 := hV.fst i hi
  unfold hiS
  unfold InC at h3
  generalize loS ps f g low = a at *
  generalize loS ps f g (min high 1048576 + 1) = b at *
  generalize plc ps f g i = p at *
  generalize f (ptAt ps i) = x at *
  constructor
  · rintro ⟨e1, e2⟩
    have h4 : ¬ x < low := fun h => by have := h1.2 h; omega
    have h5 : p < b := by omega
    have := h2.1 h5
    omega
  · rintro ⟨e1, e2⟩
    have h4 : ¬ p < a := fun h => by have := h1.1 h; omega
    have h5 : p < b := h2.2 (by omega)
    omega

/-- A part of a list, told by places. -/
theorem part_filter {l : List Nat} {pos : Nat → Nat} (hp : ∀ (p i : Nat), l[p]? = some i → pos i = p) (a b : Nat) (hab : a ≤ b) :
    (l.drop a).take (b - a) = l.filter fun i => decide (a ≤ pos i) && decide (pos i < b) := by
  have sp : l = l.take a ++ ((l.drop a).take (b - a) ++ (l.drop a).drop (b - a)) := by rw [List.take_append_drop, List.take_append_drop]
  conv => rhs; rw [sp, List.filter_append, List.filter_append]
  have h1 : (l.take a).filter (fun i => decide (a ≤ pos i) && decide (pos i < b)) = [] := List.filter_eq_nil_iff.2 fun i hi => by
    obtain ⟨q, hq⟩ := List.getElem?_of_mem hi
    rw [List.getElem?_take] at hq
    split at hq
    · have := hp q i hq
      simp only [Bool.and_eq_true, decide_eq_true_eq]
      omega
    · cases hq
  have h2 : ((l.drop a).take (b - a)).filter (fun i => decide (a ≤ pos i) && decide (pos i < b)) = (l.drop a).take (b - a) := List.filter_eq_self.2 fun i hi => by
    obtain ⟨q, hq⟩ := List.getElem?_of_mem hi
    rw [List.getElem?_take] at hq
    split at hq
    · rw [List.getElem?_drop] at hq
      have := hp _ i hq
      simp only [Bool.and_eq_true, decide_eq_true_eq]
      omega
    · cases hq
  have h3 : ((l.drop a).drop (b - a)).filter (fun i => decide (a ≤ pos i) && decide (pos i < b)) = [] := List.filter_eq_nil_iff.2 fun i hi => by
    obtain ⟨q, hq⟩ := List.getElem?_of_mem hi
    rw [List.getElem?_drop, List.getElem?_drop] at hq
    have := hp _ i hq
    simp only [Bool.and_eq_true, decide_eq_true_eq]
    omega
  rw [h1, h2, h3, List.nil_append, List.append_nil]

/-! ### One list sorted so, places of equals rising -/
theorem stable_is {lt : Nat → Nat → Bool} (hS : SWO lt) {l k : List Nat} (hl : l.Pairwise (· < ·)) (hp : k.Perm l) (hk : k.Pairwise fun x y => lt y x = false ∧ (lt x y = false → x < y)) : k = ssort lt l := by
  refine sorted_one hS k (ssort lt l) (hk.imp fun h => h.1) (ssort_sorted hS l) fun x => ?_
  rw [ssort_filter hS]
  have h1 : (k.filter (eqv lt x)).Pairwise (· < ·) := by
    refine List.Pairwise.imp_of_mem (fun {a b} ha hb hab => ?_) (hk.filter (eqv lt x))
    have ea := eqv_iff.1 (List.mem_filter.1 ha).2
    have eb := eqv_iff.1 (List.mem_filter.1 hb).2
    exact hab.2 (hS.ntrans _ _ _ ea.2 eb.1)
  have h2 : (l.filter (eqv lt x)).Pairwise (· < ·) := hl.filter _
  exact List.Perm.eq_of_pairwise (le := (· < ·)) (fun a b _ _ h1 h2 => by omega) h1 h2 (hp.filter _)
/-- An order goes by the first coordinate, then by the second. -/
def Lex (lt : Pt3 → Pt3 → Bool) (f g : Pt3 → Int) : Prop := ∀ p q, lt p q = true ↔ f p < f q ∨ (f p = f q ∧ g p < g q)
theorem lexX : Lex ltX Pt3.x Pt3.y := fun _ _ => ltX_iff
theorem lexY : Lex ltY Pt3.y Pt3.x := fun _ _ => ltY_iff
theorem ord_filter {lt : Pt3 → Pt3 → Bool} (hS : SWO lt) (hL : Lex lt f g) (hV : InV ps f g) (P : Nat → Bool) : (ordL ps f g).filter P = ssort (ltP ps lt) ((List.range ps.length).filter P) := by
  refine stable_is (ltP_swo hS) (List.pairwise_lt_range.filter _) ((ordL_perm hV).filter P) ?_
  refine List.Pairwise.imp_of_mem (fun {i j} hi hj hij => ?_) ((ordL_sorted hV).filter P)
  have ai := (ordL_mem hV).1 (List.mem_filter.1 hi).1
  have aj := (ordL_mem hV).1 (List.mem_filter.1 hj).1
  have h := (kyI_lt hV ai aj).1 hij
  have h1 := hL (ptAt ps i) (ptAt ps j)
  have h2 := hL (ptAt ps j) (ptAt ps i)
  unfold ltP
  refine ⟨?_, fun e => ?_⟩
  · rw [Bool.eq_false_iff, ne_eq, h2]; omega
  · rw [Bool.eq_false_iff, ne_eq, h1] at e; omega
end Go.Proofs.Ythmfcdefdbeefaa

namespace Go.Proofs.Ythmfcdefdbeefaa
open Go.Sort

/-- Does the point at place i leave the heap before that at place j? -/
def bfW (ps : List Pt3) (i j : Nat) : Bool := decide ((ptAt ps i).w < (ptAt ps j).w) || (decide ((ptAt ps i).w = (ptAt ps j).w) && decide (j < i))
theorem bfW_iff {ps : List Pt3} {i j : Nat} : bfW ps i j = true ↔ (ptAt ps i).w < (ptAt ps j).w ∨ ((ptAt ps i).w = (ptAt ps j).w ∧ j < i) := by simp [bfW]
theorem bfW_swo (ps : List Pt3) : SWO (bfW ps) := ⟨fun x => by rw [Bool.eq_false_iff, ne_eq, bfW_iff]; omega, fun x y z h1 h2 => by rw [bfW_iff] at *; omega, fun x y z h1 h2 => by rw [Bool.eq_false_iff, ne_eq, bfW_iff] at *; omega⟩
theorem bfW_or {ps : List Pt3} {i j : Nat} (hne : i ≠ j) (h : bfW ps i j = false) : bfW ps j i = true := by
  rw [Bool.eq_false_iff, ne_eq, bfW_iff] at h
  rw [bfW_iff]
  omega

/-- The heap d holds the last of l, at most k; the rest leaves before them. -/
structure TopI (ps : List Pt3) (k : Nat) (l d rest : List Nat) : Prop where
  perm : (d ++ rest).Perm l
  cross : ∀ a ∈ d, ∀ b ∈ rest, bfW ps b a = true
  few : d.length ≤ k
  full : rest = [] ∨ d.length = k
theorem TopI.start (ps : List Pt3) (k : Nat) : TopI ps k [] [] [] := ⟨.refl _, fun _ h => by (cases h), Nat.zero_le _, .inl rfl⟩
theorem TopI.put {ps : List Pt3} {k x : Nat} {l d rest d' : List Nat} (h : TopI ps k l d rest) (hd : d'.Perm (x :: d)) (hk : d'.length ≤ k) : TopI ps k (l ++ [x]) d' [] := by
  have hl := hd.length_eq
  rw [List.length_cons] at hl
  have hr : rest = [] := by
    rcases h.full with e | e
    · exact e
    · omega
  have hp := h.perm
  subst hr
  rw [List.append_nil] at hp
  refine ⟨?_, fun _ _ _ hb => by (cases hb), hk, .inl rfl⟩
  rw [List.append_nil]
  exact (hd.trans (hp.cons x)).trans (List.perm_append_singleton x l).symm
theorem TopI.drop {ps : List Pt3} {k x a : Nat} {l d rest d' d'' : List Nat} (h : TopI ps k l d rest) (hn : (l ++ [x]).Nodup) (hd : d'.Perm (x :: d)) (hk : k < d'.length) (ha : (a :: d'').Perm d') (hm : ∀ c ∈ d', bfW ps c a = false) : TopI ps k (l ++ [x]) d'' (a :: rest) := by
  have hl := hd.length_eq
  have hl2 := ha.length_eq
  rw [List.length_cons] at hl hl2
  have hf := h.few
  have hp1 : (x :: (d ++ rest)).Perm (l ++ [x]) := (h.perm.cons x).trans (List.perm_append_singleton x l).symm
  have hp2 : (d' ++ rest).Perm (l ++ [x]) := (hd.append_right rest).trans hp1
  have hnd : (d' ++ rest).Nodup := hp2.nodup_iff.2 hn
  have hnd' : (a :: d'').Nodup := ha.nodup_iff.2 (List.nodup_append.1 hnd).1
  have hac : ∀ c ∈ d'', bfW ps a c = true := fun c hc => bfW_or (fun e => (List.nodup_cons.1 hnd').1 (by rw [← e]; exact hc)) (hm c (ha.mem_iff.1 (List.mem_cons_of_mem _ hc)))
  refine ⟨?_, fun c hc b hb => ?_, by omega, .inr (by omega)⟩
  · refine (List.perm_middle).trans ?_
    exact (show (a :: (d'' ++ rest)).Perm (l ++ [x]) from ((ha.append_right rest).trans hp2))
  · rcases List.mem_cons.1 hb with rfl | hb
    · exact hac c hc
    · rcases List.mem_cons.1 (hd.mem_iff.1 (ha.mem_iff.1 (List.mem_cons_of_mem _ hc))) with rfl | hcd
      · have had : a ∈ d := by
          rcases List.mem_cons.1 (hd.mem_iff.1 (ha.mem_iff.1 (List.mem_cons_self ..))) with e | e
          · exact absurd hc (by rw [← e]; exact (List.nodup_cons.1 hnd').1)
          · exact e
        exact (bfW_swo ps).trans _ _ _ (h.cross a had b hb) (hac c hc)
      · exact h.cross c hcd b hb

/-- What has been taken off stands behind: those taken earlier later. -/
structure PopI (ps : List Pt3) (D d out : List Nat) : Prop where
  perm : (d ++ out).Perm D
  cross : ∀ a ∈ d, ∀ b ∈ out, bfW ps b a = true
  srt : out.Pairwise fun x y => bfW ps y x = true
theorem PopI.start (ps : List Pt3) (D : List Nat) : PopI ps D D [] := ⟨by rw [List.append_nil], fun _ _ _ h => by (cases h), List.Pairwise.nil⟩
theorem PopI.step {ps : List Pt3} {D d out d'' : List Nat} {a : Nat} (h : PopI ps D d out) (hn : D.Nodup) (ha : (a :: d'').Perm d) (hm : ∀ c ∈ d, bfW ps c a = false) : PopI ps D d'' (a :: out) := by
  have hnd : (a :: d'').Nodup := ha.nodup_iff.2 (List.nodup_append.1 (h.perm.nodup_iff.2 hn)).1
  have had : a ∈ d := ha.mem_iff.1 (List.mem_cons_self ..)
  refine ⟨(List.perm_middle).trans ((ha.append_right out).trans h.perm), fun c hc b hb => ?_, List.pairwise_cons.2 ⟨fun b hb => h.cross a had b hb, h.srt⟩⟩
  have hcd := ha.mem_iff.1 (List.mem_cons_of_mem _ hc)
  rcases List.mem_cons.1 hb with rfl | hb
  · exact bfW_or (fun e => (List.nodup_cons.1 hnd).1 (by rw [← e]; exact hc)) (hm c hcd)
  · exact h.cross c hcd b hb

/-- What comes of both. -/
theorem top_is {ps : List Pt3} {r : Rc4} {k : Nat} {l D rest out : List Nat} (hl : l.Perm (insR ps r)) (hT : TopI ps k l D rest) (hP : PopI ps D [] out) : out = (ssort (ltP ps ltW) (insR ps r)).take k := by
  have hn : (insR ps r).Nodup := (insR_sorted ps r).imp fun h => by omega
  have ho : out.Perm D := by have := hP.perm; rwa [List.nil_append] at this
  have hnl : (D ++ rest).Nodup := hT.perm.nodup_iff.2 (hl.nodup_iff.2 hn)
  have hS : SWO (fun i j => bfW ps j i) := ⟨fun x => (bfW_swo ps).irrefl x, fun x y z h1 h2 => (bfW_swo ps).trans _ _ _ h2 h1, fun x y z h1 h2 => (bfW_swo ps).ntrans _ _ _ h2 h1⟩
  have hR : (ssort (fun i j => bfW ps j i) rest).Pairwise fun x y => bfW ps y x = true := by
    have hnr : (ssort (fun i j => bfW ps j i) rest).Nodup := (ssort_perm _ rest).nodup_iff.2 (List.nodup_append.1 hnl).2.1
    exact (List.Pairwise.and (ssort_sorted hS rest) hnr).imp fun {x y} h => bfW_or h.2 h.1
  have hall : (out ++ ssort (fun i j => bfW ps j i) rest).Pairwise fun x y => bfW ps y x = true := List.pairwise_append.2 ⟨hP.srt, hR, fun a ha b hb => hT.cross a (ho.mem_iff.1 ha) b ((ssort_perm _ rest).mem_iff.1 hb)⟩
  have hp : (out ++ ssort (fun i j => bfW ps j i) rest).Perm (insR ps r) := ((ho.append (ssort_perm _ rest)).trans hT.perm).trans hl
  have he := stable_is (ltP_swo (ps := ps) ltW_swo) (insR_sorted ps r) hp (hall.imp fun {x y} h => by
    rw [bfW_iff] at h
    unfold ltP
    constructor
    · rw [Bool.eq_false_iff, ne_eq, ltW_iff]; omega
    · intro h2
      rw [Bool.eq_false_iff, ne_eq, ltW_iff] at h2
      omega)
  rw [← he]
  rcases hT.full with e | e
  · subst e
    rw [show ssort (fun i j => bfW ps j i) [] = [] from rfl, List.append_nil, List.take_of_length_le (by rw [ho.length_eq]; exact hT.few)]
  · rw [List.take_append_of_le_length (by rw [ho.length_eq]; omega), List.take_of_length_le (by rw [ho.length_eq]; omega)]

/-- The first of a heap leaves before all others. -/
theorem first_least {ps : List Pt3} {d : Array Nat} (h : HeapF (bfW ps) (rowA d) d.size 0) : ∀ c ∈ d.toList, bfW ps c (rowA d 0) = false := fun c hc => by
  obtain ⟨q, hq, rfl⟩ := List.getElem_of_mem hc
  rw [Array.length_toList] at hq
  have := heap_top (bfW_swo ps) h q hq
  unfold rowA at this
  rw [getElem!_pos d q hq] at this
  rwa [Array.getElem_toList]
end Go.Proofs.Ythmfcdefdbeefaa
