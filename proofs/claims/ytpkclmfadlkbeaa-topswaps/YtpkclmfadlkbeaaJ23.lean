/-
  What the reading of an argument comes to that is a slice of structs of three integers, or a struct of three or four. For the last step of each proof. No condition but what each theorem names.
-/
import Derived.Test.YtpkclmfadlkbeaaJ03
import Derived.Test.YtpkclmfadlkbeaaJ09
namespace Go.Proofs.Ytpkclmfadlkbeaa
open Go.RowKit Go.ChangeShapes Go.WideShapes Go.Deep

section
variable {H : Type} {enc : TypeId × Value → H} {P : Program} {w : World} {held : Bool}

/-- One struct of three integers, out of its cells. -/
theorem rd_three {t ti : TypeId} {f0 f1 f2 : Field} {fuel : Nat} {cs : List Value} {x : DataW H × List MemPlace} (hs : P.underlying t = some (.struct #[f0, f1, f2])) (hC : P.cellsOf t = 3) (h0 : f0.type = ti) (h1 : f1.type = ti) (h2 : f2.type = ti) (o0 : f0.offset = 0) (o1 : f1.offset = 1) (o2 : f2.offset = 2)
    (hi : P.underlying ti = some (.int .i64)) (ci : P.cellsOf ti = 1) (h : DataW.trod enc P w 0 (fun _ => true) held fuel t cs = some x) : ∃ o : Pt3, cs = o.cells ∧ o.Fits := by
  obtain ⟨xs, m, _, hx, hl, hlen, hf⟩ := DataW.trod_struct hs h
  rw [hC] at hl
  match cs, hl with
  | [c0, c1, c2], _ =>
    have g0 := hf 0 f0 rfl
    have g1 := hf 1 f1 rfl
    have g2 := hf 2 f2 rfl
    rw [h0, o0, ci] at g0
    rw [h1, o1, ci] at g1
    rw [h2, o2, ci] at g2
    have hsz : xs.length = 3 := hlen
    match xs, hsz with
    | [x0, x1, x2], _ =>
      obtain ⟨n0, e0, _, w0⟩ := DataW.trod_int hi g0
      obtain ⟨n1, e1, _, w1⟩ := DataW.trod_int hi g1
      obtain ⟨n2, e2, _, w2⟩ := DataW.trod_int hi g2
      have e0' : c0 = .int .i64 n0 := by simpa using e0
      have e1' : c1 = .int .i64 n1 := by simpa using e1
      have e2' : c2 = .int .i64 n2 := by simpa using e2
      subst e0' e1' e2'
      exact ⟨⟨n0, n1, n2⟩, rfl, w0, w1, w2⟩

/-- One struct of four integers, out of its cells. -/
theorem rd_rect {t ti : TypeId} {f0 f1 f2 f3 : Field} {fuel : Nat} {cs : List Value} {x : DataW H × List MemPlace} (hs : P.underlying t = some (.struct #[f0, f1, f2, f3])) (hC : P.cellsOf t = 4) (h0 : f0.type = ti) (h1 : f1.type = ti) (h2 : f2.type = ti) (h3 : f3.type = ti) (o0 : f0.offset = 0) (o1 : f1.offset = 1) (o2 : f2.offset = 2) (o3 : f3.offset = 3)
    (hi : P.underlying ti = some (.int .i64)) (ci : P.cellsOf ti = 1) (h : DataW.trod enc P w 0 (fun _ => true) held fuel t cs = some x) : ∃ o : Rc4, cs = [.int .i64 o.x0, .int .i64 o.y0, .int .i64 o.x1, .int .i64 o.y1] ∧ o.Fits := by
  obtain ⟨xs, m, _, hx, hl, hlen, hf⟩ := DataW.trod_struct hs h
  rw [hC] at hl
  match cs, hl with
  | [c0, c1, c2, c3], _ =>
    have g0 := hf 0 f0 rfl
    have g1 := hf 1 f1 rfl
    have g2 := hf 2 f2 rfl
    have g3 := hf 3 f3 rfl
    rw [h0, o0, ci] at g0
    rw [h1, o1, ci] at g1
    rw [h2, o2, ci] at g2
    rw [h3, o3, ci] at g3
    have hsz : xs.length = 4 := hlen
    match xs, hsz with
    | [x0, x1, x2, x3], _ =>
      obtain ⟨n0, e0, _, w0⟩ := DataW.trod_int hi g0
      obtain ⟨n1, e1, _, w1⟩ := DataW.trod_int hi g1
      obtain ⟨n2, e2, _, w2⟩ := DataW.trod_int hi g2
      obtain ⟨n3, e3, _, w3⟩ := DataW.trod_int hi g3
      have e0' : c0 = .int .i64 n0 := by simpa using e0
      have e1' : c1 = .int .i64 n1 := by simpa using e1
      have e2' : c2 = .int .i64 n2 := by simpa using e2
      have e3' : c3 = .int .i64 n3 := by simpa using e3
      subst e0' e1' e2' e3'
      exact ⟨⟨n0, n1, n2, n3⟩, rfl, w0, w1, w2, w3⟩

/-- A slice of structs of three integers. -/
theorem rd_threes {t e ti : TypeId} {f0 f1 f2 : Field} {fuel : Nat} {cs : List Value} {x : DataW H × List MemPlace} (ht : P.underlying t = some (.slice e)) (hs : P.underlying e = some (.struct #[f0, f1, f2])) (hC : P.cellsOf e = 3) (hby : P.bytesOf e = 24) (h0 : f0.type = ti) (h1 : f1.type = ti) (h2 : f2.type = ti) (o0 : f0.offset = 0) (o1 : f1.offset = 1) (o2 : f2.offset = 2)
    (hi : P.underlying ti = some (.int .i64)) (ci : P.cellsOf ti = 1) (h : DataW.trod enc P w 0 (fun _ => true) held fuel t cs = some x) (hw : ∀ n ∈ x.1.weights P t, n ≤ reachBytes) :
    ∃ (A : Option Addr) (os : List Pt3) (c : Nat), cs = [.slice A os.length c] ∧ os.length ≤ c ∧ c * 24 ≤ 140737488351232 ∧ (A = none → c = 0) ∧ Lies w w.heap.size A (ptC os) ∧ ∀ o ∈ os, o.Fits := by
  rcases open_slice ht h with ⟨rfl, rfl⟩ | ⟨a, len, cap, m, n, D, Pl, rfl, _, hl, _, hm, rfl, hx⟩
  · exact ⟨none, [], 0, rfl, Nat.le_refl _, by omega, fun _ => rfl, Lies.nil, fun o ho => by cases ho⟩
  · simp only [if_true] at hm
    subst hm
    rw [hC] at hx
    obtain ⟨B, hB⟩ := choose_lt (α := Pt3) (n := len) (p := fun i o => o.Fits ∧ ∀ j u, o.cells[j]? = some u → w.cell? ((a.add (i * 3)).add j) = some u) (fun i hlt => by
      obtain ⟨cs', hc, ht'⟩ := hx i (by omega)
      obtain ⟨o, rfl, ho⟩ := rd_three hs hC h0 h1 h2 o0 o1 o2 hi ci ht'
      obtain ⟨_, hcl, hat⟩ := World.cells?_some hc
      refine ⟨o, ho, fun j u hu => ?_⟩
      have hj : j < 3 := (List.getElem?_eq_some_iff.1 hu).1
      rw [hat j hj]
      exact hu)
    have hlenB : ((List.range len).map B).length = len := by simp
    refine ⟨some a, (List.range len).map B, m, by rw [hlenB], by rw [hlenB]; exact hl, ?_, (fun e => by cases e), ?_, ?_⟩
    · have := hw ((((List.range len).map D).length + ((List.range (m - len)).map fun j => D (len + j)).length) * P.bytesOf e) (by simp [DataW.weights, ht])
      simp only [List.length_map, List.length_range, hby, reachBytes] at this
      rwa [show len + (m - len) = m by omega] at this
    · intro hne
      have hlp : 0 < len := by
        rcases Nat.eq_zero_or_pos len with e | e
        · subst e; exact absurd rfl hne
        · exact e
      obtain ⟨b, o, s⟩ := a
      have hc0 := (hB 0 hlp).2 0 _ rfl
      have hs0 : s = none := by simpa [Addr.add] using World.cell?_spot hc0
      subst hs0
      have hbl : b < w.heap.size := by simpa [Addr.add] using cell_lt hc0
      refine ⟨b, o, rfl, hbl, fun j v hv => ?_⟩
      have hj : j < len * 3 := by
        have h4 := (List.getElem?_eq_some_iff.1 hv).1
        rw [ptC_length, hlenB] at h4
        exact h4
      have hq : j / 3 < len := by omega
      have hge : ((List.range len).map B)[j / 3]? = some (B (j / 3)) := by rw [List.getElem?_map, List.getElem?_range hq]; rfl
      have hg := ptC_get _ (j / 3) _ (j % 3) hge (Nat.mod_lt _ (by decide))
      rw [show j / 3 * 3 + j % 3 = j by omega, hv] at hg
      have h5 := (hB (j / 3) hq).2 (j % 3) v hg.symm
      rw [Addr.add_lit, Addr.add_lit, show o + j / 3 * 3 + j % 3 = o + j by omega] at h5
      exact h5
    · intro o ho
      obtain ⟨i, hi2, rfl⟩ := List.mem_map.1 ho
      exact (hB i (List.mem_range.1 hi2)).1
end
end Go.Proofs.Ytpkclmfadlkbeaa
