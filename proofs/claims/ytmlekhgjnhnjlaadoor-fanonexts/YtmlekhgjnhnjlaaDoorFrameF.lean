/-
  What the reading of a struct of an integer, a packed array and a bit vector comes to, of no program. For the last step of each proof.
-/
import Derived.Test.YtmlekhgjnhnjlaaDoorFrame
namespace Go.Proofs.YtmlekhgjnhnjlaaDoor
open Go.RowKit Go.ChangeShapes Go.WideShapes Go.Deep

section
variable {H : Type} {enc : TypeId × Value → H} {P : Program} {w : World} {held : Bool}

/-- A struct of an integer, a packed array and a bit vector (an Elias-Fano encoding). -/
theorem rd_fano {t tp tb tw e : TypeId} {f0 f1 f2 g0 g1 g2 k0 k1 : Field} {ti : TypeId} {fuel : Nat} {cs : List Value} {x : DataW H × List MemPlace} (hs : P.underlying t = some (.struct #[f0, f1, f2])) (hC : P.cellsOf t = 6) (t0 : f0.type = ti) (t1 : f1.type = tp) (t2 : f2.type = tb) (o0 : f0.offset = 0) (o1 : f1.offset = 1) (o2 : f2.offset = 4)
    (hp : P.underlying tp = some (.struct #[g0, g1, g2])) (cp : P.cellsOf tp = 3) (u0 : g0.type = ti) (u1 : g1.type = ti) (u2 : g2.type = tw) (p0 : g0.offset = 0) (p1 : g1.offset = 1) (p2 : g2.offset = 2)
    (hb : P.underlying tb = some (.struct #[k0, k1])) (cb : P.cellsOf tb = 2) (v0 : k0.type = ti) (v1 : k1.type = tw) (q0 : k0.offset = 0) (q1 : k1.offset = 1)
    (hi : P.underlying ti = some (.int .i64)) (ci : P.cellsOf ti = 1) (ht : P.underlying tw = some (.slice e)) (ct : P.cellsOf tw = 1) (he : P.underlying e = some (.int .u64)) (hc : P.cellsOf e = 1) (hby : P.bytesOf e = 8)
    (h : DataW.trod enc P w 0 (fun _ => true) held fuel t cs = some x) (hw : ∀ n ∈ x.1.weights P t, n ≤ reachBytes) :
    ∃ (Z n d : Int) (A : Option Addr) (ws : List Nat) (c : Nat) (m : Int) (A2 : Option Addr) (vs : List Nat) (c2 : Nat), cs = [.int .i64 Z, .int .i64 n, .int .i64 d, .slice A ws.length c, .int .i64 m, .slice A2 vs.length c2] ∧ (Lit.int .i64 Z).wf = true ∧
      (Lit.int .i64 n).wf = true ∧ (Lit.int .i64 d).wf = true ∧ ws.length ≤ c ∧ c * 8 ≤ 140737488351232 ∧ (A = none → c = 0) ∧ Words64 w w.heap.size A ws ∧
      (Lit.int .i64 m).wf = true ∧ vs.length ≤ c2 ∧ c2 * 8 ≤ 140737488351232 ∧ (A2 = none → c2 = 0) ∧ Words64 w w.heap.size A2 vs := by
  obtain ⟨hl, hf⟩ := rd_struct hs h hw
  rw [hC] at hl
  match cs, hl with
  | [c0, c1, c2, c3, c4, c5], _ =>
    obtain ⟨m0, y0, z0, _⟩ := hf 0 f0 rfl
    obtain ⟨m1, y1, z1, w1⟩ := hf 1 f1 rfl
    obtain ⟨m2, y2, z2, w2⟩ := hf 2 f2 rfl
    rw [t0, o0, ci] at z0
    rw [t1, o1, cp] at z1
    rw [t1] at w1
    rw [t2, o2, cb] at z2
    rw [t2] at w2
    obtain ⟨Z, e0, _, wZ⟩ := DataW.trod_int hi z0
    obtain ⟨n, d, A, ws, c, e1, wn, wd, r1, r2, r3, r4⟩ := rd_packed hp cp u0 u1 u2 p0 p1 p2 hi ci ht ct he hc hby z1 w1
    obtain ⟨m, A2, vs, cc, e2, wm, s1, s2, s3, s4⟩ := rd_bits hb cb v0 v1 q0 q1 hi ci ht ct he hc hby z2 w2
    have e0' : c0 = .int .i64 Z := by simpa using e0
    have e1' : c1 = .int .i64 n ∧ c2 = .int .i64 d ∧ c3 = .slice A ws.length c := by simpa using e1
    have e2' : c4 = .int .i64 m ∧ c5 = .slice A2 vs.length cc := by simpa using e2
    obtain ⟨rfl, rfl, rfl⟩ := e1'
    obtain ⟨rfl, rfl⟩ := e2'
    subst e0'
    exact ⟨Z, n, d, A, ws, c, m, A2, vs, cc, rfl, wZ, wn, wd, r1, r2, r3, r4, wm, s1, s2, s3, s4⟩
end
end Go.Proofs.YtmlekhgjnhnjlaaDoor
