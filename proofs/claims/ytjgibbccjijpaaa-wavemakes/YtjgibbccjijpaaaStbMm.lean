/-
  Memory of the document's WaveMake, of no program: the levels' row and the numbers' row, both of the call's own. No condition but what each theorem names.
-/
import Derived.Test.YtjgibbccjijpaaaStbOw
import Derived.Test.YtjgibbccjijpaaaWavMk
import Derived.Test.YtjgibbccjijpaaaRefMk
import Derived.Maps.AppendAt
namespace Go.Proofs.Ytjgibbccjijpaaa
open Go.RowKit Words

theorem own_keeps2 {w w' : World} {base sz : Nat} {e : TypeId} {v : Value} {n : Nat} {xs : List Value} (h : w.ownsRow base e sz v n xs) (hk : ∀ q, v.ownBlock = some q → w'.heap[q]? = w.heap[q]?) : w'.ownsRow base e sz v n xs := by
  refine ⟨h.1, ?_⟩
  rcases h.2 with ⟨rfl, hn⟩ | ⟨g, cap, cur, rfl, hb, hh, hr⟩
  · exact .inl ⟨rfl, hn⟩
  · exact .inr ⟨g, cap, cur, rfl, hb, (hk g rfl).trans hh, hr⟩
theorem words_kept {w w' : World} {B B' : Nat} {A : Option Addr} {ws : List Nat} (h : Words64 w B A ws) (hB : B ≤ B') (hk : ∀ b o, ws ≠ [] → A = some ⟨b, o, none⟩ → b < B → w'.heap[b]? = w.heap[b]?) : Words64 w' B' A ws := by
  refine ⟨fun hne => ?_, h.2⟩
  obtain ⟨b, o, e, hb, hc⟩ := h.1 hne
  refine ⟨b, o, e, Nat.lt_of_lt_of_le hb hB, fun j u hu => ?_⟩
  rw [World.cell?_of_block (a := ⟨b, o + j, none⟩) (hk b o (fun e2 => hne (by rw [e2]; rfl)) e hb)]
  exact hc j u hu

theorem words_lt {w : World} {B : Nat} {A : Option Addr} {ws : List Nat} (h : Words64 w B A ws) {b o : Nat} (hne : ws ≠ []) (e : A = some ⟨b, o, none⟩) : b < B := by
  obtain ⟨b2, o2, e2, hb, _⟩ := h.1 (by intro e3; exact hne (List.map_eq_nil_iff.1 e3))
  rw [e] at e2
  have e3 := Option.some.inj e2
  injection e3 with e4
  omega

theorem append_rec_at {P : Program} (w : World) {ops : Array Oper} {rest : List Oper} {o : Oper} {a : Act} {Q : Exit → Act → World → Prop} (hgd : o.guard = none) (s x : Operand) (t : TypeId)
    (ho : o.op = .call { callee := .builtin .append, args := #[s, x], argTypes := #[t, t] }) (base : Nat) (e : TypeId) (z : Value) (sz bytes : Nat) (ht : P.underlying t = some (.slice e))
    (hinfo : (P.info? e).map (fun i => (i.zero, i.size, i.bytes)) = some (some z, sz, bytes)) (hz : z.cells.size = sz) (hsz : 0 < sz) (v : Value) (n : Nat) (xs : List Value) (hs : a.eval s = v) (hown : w.ownsRow base e sz v n xs)
    (g c : Nat) (us : List Value) (hx : a.eval x = .slice (some ⟨g, 0, none⟩) 1 c) (hl : us.length = sz) (hu : ∀ j u, us[j]? = some u → w.cell? ⟨g, j, none⟩ = some u) (h1 : ∀ u ∈ us, u.oneCell' = true) (h63 : n + 1 ≤ maxLen) (hbytes : (n + 1) * bytes ≤ 140737488355328) (hbase : base ≤ w.heap.size)
    (h : ∀ v' w', w'.ownsRow base e sz v' (n + 1) (xs ++ us) → w.grownBy w' v.ownBlock → (v'.ownBlock = v.ownBlock ∨ v'.ownBlock = some w.heap.size) → wpList P ops Q rest (a.put o.dst v') w') : wpList P ops Q (o :: rest) a w := by
  obtain ⟨i, hi, hz0, hz1, hz2⟩ := info_parts hinfo
  refine wpList_append_own_at w hgd s x t ho base e i z sz bytes ht hi hz0 hz1 hz2 hz hsz v n xs hs hown ⟨g, 0, none⟩ 1 c us hx (by omega) ?_ h1 h63 hbytes hbase fun v' w' h2 h3 _ h4 => h v' w' h2 h3 h4
  intro j u hj
  rw [Addr.add_lit, Nat.zero_add]
  exact hu j u hj

/-- Memory between the levels. -/
structure RwAt (w : World) (T L n : Nat) (ns : List Nat) (i : Nat) (done : List Lev) (v nv : Value) (W : World) : Prop where
  res : Blk W w.heap.size 25 [.slice none 0 0]
  bw : Blk W (w.heap.size + 1) 25 [v]
  bn : Blk W T 22 [nv]
  tab : W.ownsRow (w.heap.size + 2) 32 2 v i (levC done)
  row : W.ownsRow (w.heap.size + 2) 3 1 nv n (natC (lst L i ns))
  hT : w.heap.size + 2 ≤ T
  nb : ∀ q, nv.ownBlock = some q → q < T
  vt : ∀ q, v.ownBlock = some q → T < q
  dn : done.map (fun x => (x.n, x.ws)) = ((levs L ns).take i).map fun r => ((n : Int), rowOf r)
  rows : ∀ x ∈ done, Words64 W W.heap.size x.adr x.ws ∧ New (T + 1) x.adr ∧ (∀ b o, x.ws ≠ [] → x.adr = some ⟨b, o, none⟩ → v.ownBlock ≠ some b)
  bel : Below w.heap.size w W

theorem RwAt.step {w : World} {T L n : Nat} {ns : List Nat} {i : Nat} {done : List Lev} {v nv : Value} {W X Y Z : World} (h : RwAt w T L n ns i done v nv W) (hi : i < L) (hX : Below W.heap.size W X) {A1 : Option Addr} {c1 : Nat} {v' : Value}
    (hA : Words64 X X.heap.size A1 (rowOf (digs10 (L - 1 - i) (lst L i ns)))) (hN : New W.heap.size A1)
    (hown : Y.ownsRow (w.heap.size + 2) 32 2 v' (i + 1) (levC done ++ [.int .i64 n, .slice A1 (rowOf (digs10 (L - 1 - i) (lst L i ns))).length c1])) (hg : X.grownBy Y v.ownBlock) (hloc : v'.ownBlock = v.ownBlock ∨ v'.ownBlock = some X.heap.size)
    (hrow : Z.ownsRow (w.heap.size + 2) 3 1 nv n (natC (nxt (L - 1 - i) (lst L i ns)))) (hg2 : (Y.setCell ⟨w.heap.size + 1, 0, none⟩ v').grownBy Z nv.ownBlock) :
    RwAt w T L n ns (i + 1) (done ++ [⟨n, A1, rowOf (digs10 (L - 1 - i) (lst L i ns)), c1⟩]) v' nv Z := by
  have hT := h.hT
  have lT := h.bn.lt
  have sX := hX.size
  have sY := hg.size
  have sZ := hg2.size
  have hss : (Y.setCell ⟨w.heap.size + 1, 0, none⟩ v').heap.size = Y.heap.size := by simp
  rw [hss] at sZ
  have hvb : ∀ q, v.ownBlock = some q → q < W.heap.size := fun q hq => (h.tab.lt q hq).2
  have hnb : ∀ q, nv.ownBlock = some q → w.heap.size + 2 ≤ q := fun q hq => (h.row.lt q hq).1
  have hv' : ∀ q, v'.ownBlock = some q → T < q := fun q hq => by
    rcases hloc with e | e
    · exact h.vt q (by rw [← e]; exact hq)
    · rw [e] at hq
      have := Option.some.inj hq
      omega
  have kYZ : ∀ q, q < Y.heap.size → q ≠ w.heap.size + 1 → nv.ownBlock ≠ some q → Z.heap[q]? = Y.heap[q]? := fun q hq h1 h2 => by
    rw [hg2.block q (by rw [hss]; exact hq) (fun e => h2 e.symm), Below.heap_setCell _ _ _ _ (by exact h1)]
  have kXZ : ∀ q, q < X.heap.size → v.ownBlock ≠ some q → q ≠ w.heap.size + 1 → nv.ownBlock ≠ some q → Z.heap[q]? = X.heap[q]? := fun q hq h1 h2 h3 => by
    rw [kYZ q (by omega) h2 h3, hg.block q hq (fun e => h1 e.symm)]
  have kWZ : ∀ q, q < W.heap.size → v.ownBlock ≠ some q → q ≠ w.heap.size + 1 → nv.ownBlock ≠ some q → Z.heap[q]? = W.heap[q]? := fun q hq h1 h2 h3 => by
    rw [kXZ q (by omega) h1 h2 h3, hX.block q hq]
  have hvn : ∀ q, q ≤ T → v.ownBlock ≠ some q := fun q hq e => by have := h.vt q e; omega
  have hnn : ∀ q, T ≤ q ∨ q < w.heap.size + 2 → nv.ownBlock ≠ some q := fun q hq e => by
    have := h.nb q e
    have := hnb q e
    omega
  refine ⟨?_, ?_, ?_, ?_, ?_, hT, h.nb, hv', ?_, ?_, ?_⟩
  · exact (kWZ _ (by omega) (hvn _ (by omega)) (by omega) (hnn _ (by omega))).trans h.res
  · have b1 : Blk Y (w.heap.size + 1) 25 [v] := (hg.block _ (by omega) (fun e => hvn _ (by omega) e.symm)).trans ((hX.block _ (by omega)).trans h.bw)
    exact (hg2.block _ (by rw [hss]; omega) (fun e => hnn _ (by omega) e.symm)).trans (b1.put 0 v')
  · exact (kWZ _ (by omega) (hvn _ (by omega)) (by omega) (hnn _ (by omega))).trans h.bn
  · have e : levC (done ++ [⟨n, A1, rowOf (digs10 (L - 1 - i) (lst L i ns)), c1⟩]) = levC done ++ [.int .i64 n, .slice A1 (rowOf (digs10 (L - 1 - i) (lst L i ns))).length c1] := by rw [levC_append]; rfl
    rw [e]
    refine own_keeps2 hown fun q hq => kYZ q (hown.lt q hq).2 ?_ (hnn q (by have := hv' q hq; omega))
    have := hv' q hq
    omega
  · rw [lst_succ L i ns hi]
    exact hrow
  · rw [List.map_append, h.dn, List.take_add_one, levs_at L i ns hi, List.map_append]
    rfl
  · intro x hx
    rcases List.mem_append.1 hx with hx | hx
    · obtain ⟨h1, h2, h3⟩ := h.rows x hx
      refine ⟨words_kept h1 (by omega) fun b o hne e hb => ?_, h2, fun b o hne e e2 => ?_⟩
      · have hb2 : T + 1 ≤ b := h2 _ e
        exact kWZ b hb (h3 b o hne e) (by omega) (hnn b (by omega))
      · have hb := words_lt h1 hne e
        rcases hloc with e3 | e3
        · exact h3 b o hne e (by rw [← e3]; exact e2)
        · rw [e3] at e2
          have e4 := Option.some.inj e2
          omega
    · obtain rfl : x = _ := List.mem_singleton.1 hx
      refine ⟨words_kept hA (by omega) fun b o _ e hb => ?_, fun ad e => by have := hN ad e; omega, fun b o hne e e2 => ?_⟩
      · have hb2 : W.heap.size ≤ b := hN _ e
        exact kXZ b hb (fun e3 => by have := hvb b e3; omega) (by omega) (hnn b (by omega))
      · have hb2 : W.heap.size ≤ b := hN _ e
        have hb3 := words_lt hA hne e
        rcases hloc with e3 | e3
        · rw [e3] at e2
          have := hvb b e2
          omega
        · rw [e3] at e2
          have e4 := Option.some.inj e2
          omega
  · refine Below.grown (Below.setCell (Below.grown (chain h.bel hX) hg (by have := h.bel.size; omega) (fun q hq => by have := h.vt q hq; omega)) (show w.heap.size ≤ w.heap.size + 1 by omega) _) hg2 (by rw [hss]; have := h.bel.size; omega) (fun q hq => by have := hnb q hq; omega)
end Go.Proofs.Ytjgibbccjijpaaa
