/-
  What the closures of the document's grid answers return, and its within: contracts, walked over the translated text. What the document's within returns: the places of the points in a rectangle, sorted; a contract, walked over the translated text. No condition but what each theorem names.
-/
import Derived.Test.YtpkclmfadlkbeaaDoorJ07
import Derived.Test.YtpkclmfadlkbeaaDoorJ01
import Derived.Test.YtpkclmfadlkbeaaDoorJ15
import Derived.Deep.RegionWith
namespace Go.Proofs.YtpkclmfadlkbeaaDoor
open Go.RowKit Go.Sort

/-- What an order's function does. -/
def Orders (F : Nat) (lt : Pt3 → Pt3 → Bool) : Prop := ∀ p q W, Calls Tryd.prog F #[p.val, q.val] W fun e w' => e = .returned (.bool (lt p q)) ∧ Grown W w'


theorem keepS {W w' : World} (h : Grown W.drew w') {a0 a1 a2 a3 a4 a5 a6 a7 a8 a9 a10 : Addr} {u0 u1 u2 u3 u4 u5 u6 u7 u8 u9 u10 : Value} (h0 : W.cell? a0 = some u0) (h1 : W.cell? a1 = some u1) (h2 : W.cell? a2 = some u2) (h3 : W.cell? a3 = some u3) (h4 : W.cell? a4 = some u4) (h5 : W.cell? a5 = some u5) (h6 : W.cell? a6 = some u6) (h7 : W.cell? a7 = some u7) (h8 : W.cell? a8 = some u8) (h9 : W.cell? a9 = some u9) (h10 : W.cell? a10 = some u10) :
    w'.cell? a0 = some u0 ∧ w'.cell? a1 = some u1 ∧ w'.cell? a2 = some u2 ∧ w'.cell? a3 = some u3 ∧ w'.cell? a4 = some u4 ∧ w'.cell? a5 = some u5 ∧ w'.cell? a6 = some u6 ∧ w'.cell? a7 = some u7 ∧ w'.cell? a8 = some u8 ∧ w'.cell? a9 = some u9 ∧ w'.cell? a10 = some u10 := by
  have k : ∀ {a : Addr} {u : Value}, W.cell? a = some u → w'.cell? a = some u := fun {a u} hu => (h.below.cell (p := a) (cell_lt (w := W.drew) hu)).trans hu
  exact ⟨k h0, k h1, k h2, k h3, k h4, k h5, k h6, k h7, k h8, k h9, k h10⟩

set_option maxHeartbeats 4000000 in
/-- The document's closure within within: is the one point less than the other? -/
theorem rwl_any (F : Nat) (eF : ∀ args w, (callFunc F args).run Tryd.prog w = .ok (.enter F args) w) (lt : Pt3 → Pt3 → Bool) (hF : Orders F lt) (Ld Ps Os b o c q c2 m : Nat) (ps : List Pt3) (W : World) (G : Nat → Nat)
    (h1 : W.cell? ⟨Ld, 0, none⟩ = some (.func (.func F) #[] #[])) (h2 : W.cell? ⟨Ps, 0, none⟩ = some (.slice (some ⟨b, o, none⟩) ps.length c)) (h3 : W.cell? ⟨Os, 0, none⟩ = some (.slice (some ⟨q, 0, none⟩) m c2))
    (hp : Lies W W.heap.size (some ⟨b, o, none⟩) (ptC ps)) (hq : ∀ t, t < m → W.cell? ⟨q, t, none⟩ = some (.int .i64 (G t : Nat))) (hG : ∀ t, t < m → G t < ps.length) (i j : Nat) (hi : i < m) (hj : j < m) :
    Calls Tryd.prog 25 #[.int .i64 i, .int .i64 j, .pointer (some ⟨Ld, 0, none⟩), .pointer (some ⟨Ps, 0, none⟩), .pointer (some ⟨Os, 0, none⟩)] W fun e w' => e = .returned (.bool (ltP ps lt (G i) (G j))) ∧ Grown W w' := by
  have gi := hq i hi
  have gj := hq j hj
  have bi := hG i hi
  have bj := hG j hj
  unfold ltP
  generalize G i = u at *
  generalize G j = v at *
  obtain ⟨b1, o1, e1, hb1, px, py, pw⟩ := pts_at hp (ptAt_get bi)
  obtain ⟨b2, o2, e2, hb2, qx, qy, qw⟩ := pts_at hp (ptAt_get bj)
  obtain ⟨rfl, rfl⟩ : b = b1 ∧ o = o1 := by injection e1 with e1; injection e1 with x1 x2; exact ⟨x1, x2⟩
  obtain ⟨rfl, rfl⟩ : b = b2 ∧ o = o2 := by injection e2 with e2; injection e2 with x1 x2; exact ⟨x1, x2⟩
  have HF := Lib.hid (fun W => hF (ptAt ps u) (ptAt ps v) W)
  generalize lt (ptAt ps u) (ptAt ps v) = z at *
  unfold Pt3.val at HF
  generalize ptAt ps u = P1 at *
  generalize ptAt ps v = P2 at *
  generalize ps.length = n at *
  have hii : (i : Int) < (m : Int) := by omega
  have hjj : (j : Int) < (m : Int) := by omega
  have huu : (u : Int) < (n : Int) := by omega
  have hvv : (v : Int) < (n : Int) := by omega
  clear e1 e2 hq hG hF hp hb1 hb2
  go_enter Tryd.func25, Tryd.ntmps25
  go_wp2_with fail
  go_region_held3 (fun W' => W'.cell? ⟨Ld, 0, none⟩ = some (.func (.func F) #[] #[]) ∧ W'.cell? ⟨Ps, 0, none⟩ = some (.slice (some ⟨b, o, none⟩) n c) ∧ W'.cell? ⟨Os, 0, none⟩ = some (.slice (some ⟨q, 0, none⟩) m c2) ∧ W'.cell? ⟨q, i, none⟩ = some (.int .i64 u) ∧ W'.cell? ⟨q, j, none⟩ = some (.int .i64 v) ∧
      W'.cell? ⟨b, o + u * 3, none⟩ = some (.int .i64 P1.x) ∧ W'.cell? ⟨b, o + u * 3 + 1, none⟩ = some (.int .i64 P1.y) ∧ W'.cell? ⟨b, o + u * 3 + 2, none⟩ = some (.int .i64 P1.w) ∧ W'.cell? ⟨b, o + v * 3, none⟩ = some (.int .i64 P2.x) ∧ W'.cell? ⟨b, o + v * 3 + 1, none⟩ = some (.int .i64 P2.y) ∧ W'.cell? ⟨b, o + v * 3 + 2, none⟩ = some (.int .i64 P2.w))
    (first | exact ⟨h1, h2, h3, gi, gj, px, py, pw, qx, qy, qw⟩ | exact hS)
    (first | (go_at_fn F; refine (HF.out _).mono ?_; rintro e w' ⟨rfl, hgr⟩; have hS := keepS hgr h1 h2 h3 gi gj px py pw qx qy qw))
  go_wp2_with fail
  go_ret
  exact ⟨rfl, ((Grown.refl W).drewN 1).trans hgr⟩
end Go.Proofs.YtpkclmfadlkbeaaDoor

namespace Go.Proofs.YtpkclmfadlkbeaaDoor
open Go.RowKit Go.Sort

theorem gint_info : (Tryd.prog.info? 3).map (fun i => (i.zero, i.size, i.bytes)) = some (some (.int .i64 0), 1, 8) := by kernel_rfl

/-- A new row of numbers, its caller's own. -/
def GivesN (w : World) (l : List Nat) (e : Ending) (w' : World) : Prop := ∃ v, e = .returned v ∧ w'.ownsRow w.heap.size 3 1 v l.length (natC l) ∧ Below w.heap.size w w'
theorem Lies.far {w W : World} {B q : Nat} {A : Option Addr} {xs : List Value} (h : Lies w B A xs) (hB : B ≤ q) (hk : ∀ b o u, b ≠ q → w.cell? ⟨b, o, none⟩ = some u → W.cell? ⟨b, o, none⟩ = some u) : Lies W W.heap.size A xs := fun hne => by
  obtain ⟨b, o, e, hb, hc⟩ := h hne
  have hall : ∀ j v, xs[j]? = some v → W.cell? ⟨b, o + j, none⟩ = some v := fun j v hv => hk b _ v (by omega) (hc j v hv)
  obtain ⟨x, hx⟩ : ∃ x, xs[0]? = some x := by
    cases xs with
    | nil => exact absurd rfl hne
    | cons x _ => exact ⟨x, rfl⟩
  exact ⟨b, o, e, cell_lt (hall 0 x hx), hall⟩

/-- Four new blocks, one behind the other. -/
theorem four_boxes (w : World) (t0 t1 t2 t3 : TypeId) (x0 x1 x2 x3 : List Value) :
    ∃ w0, w0 = (((w.alloc (.cells x0.toArray t0)).alloc (.cells x1.toArray t1)).alloc (.cells x2.toArray t2)).alloc (.cells x3.toArray t3) ∧
      Blk w0 w.heap.size t0 x0 ∧ Blk w0 (w.heap.size + 1) t1 x1 ∧ Blk w0 (w.heap.size + 1 + 1) t2 x2 ∧ Blk w0 (w.heap.size + 1 + 1 + 1) t3 x3 ∧ Below w.heap.size w w0 ∧ w0.heap.size = w.heap.size + 1 + 1 + 1 + 1 := by
  refine ⟨_, rfl, (((Blk.new w t0 x0).alloc _).alloc _).alloc _, ?_, ?_, ?_, (((bnew w _).alloc (by simp) _).alloc (by simp; omega) _).alloc (by simp; omega) _, by simp⟩
  · have := ((Blk.new (w.alloc (.cells x0.toArray t0)) t1 x1).alloc (.cells x2.toArray t2)).alloc (.cells x3.toArray t3)
    rwa [World.size_alloc] at this
  · have := (Blk.new ((w.alloc (.cells x0.toArray t0)).alloc (.cells x1.toArray t1)) t2 x2).alloc (.cells x3.toArray t3)
    rwa [World.size_alloc, World.size_alloc] at this
  · have := Blk.new (((w.alloc (.cells x0.toArray t0)).alloc (.cells x1.toArray t1)).alloc (.cells x2.toArray t2)) t3 x3
    rwa [World.size_alloc, World.size_alloc, World.size_alloc] at this

/-- The places while they are gathered: a box that holds a row of the call's own. -/
def PlcAt (h : Nat) (k : List Nat) (w0 w' : World) : Prop := ∃ A c, Blk w' h 23 [.slice A k.length c] ∧ w'.ownsRow (h + 1) 3 1 (.slice A k.length c) k.length (natC k) ∧ Below h w0 w'

/-- The closure serves the sort. -/
theorem less_at (F : Nat) (eF : ∀ args w, (callFunc F args).run Tryd.prog w = .ok (.enter F args) w) (lt : Pt3 → Pt3 → Bool) (hF : Orders F lt) (Ld Ps Os : Nat) (A : Option Addr) (c : Nat) (ps : List Pt3) (w1 : World) (B : Nat) (A1 : Option Addr) (c1 : Nat) (k : List Nat) (hk : ∀ x ∈ k, x < ps.length) (hl1 : Ld ≤ Os) (hl2 : Ps ≤ Os)
    (h1 : w1.cell? ⟨Ld, 0, none⟩ = some (.func (.func F) #[] #[])) (h2 : w1.cell? ⟨Ps, 0, none⟩ = some (.slice A ps.length c)) (h3 : w1.cell? ⟨Os, 0, none⟩ = some (.slice A1 k.length c1)) (hp : Lies w1 B A (ptC ps)) (hB : B ≤ Os + 1) (hown : w1.ownsRow (Os + 1) 3 1 (.slice A1 k.length c1) k.length (natC k)) :
    ∀ q, (Value.slice A1 k.length c1).ownBlock = some q → LessAt 25 #[.pointer (some ⟨Ld, 0, none⟩), .pointer (some ⟨Ps, 0, none⟩), .pointer (some ⟨Os, 0, none⟩)] ps.length k.length q (ltP ps lt) w1 := fun q hq W G hg hfar i j hi hj => by
  have hqb : Os + 1 ≤ q := (hown.lt q hq).1
  obtain ⟨g, rfl, _⟩ := own_at hown (by omega)
  obtain rfl : g = q := by simpa [Value.ownBlock] using hq
  have hnp : 0 < ps.length := by
    cases k with
    | nil => simp at hi
    | cons x _ => have := hk x (List.mem_cons_self ..); omega
  obtain ⟨b, o, rfl, _⟩ := hp (by intro e; have := ptC_length ps; rw [e] at this; simp at this; omega)
  exact rwl_any F eF lt hF Ld Ps Os b o c g c1 k.length ps W (fun t => G t % ps.length) (hfar _ _ _ (by omega) h1) (hfar _ _ _ (by omega) h2) (hfar _ _ _ (by omega) h3) (hp.far (Nat.le_trans hB hqb) hfar) hg (fun t _ => Nat.mod_lt _ hnp) i j hi hj

set_option maxHeartbeats 4000000 in
/-- The document's within. -/
theorem rwithin_any (F : Nat) (eF : ∀ args w, (callFunc F args).run Tryd.prog w = .ok (.enter F args) w) (lt : Pt3 → Pt3 → Bool) (hO : SWO lt) (hF : Orders F lt) (A : Option Addr) (ps : List Pt3) (c : Nat) (r : Rc4) (w : World) (hn : ps.length ≤ 150) (hL : Lies w w.heap.size A (ptC ps)) :
    Calls Tryd.prog 13 #[.slice A ps.length c, r.val, .func (.func F) #[] #[]] w (GivesN w (ssort (ltP ps lt) (insR ps r))) := by
  have HL := Lib.hid hL
  have HIn := Lib.hid (fun p W => rin_any p r W)
  have HY := Lib.hid (fun i p (hp : ps[i]? = some p) (h : inR r p = true) => insTo_yes hp h)
  have HNo := Lib.hid (fun i p (hp : ps[i]? = some p) (h : inR r p = false) => insTo_no hp h)
  have HIl := Lib.hid (fun i => insTo_length ps r i)
  have HAll := Lib.hid (show insTo ps r ps.length = insR ps r from rfl)
  have HLess := Lib.hid (fun Ld Ps Os w1 B A1 c1 hl1 hl2 h1 h2 h3 hp hB hown => less_at F eF lt hF Ld Ps Os A c ps w1 B A1 c1 (insR ps r) (fun x hx => (insR_mem.1 hx).1) hl1 hl2 h1 h2 h3 hp hB hown)
  have HMem := Lib.hid (fun x (hx : x ∈ insR ps r) => (insR_mem.1 hx).1)
  have HSrt := Lib.hid (fun base v g lb W hown hnn hx eg hl => stable_own base v (insR ps r) ps.length g lb (ltP ps lt) W hown hnn hx eg (ltP_swo hO) hl)
  have HSl := Lib.hid (ssort_length (ltP ps lt) (insR ps r))
  obtain ⟨x0, y0, x1, y1⟩ := r
  unfold Rc4.val
  generalize (⟨x0, y0, x1, y1⟩ : Rc4) = r at *
  obtain ⟨n, hk⟩ : ∃ n, ps.length = n := ⟨_, rfl⟩
  have HN := Lib.hid hk
  rw [hk] at hn ⊢
  clear hk hL hF eF hO
  go_enter Tryd.func13, Tryd.ntmps13
  go_wp2_with fail
  obtain ⟨w0, hw0, b0, b1, b2, b3, hb0, hs0⟩ := four_boxes w 22 33 36 23 [.slice A n c] [.int .i64 r.x0, .int .i64 r.y0, .int .i64 r.x1, .int .i64 r.y1] [.func (.func F) #[] #[]] [.slice none 0 0]
  have e : (((w.alloc (.cells #[.slice A n c] 22)).alloc (.cells #[.int .i64 r.x0, .int .i64 r.y0, .int .i64 r.x1, .int .i64 r.y1] 33)).alloc (.cells #[.func (.func F) #[] #[]] 36)).alloc (.cells #[.slice none 0 0] 23) = w0 := hw0.symm
  rw [e]
  clear e hw0
  have HL0 := Lib.hid (HL.out.below hb0)
  have HB0 := Lib.hid hb0
  generalize e3 : w.heap.size + 1 + 1 + 1 = h3 at *
  generalize e2 : w.heap.size + 1 + 1 = h2 at *
  generalize e1 : w.heap.size + 1 = h1 at *
  have hb3 : h2 + 1 = h3 := by omega
  have hb2 : h1 + 1 = h2 := by omega
  have HE1 := Lib.hid e1
  have HE2 := Lib.hid hb2
  have HE3 := Lib.hid hb3
  have HS0 := Lib.hid hs0
  have B0 := Lib.hid b0
  have B1 := Lib.hid b1
  have B2 := Lib.hid b2
  have B3 := Lib.hid b3
  clear e1 e2 e3 hb2 hb3 hs0 b0 b1 b2 b3 hb0
  go_loopw [12] (fun u w' => ∃ i : Nat, i ≤ n ∧ u = .int .i64 i ∧ PlcAt h3 (insTo ps r i) w0 w') (fun u _ => n - (intOf u).toNat)
  case atStart => exact ⟨0, Nat.zero_le _, rfl, none, 0, B3.out, World.ownsRow_nil _ _ _ _, Below.refl _ _⟩
  case round =>
    obtain ⟨i, hi, rfl, A1, c1, hbk, hown, hbl⟩ := hrel
    have HBk := Lib.hid hbk
    have HO := Lib.hid hown
    have HB := Lib.hid hbl
    have hLr : Lies wr w.heap.size A (ptC ps) := HL0.out.keep fun p hp => hbl.cell (by have := HE1.out; have := HE2.out; have := HE3.out; omega)
    by_cases hlt : i < n
    · obtain ⟨p, hp⟩ : ∃ p, ps[i]? = some p := ⟨_, List.getElem?_eq_getElem (by rw [HN.out]; exact hlt)⟩
      obtain ⟨b, o, rfl, hb, hcx, hcy, hcw⟩ := pts_at hLr hp
      have HP := Lib.hid hp
      have HIp := Lib.hid (fun W => HIn.out p W)
      unfold Pt3.val Rc4.val at HIp
      have HYi := Lib.hid (fun h => HY.out i p HP.out h)
      have HNi := Lib.hid (fun h => HNo.out i p HP.out h)
      have hkk := HIl.out i
      have hq1 : h1 < h3 := by have := HE2.out; have := HE3.out; omega
      have hq2 : h3 < wr.heap.size := hbk.lt
      have hq3 : h1 < wr.heap.size := by omega
      have r0 := ((B1.out.below hbl hq1).alloc (.cells #[.int .i64 p.x, .int .i64 p.y, .int .i64 p.w] 35)).cell 0
      have r1 := ((B1.out.below hbl hq1).alloc (.cells #[.int .i64 p.x, .int .i64 p.y, .int .i64 p.w] 35)).cell 1
      have r2 := ((B1.out.below hbl hq1).alloc (.cells #[.int .i64 p.x, .int .i64 p.y, .int .i64 p.w] 35)).cell 2
      have r3 := ((B1.out.below hbl hq1).alloc (.cells #[.int .i64 p.x, .int .i64 p.y, .int .i64 p.w] 35)).cell 3
      have HBA := Lib.hid (hbl.alloc (Nat.le_of_lt hq2) (.cells #[.int .i64 p.x, .int .i64 p.y, .int .i64 p.w] 35))
      have HKA := Lib.hid (hbk.alloc (.cells #[.int .i64 p.x, .int .i64 p.y, .int .i64 p.w] 35))
      have HOA := Lib.hid (hown.alloc (.cells #[.int .i64 p.x, .int .i64 p.y, .int .i64 p.w] 35))
      have HszA := Lib.hid (show (wr.alloc (.cells #[.int .i64 p.x, .int .i64 p.y, .int .i64 p.w] 35)).heap.size = wr.heap.size + 1 by simp)
      generalize insTo ps r i = k at *
      obtain ⟨kn, hkn⟩ : ∃ kn, k.length = kn := ⟨_, rfl⟩
      have HKn := Lib.hid hkn
      rw [hkn] at hkk HKA HOA
      clear hkn hbk hown hbl hp hLr HBk HO HB
      go_wp2_with fail
      generalize wr.alloc (.cells #[.int .i64 p.x, .int .i64 p.y, .int .i64 p.w] 35) = wa at *
      clear r0 r1 r2 r3 hcx hcy hcw
      cases hin : inR r p with
      | false =>
        rw [hin] at HIp
        have HEq := Lib.hid (HNi.out hin)
        clear hin
        refine (HIp.out _).mono ?_
        rintro e w' ⟨rfl, hbw⟩
        have hlt3 : h3 < wa.heap.size := HKA.out.lt
        have HB1 := Lib.hid (HBA.out.trans (hbw.mono (Nat.le_of_lt hlt3)))
        have HK1 := Lib.hid (HKA.out.below hbw hlt3)
        have HO1 := Lib.hid (own_below HOA.out hbw (Nat.le_refl _))
        clear hbw
        go_wp2_with fail
        go_roundw
        case rel => exact ⟨i + 1, by omega, by go_num, by rw [HEq.out]; exact ⟨A1, c1, by rw [HKn.out]; exact HK1.out, by rw [HKn.out]; exact HO1.out, HB1.out⟩⟩
        case measure => simp [intOf]; omega
      | true =>
        rw [hin] at HIp
        have HEq := Lib.hid (HYi.out hin)
        clear hin
        refine (HIp.out _).mono ?_
        rintro e w' ⟨rfl, hbw⟩
        have hlt3 : h3 < wa.heap.size := HKA.out.lt
        have hb1 := HBA.out.trans (hbw.mono (Nat.le_of_lt hlt3))
        have HB1 := Lib.hid hb1
        have hk1 := HKA.out.below hbw hlt3
        have HK1 := Lib.hid hk1
        have HO1 := Lib.hid (own_below HOA.out hbw (Nat.le_refl _))
        have hcb := hk1.cell 0
        have hlt4 : h3 < w'.heap.size := hk1.lt
        clear hbw hk1 hb1
        go_wp2_with (at_builtin; go_loud (refine append_one _ rfl (.tmp 20) (.tmp 22) 23 rfl (h3 + 1) 3 (.int .i64 0) 8 Tryd.underlying23 gint_info rfl (.slice A1 kn c1) kn _ rfl (HO1.out.alloc _) w'.heap.size 1 (.int .i64 i) rfl (by simp) rfl (by simp only [maxLen]; omega) (by omega) (by simp; omega) ?_))
        intro v1 w3 hown1 hg1
        have hlen : (k ++ [i]).length = kn + 1 := by rw [List.length_append, HKn.out]; rfl
        have hb3 : Blk w3 h3 23 [.slice A1 kn c1] := (hg1.block h3 (by simp; omega) (fun e => by have := (HO1.out.lt _ e.symm).1; omega)).trans (HK1.out.alloc _)
        have HB3 := Lib.hid ((HB1.out.alloc (Nat.le_of_lt hlt4) _).grown hg1 (by simp; omega) (fun q hq => by have := (HO1.out.lt q hq).1; omega))
        obtain ⟨A3, c3, rfl, _, _, _, _, _⟩ := own_slice hown1
        have hc3 := hb3.cell 0
        have hf3 := hb3.frozen 0
        have HBx := Lib.hid (hb3.put 0 (.slice A3 (kn + 1) c3))
        have HOx := Lib.hid (own_keep hown1 (w' := w3.setCell ⟨h3, 0, none⟩ (.slice A3 (kn + 1) c3)) (fun q hq => Below.heap_setCell w3 _ _ q (fun e => by have := (hown1.lt q hq).1; simp at e; omega)))
        clear hb3 hown1 hg1
        go_wp2_with fail
        go_roundw
        case rel => exact ⟨i + 1, by omega, by go_num, by
          rw [HEq.out]
          refine ⟨A3, c3, ?_, ?_, HB3.out.setCell (Nat.le_refl _) _⟩
          · rw [hlen]; exact HBx.out
          · rw [hlen]
            have := HOx.out
            unfold natC at this ⊢
            rw [List.map_append]
            exact this⟩
        case measure => simp [intOf]; omega
    · obtain rfl : n = i := by omega
      rw [← HN.out, HAll.out] at hown hbk
      have hcb := hbk.cell 0
      have hle1 : w.heap.size ≤ h3 := by have := HE1.out; have := HE2.out; have := HE3.out; omega
      have hle2 : h2 ≤ h3 := by have := HE3.out; omega
      have hl2 := HLess.out h2 w.heap.size h3 wr w.heap.size A1 c1 hle2 hle1 ((B2.out.below hbl (by have := HE3.out; omega)).cell 0) (by rw [HN.out]; exact (B0.out.below hbl (by have := HE1.out; have := HE2.out; have := HE3.out; omega)).cell 0) hcb hLr (by omega) hown
      have hs2 := HSrt.out (h3 + 1) (.slice A1 (insR ps r).length c1) 25 #[.pointer (some ⟨h2, 0, none⟩), .pointer (some ⟨w.heap.size, 0, none⟩), .pointer (some ⟨h3, 0, none⟩)] wr hown (by have := HIl.out ps.length; rw [HAll.out] at this; have := HN.out; omega) HMem.out (enters_of Tryd.func25 (by kernel_rfl) rfl) hl2
      have HSo := Lib.hid hs2
      have HO2 := Lib.hid hown
      have HBk2 := Lib.hid hbk
      have HBl := Lib.hid hbl
      clear hs2 hl2 hown hbk hbl hLr HBk HO HB
      go_wp2_with fail
      refine HSo.out.mono ?_
      rintro e w4 ⟨rfl, hown4, hg4⟩
      have hk4 : Blk w4 h3 23 [.slice A1 (insR ps r).length c1] := (hg4.block h3 HBk2.out.lt (fun e => by have := (HO2.out.lt _ e.symm).1; omega)).trans HBk2.out
      have hc4 := hk4.cell 0
      have HB4 := Lib.hid ((HB0.out.trans (HBl.out.mono hle1)).grown hg4 (by have := HB0.out.size; have := HBl.out.size; omega) (fun q hq => by have := (HO2.out.lt q hq).1; omega))
      have HO4 := Lib.hid (own_base hown4 (show w.heap.size ≤ h3 + 1 by omega))
      clear hk4 hown4 hg4
      go_wp2_with fail
      go_ret
      exact ⟨_, rfl, by rw [HSl.out]; exact HO4.out, HB4.out⟩
end Go.Proofs.YtpkclmfadlkbeaaDoor
