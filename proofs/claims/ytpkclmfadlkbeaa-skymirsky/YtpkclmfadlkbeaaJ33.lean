/-
  What pointAbove of the keeps returns, and SkyUnder of the keeps, contracts of sky.Under being given: walked over the translated text. SkyUnder of the keeps, the contracts of sky.Under being given: walked over the translated text. SkyMirsky of the keeps, the contract of sky.Layers being given: walked over the translated text. No condition but what each theorem names.
-/
import Derived.Test.YtpkclmfadlkbeaaJ26
import Derived.Test.YtpkclmfadlkbeaaJ09
import Derived.Test.YtpkclmfadlkbeaaJ25
import Derived.Test.YtpkclmfadlkbeaaJ24
import Derived.Deep.RegionWith
import Derived.Deep.RegionHeld3
import Derived.Deep.QuietTactic
import Derived.BigQuiet
namespace Go.Proofs.Ytpkclmfadlkbeaa
open Go.RowKit Go.Sort Words

set_option maxHeartbeats 1000000 in
/-- pointAbove: dominance. -/
theorem above_any (p q : Pt3) (w : World) : Calls Try.prog 12 #[p.val, q.val] w fun e w' => e = .returned (.bool (dom p q)) ∧ Below w.heap.size w w' := by
  obtain ⟨px, py, pw⟩ := p
  obtain ⟨qx, qy, qw⟩ := q
  unfold dom Pt3.val
  have HB := Lib.hid ((bnew w (.cells #[.int .i64 px, .int .i64 py, .int .i64 pw] 30)).alloc (by simp) (.cells #[.int .i64 qx, .int .i64 qy, .int .i64 qw] 30))
  have hs : ∀ x : Int, (x == x) = true := fun x => by simp
  rcases Int.lt_trichotomy qx px with h1 | h1 | h1 <;> rcases Int.lt_trichotomy qy py with h2 | h2 | h2
  all_goals
    have e : (decide (qx ≤ px) && decide (qy ≤ py) && (decide (qx < px) || decide (qy < py))) = decide ((qx ≤ px ∧ qy ≤ py) ∧ (qx < px ∨ qy < py)) := by simp
    first
      | rw [e, decide_eq_true (by omega)]
      | rw [e, decide_eq_false (by omega)]
    clear e
    try subst h1
    try subst h2
    try have n1 : (px == qx) = false := beq_eq_false_iff_ne.2 (by omega)
    try have n2 : (py == qy) = false := beq_eq_false_iff_ne.2 (by omega)
    go_enter Try.func12, Try.ntmps12
    go_wp2
    go_ret
    exact ⟨by first | rfl | simp_all, HB.out⟩
end Go.Proofs.Ytpkclmfadlkbeaa

namespace Go.Proofs.Ytpkclmfadlkbeaa
open Go.RowKit Go.Sort Words

theorem upt_info : (Try.prog.info? 30).map (fun i => (i.zero, i.size, i.bytes)) = some (some (.agg #[.int .i64 0, .int .i64 0, .int .i64 0]), 3, 24) := by kernel_rfl
/-- What sky.Under does where there is the point. -/
def Unders : Prop := ∀ (A : Option Addr) (ps : List Pt3) (c i : Nat) (W : World), Lies W W.heap.size A (ptC ps) → ptsF ps = 0 → i < ps.length → Calls Try.prog 8 #[.slice A ps.length c, .int .i64 i] W (TellsG W (undN ps i : Nat) 0)
theorem ptsF_more {n b : Nat} (hn : n ≤ 148) (h0 : 0 < b) (hb : b ≤ 1000) (l ex : List Pt3) (hx : ex.length ≤ 2) (hxo : ∀ p ∈ ex, ptOk p = true) : ptsF (ptsOf n b l ++ ex) = 0 := by
  unfold ptsF
  rw [if_neg (by rw [List.length_append]; have := ptsOf_le n b l; omega), if_pos]
  rw [List.all_eq_true]
  intro p hp
  rcases List.mem_append.1 hp with h | h
  · have := ptsOf_lim h0 l p h
    unfold ptOk coOk
    simp only [Bool.and_eq_true, decide_eq_true_eq]
    omega
  · exact hxo p h

set_option maxRecDepth 100000 in
set_option maxHeartbeats 4000000 in
theorem kunder_any (hU : Unders) (A : Option Addr) (l : List Pt3) (c : Nat) (a1 a2 : Int) (w : World) (hw : ∀ o ∈ l, o.Fits) (h1 : (Lit.int .i64 a1).wf = true) (h2 : (Lit.int .i64 a2).wf = true) (hL : Lies w w.heap.size A (ptC l)) :
    Calls Try.prog 6 #[.slice A l.length c, .int .i64 a1, .int .i64 a2] w fun e w' => e = .returned (.bool true) ∧ Below w.heap.size w w' := by
  have HP : Hid (Calls Try.prog 10 #[.slice A l.length c, .int .i64 60, .int .i64 12] w (GivesPts w (ptsOf 60 12 l))) := Lib.hid (points_any A l c 60 12 w (by decide) (by decide) (by decide) hw hL)
  unfold GivesPts at HP
  have hps := ptsF_more (n := 60) (b := 12) (by decide) (by decide) (by decide) l [⟨3, 3, 0⟩, ⟨4, 4, 0⟩] (by decide) (by decide)
  have hlen := ptsOf_le 60 12 l
  generalize ptsOf 60 12 l = ps at *
  clear hw hL
  go_enter Try.func6, Try.ntmps6
  go_wp2_with fail
  refine HP.out.mono ?_
  rintro e w1 ⟨v1, rfl, hown, hb1⟩
  have HOwn := Lib.hid hown
  have HB1 := Lib.hid hb1
  have hlt1 := hb1.size
  have HNl := Lib.hid (Blk.new w1 30 (ptC [⟨3, 3, 0⟩, ⟨4, 4, 0⟩])).lies
  have HN1 := Lib.hid (ptC_one [⟨3, 3, 0⟩, ⟨4, 4, 0⟩])
  obtain ⟨k, hk⟩ : ∃ k, ps.length = k := ⟨_, rfl⟩
  have HK := Lib.hid hk
  rw [hk] at HOwn hlen
  clear hown hb1 hk
  go_wp2_with (at_builtin; go_loud (refine append_recs _ rfl (.tmp 17) (.tmp 20) 22 rfl w.heap.size 30 (.agg #[.int .i64 0, .int .i64 0, .int .i64 0]) 3 24 Try.underlying22 upt_info rfl (by decide) v1 k (ptC ps) rfl (HOwn.out.alloc _) (some ⟨w1.heap.size, 0, none⟩) 2 2 (ptC [⟨3, 3, 0⟩, ⟨4, 4, 0⟩]) rfl rfl (fun e => by cases e) HNl.out HN1.out (by simp only [maxLen]; omega) (by omega) (by rw [World.size_alloc]; omega) ?_))
  intro v2 w2 hown2 hg2
  rw [← ptC_append] at hown2
  have HB2 := Lib.hid ((HB1.out.alloc hlt1 _).grown hg2 (by rw [World.size_alloc]; omega) (fun q hq => (HOwn.out.lt q hq).1))
  obtain ⟨qs, hqs⟩ : ∃ qs : List Pt3, ps ++ [⟨3, 3, 0⟩, ⟨4, 4, 0⟩] = qs := ⟨_, rfl⟩
  have hql : qs.length = k + 2 := by rw [← hqs, List.length_append, HK.out]; rfl
  have hl1 : qs[k]? = some ⟨3, 3, 0⟩ := by rw [← hqs, ← HK.out]; simp
  have hl2 : qs[k + 1]? = some ⟨4, 4, 0⟩ := by rw [← hqs, ← HK.out]; simp
  rw [hqs] at hown2 hps
  obtain ⟨A2, c2, rfl, hl, _, _⟩ := own_slice_all hown2
  have hm : domP qs (k + 1) k = true := by unfold domP; rw [ptAt_of hl1, ptAt_of hl2]; rfl
  have hall := und_some (by rw [hql]; omega) hm
  have hz1 : ((k + 2 : Nat) : Int) - 1 = ((k + 1 : Nat) : Int) := by omega
  have HL2 := Lib.hid hl
  have hzn : k + 1 < k + 2 := by omega
  have hnb : k + 2 ≤ 62 := by omega
  clear hqs hown2 hg2 hl hl1 hl2 hm HOwn HB1 HK HNl HN1 hlt1 HP
  generalize k + 1 = z at *
  generalize k + 2 = n at *
  have HQl := Lib.hid hql
  have hn0 : 0 < n := by omega
  have hpa := pick_lt hn0 a1
  have hpb := pick_lt hn0 a2
  have HPa := Lib.hid (fun W => pick_any a1 n W hn0 (by omega) h1)
  have HPb := Lib.hid (fun W => pick_any a2 n W hn0 (by omega) h2)
  generalize pick n a1 = i at *
  generalize pick n a2 = j at *
  have HU := Lib.hid (fun x (hx : x < n) W (h : Below w2.heap.size w2 W) => hU A2 qs c2 x W (HL2.out.on h) hps (by rw [HQl.out]; exact hx))
  rw [HQl.out] at HU
  have hui : undN qs i < n := by rw [← HQl.out]; exact und_lt (by rw [HQl.out]; exact hpa)
  have hmore := fun h => und_more (ps := qs) (a := i) (b := j) (by rw [HQl.out]; exact hpb) h
  obtain ⟨b, o, rfl, hbb, hx1, hy1, hw1⟩ := pts_at HL2.out (ptAt_get (by rw [HQl.out]; exact hpa))
  obtain ⟨b', o', e1, _, hx2, hy2, hw2⟩ := pts_at HL2.out (ptAt_get (ps := qs) (i := j) (by rw [HQl.out]; exact hpb))
  cases e1
  have HA := Lib.hid (fun W => above_any (ptAt qs i) (ptAt qs j) W)
  unfold Pt3.val at HA
  rw [show dom (ptAt qs i) (ptAt qs j) = domP qs i j from rfl] at HA
  have HC := Lib.hid (fun W (h : Below w2.heap.size w2 W) => show (W.cell? ⟨b, o + i * 3, none⟩ = some (.int .i64 (ptAt qs i).x) ∧ W.cell? ⟨b, o + i * 3 + 1, none⟩ = some (.int .i64 (ptAt qs i).y) ∧ W.cell? ⟨b, o + i * 3 + 2, none⟩ = some (.int .i64 (ptAt qs i).w)) ∧ W.cell? ⟨b, o + j * 3, none⟩ = some (.int .i64 (ptAt qs j).x) ∧ W.cell? ⟨b, o + j * 3 + 1, none⟩ = some (.int .i64 (ptAt qs j).y) ∧ W.cell? ⟨b, o + j * 3 + 2, none⟩ = some (.int .i64 (ptAt qs j).w) from
    ⟨⟨(h.cell (p := ⟨b, o + i * 3, none⟩) hbb).trans hx1, (h.cell (p := ⟨b, o + i * 3 + 1, none⟩) hbb).trans hy1, (h.cell (p := ⟨b, o + i * 3 + 2, none⟩) hbb).trans hw1⟩, (h.cell (p := ⟨b, o + j * 3, none⟩) hbb).trans hx2, (h.cell (p := ⟨b, o + j * 3 + 1, none⟩) hbb).trans hy2, (h.cell (p := ⟨b, o + j * 3 + 2, none⟩) hbb).trans hw2⟩)
  clear hx1 hy1 hw1 hx2 hy2 hw2 hU hps hql hbb h1 h2
  generalize ptAt qs i = P at *
  generalize ptAt qs j = R at *
  obtain ⟨t, ht⟩ : ∃ t, domP qs i j = t := ⟨_, rfl⟩
  rw [ht] at HA hmore
  have HU1 := Lib.hid (HU.out i hpa)
  have HU2 := Lib.hid (HU.out j hpb)
  have HU3 := Lib.hid (HU.out z hzn)
  have hujn : undN qs j < n := by rw [← HQl.out]; exact und_lt (by rw [HQl.out]; exact hpb)
  generalize undN qs i = u at *
  generalize undN qs j = v at *
  generalize undN qs z = y at *
  clear ht HU HL2 HQl
  have hin : (i : Int) < (n : Int) := Int.ofNat_lt.2 hpa
  have hjn : (j : Int) < (n : Int) := Int.ofNat_lt.2 hpb
  have hy1 : (1 : Int) ≤ (y : Int) := by omega
  have hun : (u : Int) < (n : Int) := Int.ofNat_lt.2 hui
  go_wp2_with fail
  refine (HPa.out _).mono ?_
  rintro e w3 ⟨rfl, rfl⟩
  go_wp2_with fail
  refine (HPb.out _).mono ?_
  rintro e w3 ⟨rfl, rfl⟩
  go_wp2_with fail
  refine (HU1.out _ (Below.refl _ _)).mono ?_
  rintro e w3 ⟨rfl, hb3⟩
  have HB3 := Lib.hid hb3
  clear hb3
  go_wp2_with fail
  refine (HU2.out _ HB3.out).mono ?_
  rintro e w4 ⟨rfl, hb4⟩
  have HB4 := Lib.hid (chain HB3.out hb4)
  clear hb4
  go_wp2_with fail
  refine (HU3.out _ HB4.out).mono ?_
  rintro e w5 ⟨rfl, hb5⟩
  have HB5 := Lib.hid (chain HB4.out hb5)
  clear hb5
  go_wp2_with fail
  obtain ⟨⟨d0, d1, d2⟩, d3, d4, d5⟩ := HC.out w5 HB5.out
  cases t with
  | true =>
    have hvu : (v : Int) < (u : Int) := by have := hmore rfl; omega
    clear hmore
    go_region_held3 (fun W => (W.cell? ⟨b, o + i * 3, none⟩ = some (.int .i64 P.x) ∧ W.cell? ⟨b, o + i * 3 + 1, none⟩ = some (.int .i64 P.y) ∧ W.cell? ⟨b, o + i * 3 + 2, none⟩ = some (.int .i64 P.w)) ∧ W.cell? ⟨b, o + j * 3, none⟩ = some (.int .i64 R.x) ∧ W.cell? ⟨b, o + j * 3 + 1, none⟩ = some (.int .i64 R.y) ∧ W.cell? ⟨b, o + j * 3 + 2, none⟩ = some (.int .i64 R.w))
      (first | exact HC.out _ HB5.out.drew | exact HC.out _ HB6.out)
      ((go_at_call 12; refine (HA.out _).mono ?_; rintro e w6 ⟨rfl, hb6⟩; have HB6 := Lib.hid (chain HB5.out.drew hb6)))
    all_goals
      go_wp2_with fail
      go_ret
      exact ⟨by simp, chain HB2.out HB6.out⟩
  | false =>
    refine wp_region_held_drew (S := fun w' => (w'.cell? ⟨b, o + i * 3, none⟩ = some (.int .i64 P.x) ∧ w'.cell? ⟨b, o + i * 3 + 1, none⟩ = some (.int .i64 P.y) ∧ w'.cell? ⟨b, o + i * 3 + 2, none⟩ = some (.int .i64 P.w)) ∧ w'.cell? ⟨b, o + j * 3, none⟩ = some (.int .i64 R.x) ∧ w'.cell? ⟨b, o + j * 3 + 1, none⟩ = some (.int .i64 R.y) ∧ w'.cell? ⟨b, o + j * 3 + 2, none⟩ = some (.int .i64 R.w)) (by kernel_rfl) (HC.out w5 HB5.out) (fun hHeld1 => ?_)
    refine wpAnyH_take (i := 0) (oi := ⟨some 50, _, _, _, _, _⟩) (v := ?_) rfl (by kernel_rfl) (by kernel_rfl) (by kernel_rfl) (fun _ _ _ h => h) (Or.inl ⟨by kernel_rfl, ?_⟩) (by assumption) ?_
    rotate_left
    · (intro w hSw; (try dsimp only at hSw); go_simp; (try with_reducible rfl))
    try simp only [Act.put, List.setIfInBounds_toArray, List.set_cons_zero, List.set_cons_succ]
    refine wpAnyH_take (i := 1) (oi := ⟨some 51, _, _, _, _, _⟩) (v := ?_) rfl (by kernel_rfl) (by kernel_rfl) (by kernel_rfl) (fun _ _ _ h => h) (Or.inl ⟨by kernel_rfl, ?_⟩) (by assumption) ?_
    rotate_left
    · (intro w hSw; (try dsimp only at hSw); go_simp; (try with_reducible rfl))
    try simp only [Act.put, List.setIfInBounds_toArray, List.set_cons_zero, List.set_cons_succ]
    refine wpAnyH_take (i := 2) (oi := ⟨some 52, _, _, _, _, _⟩) (v := ?_) rfl (by kernel_rfl) (by kernel_rfl) (by kernel_rfl) (fun _ _ _ h => h) (Or.inl ⟨by kernel_rfl, ?_⟩) (by assumption) ?_
    rotate_left
    · (intro w hSw; (try dsimp only at hSw); go_simp; (try with_reducible rfl))
    try simp only [Act.put, List.setIfInBounds_toArray, List.set_cons_zero, List.set_cons_succ]
    refine wpAnyH_take (i := 3) (oi := ⟨some 53, _, _, _, _, _⟩) (v := ?_) rfl (by kernel_rfl) (by kernel_rfl) (by kernel_rfl) (fun _ _ _ h => h) (Or.inl ⟨by kernel_rfl, ?_⟩) (by assumption) ?_
    rotate_left
    · (intro w hSw; (try dsimp only at hSw); go_simp; (try with_reducible rfl))
    try simp only [Act.put, List.setIfInBounds_toArray, List.set_cons_zero, List.set_cons_succ]
    refine wpAnyH_take (i := 4) (oi := ⟨some 54, _, _, _, _, _⟩) (v := ?_) rfl (by kernel_rfl) (by kernel_rfl) (by kernel_rfl) (fun _ _ _ h => h) (Or.inl ⟨by kernel_rfl, ?_⟩) (by assumption) ?_
    rotate_left
    · (intro w hSw; (try dsimp only at hSw); go_simp; (try with_reducible rfl))
    try simp only [Act.put, List.setIfInBounds_toArray, List.set_cons_zero, List.set_cons_succ]
    refine wpAnyH_take (i := 5) (oi := ⟨some 55, _, _, _, _, _⟩) (v := ?_) rfl (by kernel_rfl) (by kernel_rfl) (by kernel_rfl) (fun _ _ _ h => h) (Or.inl ⟨by kernel_rfl, ?_⟩) (by assumption) ?_
    rotate_left
    · (intro w hSw; (try dsimp only at hSw); go_simp; (try with_reducible rfl))
    try simp only [Act.put, List.setIfInBounds_toArray, List.set_cons_zero, List.set_cons_succ]
    refine wpAnyH_take (i := 6) (oi := ⟨some 56, _, _, _, _, _⟩) (v := ?_) rfl (by kernel_rfl) (by kernel_rfl) (by kernel_rfl) (fun _ _ _ h => h) (Or.inl ⟨by kernel_rfl, ?_⟩) (by assumption) ?_
    rotate_left
    · (intro w hSw; (try dsimp only at hSw); go_simp; (try with_reducible rfl))
    try simp only [Act.put, List.setIfInBounds_toArray, List.set_cons_zero, List.set_cons_succ]
    refine wpAnyH_take (i := 7) (oi := ⟨some 57, _, _, _, _, _⟩) (v := ?_) rfl (by kernel_rfl) (by kernel_rfl) (by kernel_rfl) (fun _ _ _ h => h) (Or.inl ⟨by kernel_rfl, ?_⟩) (by assumption) ?_
    rotate_left
    · (intro w hSw; (try dsimp only at hSw); go_simp; (try with_reducible rfl))
    try simp only [Act.put, List.setIfInBounds_toArray, List.set_cons_zero, List.set_cons_succ]
    refine wpAnyH_take (i := 8) (oi := ⟨some 58, _, _, _, _, _⟩) (v := ?_) rfl (by kernel_rfl) (by kernel_rfl) (by kernel_rfl) (fun _ _ _ h => h) (Or.inl ⟨by kernel_rfl, ?_⟩) (by assumption) ?_
    rotate_left
    · (intro w hSw; (try dsimp only at hSw); go_simp; (try with_reducible rfl))
    try simp only [Act.put, List.setIfInBounds_toArray, List.set_cons_zero, List.set_cons_succ]
    refine wpAnyH_take (i := 9) (oi := ⟨some 59, _, _, _, _, _⟩) (v := ?_) rfl (by kernel_rfl) (by kernel_rfl) (by kernel_rfl) (fun _ _ _ h => h) (Or.inl ⟨by kernel_rfl, ?_⟩) (by assumption) ?_
    rotate_left
    · (intro w hSw; (try dsimp only at hSw); go_simp; (try with_reducible rfl))
    try simp only [Act.put, List.setIfInBounds_toArray, List.set_cons_zero, List.set_cons_succ]
    refine wpAnyH_take (i := 10) (oi := ⟨some 60, _, _, _, _, _⟩) (v := ?_) rfl (by kernel_rfl) (by kernel_rfl) (by kernel_rfl) (fun _ _ _ h => h) (Or.inl ⟨by kernel_rfl, ?_⟩) (by assumption) ?_
    rotate_left
    · (intro w hSw; (try dsimp only at hSw); go_simp; (try with_reducible rfl))
    try simp only [Act.put, List.setIfInBounds_toArray, List.set_cons_zero, List.set_cons_succ]
    refine wpAnyH_take (i := 11) (oi := ⟨some 61, _, _, _, _, _⟩) (v := ?_) rfl (by kernel_rfl) (by kernel_rfl) (by kernel_rfl) (fun _ _ _ h => h) (Or.inl ⟨by kernel_rfl, ?_⟩) (by assumption) ?_
    rotate_left
    · (intro w hSw; (try dsimp only at hSw); go_simp; (try with_reducible rfl))
    try simp only [Act.put, List.setIfInBounds_toArray, List.set_cons_zero, List.set_cons_succ]
    refine wpAnyH_take (i := 12) (oi := ⟨some 62, _, _, _, _, _⟩) (v := ?_) rfl (by kernel_rfl) (by kernel_rfl) (by kernel_rfl) (fun _ _ _ h => h) (Or.inl ⟨by kernel_rfl, ?_⟩) (by assumption) ?_
    rotate_left
    · (intro w hSw; (try dsimp only at hSw); go_simp; (try with_reducible rfl))
    try simp only [Act.put, List.setIfInBounds_toArray, List.set_cons_zero, List.set_cons_succ]
    refine wpAnyH_take (i := 13) (oi := ⟨some 63, _, _, _, _, _⟩) (v := ?_) rfl (by kernel_rfl) (by kernel_rfl) (by kernel_rfl) (fun _ _ _ h => h) (Or.inl ⟨by kernel_rfl, ?_⟩) (by assumption) ?_
    rotate_left
    · (intro w hSw; (try dsimp only at hSw); go_simp; (try with_reducible rfl))
    try simp only [Act.put, List.setIfInBounds_toArray, List.set_cons_zero, List.set_cons_succ]
    refine wpAnyH_take (i := 14) (oi := ⟨some 64, _, _, _, _, _⟩) (v := ?_) rfl (by kernel_rfl) (by kernel_rfl) (by kernel_rfl) (fun _ _ _ h => h) (Or.inl ⟨by kernel_rfl, ?_⟩) (by assumption) ?_
    rotate_left
    · (intro w hSw; (try dsimp only at hSw); go_simp; (try with_reducible rfl))
    try simp only [Act.put, List.setIfInBounds_toArray, List.set_cons_zero, List.set_cons_succ]
    refine wpAnyH_take (i := 15) (oi := ⟨some 65, _, _, _, _, _⟩) (v := ?_) rfl (by kernel_rfl) (by kernel_rfl) (by kernel_rfl) (fun _ _ _ h => h) (Or.inl ⟨by kernel_rfl, ?_⟩) (by assumption) ?_
    rotate_left
    · (intro w hSw; (try dsimp only at hSw); go_simp; (try with_reducible rfl))
    try simp only [Act.put, List.setIfInBounds_toArray, List.set_cons_zero, List.set_cons_succ]
    refine wpAnyH_take (i := 16) (oi := ⟨some 66, _, _, _, _, _⟩) (v := ?_) rfl (by kernel_rfl) (by kernel_rfl) (by kernel_rfl) (fun _ _ _ h => h) (Or.inl ⟨by kernel_rfl, ?_⟩) (by assumption) ?_
    rotate_left
    · (intro w hSw; (try dsimp only at hSw); go_simp; (try with_reducible rfl))
    try simp only [Act.put, List.setIfInBounds_toArray, List.set_cons_zero, List.set_cons_succ]
    refine wpAnyH_take (i := 17) (oi := ⟨some 67, _, _, _, _, _⟩) (v := ?_) rfl (by kernel_rfl) (by kernel_rfl) (by kernel_rfl) (fun _ _ _ h => h) (Or.inl ⟨by kernel_rfl, ?_⟩) (by assumption) ?_
    rotate_left
    · (intro w hSw; (try dsimp only at hSw); go_simp; (try with_reducible rfl))
    try simp only [Act.put, List.setIfInBounds_toArray, List.set_cons_zero, List.set_cons_succ]
    refine wpAnyH_take (i := 18) (oi := ⟨some 68, _, _, _, _, _⟩) (v := ?_) rfl (by kernel_rfl) (by kernel_rfl) (by kernel_rfl) (fun _ _ _ h => h) (Or.inl ⟨by kernel_rfl, ?_⟩) (by assumption) ?_
    rotate_left
    · (intro w hSw; (try dsimp only at hSw); go_simp; (try with_reducible rfl))
    try simp only [Act.put, List.setIfInBounds_toArray, List.set_cons_zero, List.set_cons_succ]
    refine wpAnyH_take (i := 19) (oi := ⟨some 69, _, _, _, _, _⟩) (v := ?_) rfl (by kernel_rfl) (by kernel_rfl) (by kernel_rfl) (fun _ _ _ h => h) (Or.inl ⟨by kernel_rfl, ?_⟩) (by assumption) ?_
    rotate_left
    · (intro w hSw; (try dsimp only at hSw); go_simp; (try with_reducible rfl))
    try simp only [Act.put, List.setIfInBounds_toArray, List.set_cons_zero, List.set_cons_succ]
    refine wpAnyH_take (i := 20) (oi := ⟨some 70, _, _, _, _, _⟩) (v := ?_) rfl (by kernel_rfl) (by kernel_rfl) (by kernel_rfl) (fun _ _ _ h => h) (Or.inl ⟨by kernel_rfl, ?_⟩) (by assumption) ?_
    rotate_left
    · (intro w hSw; (try dsimp only at hSw); go_simp; (try with_reducible rfl))
    try simp only [Act.put, List.setIfInBounds_toArray, List.set_cons_zero, List.set_cons_succ]
    refine wpAnyH_take (i := 21) (oi := ⟨some 71, _, _, _, _, _⟩) (v := ?_) rfl (by kernel_rfl) (by kernel_rfl) (by kernel_rfl) (fun _ _ _ h => h) (Or.inl ⟨by kernel_rfl, ?_⟩) (by assumption) ?_
    rotate_left
    · (intro w hSw; (try dsimp only at hSw); go_simp; (try with_reducible rfl))
    try simp only [Act.put, List.setIfInBounds_toArray, List.set_cons_zero, List.set_cons_succ]
    refine wpAnyH_take (i := 22) (oi := ⟨some 72, _, _, _, _, _⟩) (v := ?_) rfl (by kernel_rfl) (by kernel_rfl) (by kernel_rfl) (fun _ _ _ h => h) (Or.inl ⟨by kernel_rfl, ?_⟩) (by assumption) ?_
    rotate_left
    · (intro w hSw; (try dsimp only at hSw); go_simp; (try with_reducible rfl))
    try simp only [Act.put, List.setIfInBounds_toArray, List.set_cons_zero, List.set_cons_succ]
    refine wpAnyH_take (i := 23) (oi := ⟨some 73, _, _, _, _, _⟩) (v := ?_) rfl (by kernel_rfl) (by kernel_rfl) (by kernel_rfl) (fun _ _ _ h => h) (Or.inl ⟨by kernel_rfl, ?_⟩) (by assumption) ?_
    rotate_left
    · (intro w hSw; (try dsimp only at hSw); go_simp; (try with_reducible rfl))
    try simp only [Act.put, List.setIfInBounds_toArray, List.set_cons_zero, List.set_cons_succ]
    refine wpAnyH_take (i := 24) (oi := ⟨some 74, _, _, _, _, _⟩) (v := ?_) rfl (by kernel_rfl) (by kernel_rfl) (by kernel_rfl) (fun _ _ _ h => h) (Or.inl ⟨by kernel_rfl, ?_⟩) (by assumption) ?_
    rotate_left
    · (intro w hSw; (try dsimp only at hSw); go_simp; (try with_reducible rfl))
    try simp only [Act.put, List.setIfInBounds_toArray, List.set_cons_zero, List.set_cons_succ]
    refine wpAnyH_take (i := 25) (oi := ⟨some 75, _, _, _, _, _⟩) (v := ?_) rfl (by kernel_rfl) (by kernel_rfl) (by kernel_rfl) (fun _ _ _ h => h) (Or.inl ⟨by kernel_rfl, ?_⟩) (by assumption) ?_
    rotate_left
    · (intro w hSw; (try dsimp only at hSw); go_simp; (try with_reducible rfl))
    try simp only [Act.put, List.setIfInBounds_toArray, List.set_cons_zero, List.set_cons_succ]
    refine wpAnyH_take (i := 26) (oi := ⟨some 76, _, _, _, _, _⟩) (v := ?_) rfl (by kernel_rfl) (by kernel_rfl) (by kernel_rfl) (fun _ _ _ h => h) (Or.inl ⟨by kernel_rfl, ?_⟩) (by assumption) ?_
    rotate_left
    · (intro w hSw; (try dsimp only at hSw); go_simp; (try with_reducible rfl))
    try simp only [Act.put, List.setIfInBounds_toArray, List.set_cons_zero, List.set_cons_succ]
    refine wpAnyH_take (i := 27) (oi := ⟨some 77, _, _, _, _, _⟩) (v := ?_) rfl (by kernel_rfl) (by kernel_rfl) (by kernel_rfl) (fun _ _ _ h => h) (Or.inl ⟨by kernel_rfl, ?_⟩) (by assumption) ?_
    rotate_left
    · (intro w hSw; (try dsimp only at hSw); go_simp; (try with_reducible rfl))
    try simp only [Act.put, List.setIfInBounds_toArray, List.set_cons_zero, List.set_cons_succ]
    refine wpAnyH_take (i := 28) (oi := ⟨some 78, _, _, _, _, _⟩) (v := ?_) rfl (by kernel_rfl) (by kernel_rfl) (by kernel_rfl) (fun _ _ _ h => h) (Or.inl ⟨by kernel_rfl, ?_⟩) (by assumption) ?_
    rotate_left
    · (intro w hSw; (try dsimp only at hSw); go_simp; (try with_reducible rfl))
    try simp only [Act.put, List.setIfInBounds_toArray, List.set_cons_zero, List.set_cons_succ]
    refine wpAnyH_take (i := 29) (oi := ⟨some 79, _, _, _, _, _⟩) (v := ?_) rfl (by kernel_rfl) (by kernel_rfl) (by kernel_rfl) (fun _ _ _ h => h) (Or.inl ⟨by kernel_rfl, ?_⟩) (by assumption) ?_
    rotate_left
    · (intro w hSw; (try dsimp only at hSw); go_simp; (try with_reducible rfl))
    try simp only [Act.put, List.setIfInBounds_toArray, List.set_cons_zero, List.set_cons_succ]
    refine wpAnyH_take (i := 30) (oi := ⟨some 80, _, _, _, _, _⟩) (v := ?_) rfl (by kernel_rfl) (by kernel_rfl) (by kernel_rfl) (fun _ _ _ h => h) (Or.inl ⟨by kernel_rfl, ?_⟩) (by assumption) ?_
    rotate_left
    · (intro w hSw; (try dsimp only at hSw); go_simp; (try with_reducible rfl))
    try simp only [Act.put, List.setIfInBounds_toArray, List.set_cons_zero, List.set_cons_succ]
    refine wpAnyH_take (i := 31) (oi := ⟨some 81, _, _, _, _, _⟩) (v := ?_) rfl (by kernel_rfl) (by kernel_rfl) (by kernel_rfl) (fun _ _ _ h => h) (Or.inl ⟨by kernel_rfl, ?_⟩) (by assumption) ?_
    rotate_left
    · (intro w hSw; (try dsimp only at hSw); go_simp; (try with_reducible rfl))
    try simp only [Act.put, List.setIfInBounds_toArray, List.set_cons_zero, List.set_cons_succ]
    refine wpAnyH_take (i := 32) (oi := ⟨some 82, _, _, _, _, _⟩) (v := ?_) rfl (by kernel_rfl) (by kernel_rfl) (by kernel_rfl) (fun _ _ _ h => h) (Or.inl ⟨by kernel_rfl, ?_⟩) (by assumption) ?_
    rotate_left
    · (intro w hSw; (try dsimp only at hSw); go_simp; (try with_reducible rfl))
    try simp only [Act.put, List.setIfInBounds_toArray, List.set_cons_zero, List.set_cons_succ]
    refine wpAnyH_ready (rs := [33]) (by kernel_rfl) (by simp) ?_
    refine AllReadyH.cons (o := ⟨some 83, _, _, _, _, _⟩) rfl (fun K hK => ?_) AllReadyH.nil
    go_simp
    refine (HA.out _).mono ?_
    rintro e w6 ⟨rfl, hb6⟩
    have HB6 := Lib.hid (chain HB5.out.drew hb6)
    go_wp2_with fail
    refine hK.out _ _ (HC.out _ HB6.out) (fun hHeld2 => ?_)
    clear hK K
    try simp only [Act.put, List.setIfInBounds_toArray, List.set_cons_zero, List.set_cons_succ]
    refine wpAnyH_take (i := 34) (oi := ⟨some 84, _, _, _, _, _⟩) (v := ?_) rfl (by kernel_rfl) (by kernel_rfl) (by kernel_rfl) (fun _ _ _ h => h) (Or.inl ⟨by kernel_rfl, ?_⟩) (by assumption) ?_
    rotate_left
    · (intro w hSw; (try dsimp only at hSw); go_simp; (try with_reducible rfl))
    try simp only [Act.put, List.setIfInBounds_toArray, List.set_cons_zero, List.set_cons_succ]
    refine wpAnyH_take (i := 35) (oi := ⟨some 85, _, _, _, _, _⟩) (v := ?_) rfl (by kernel_rfl) (by kernel_rfl) (by kernel_rfl) (fun _ _ _ h => h) (Or.inl ⟨by kernel_rfl, ?_⟩) (by assumption) ?_
    rotate_left
    · (intro w hSw; (try dsimp only at hSw); go_simp; (try with_reducible rfl))
    try simp only [Act.put, List.setIfInBounds_toArray, List.set_cons_zero, List.set_cons_succ]
    refine wpAnyH_take (i := 36) (oi := ⟨some 86, _, _, _, _, _⟩) (v := undef) rfl (by kernel_rfl) (by kernel_rfl) (by kernel_rfl) (fun _ _ _ h => h) (Or.inr ⟨by kernel_rfl, rfl⟩) (by assumption) ?_
    try simp only [Act.put, List.setIfInBounds_toArray, List.set_cons_zero, List.set_cons_succ]
    refine wpAnyH_take (i := 37) (oi := ⟨some 87, _, _, _, _, _⟩) (v := undef) rfl (by kernel_rfl) (by kernel_rfl) (by kernel_rfl) (fun _ _ _ h => h) (Or.inr ⟨by kernel_rfl, rfl⟩) (by assumption) ?_
    try simp only [Act.put, List.setIfInBounds_toArray, List.set_cons_zero, List.set_cons_succ]
    refine wpAnyH_take (i := 38) (oi := ⟨some 88, _, _, _, _, _⟩) (v := undef) rfl (by kernel_rfl) (by kernel_rfl) (by kernel_rfl) (fun _ _ _ h => h) (Or.inr ⟨by kernel_rfl, rfl⟩) (by assumption) ?_
    try simp only [Act.put, List.setIfInBounds_toArray, List.set_cons_zero, List.set_cons_succ]
    refine wpAnyH_take (i := 39) (oi := ⟨some 89, _, _, _, _, _⟩) (v := ?_) rfl (by kernel_rfl) (by kernel_rfl) (by kernel_rfl) (fun _ _ _ h => h) (Or.inl ⟨by kernel_rfl, ?_⟩) (by assumption) ?_
    rotate_left
    · (intro w hSw; (try dsimp only at hSw); go_simp; (try with_reducible rfl))
    try simp only [Act.put, List.setIfInBounds_toArray, List.set_cons_zero, List.set_cons_succ]
    refine wpAnyH_take (i := 40) (oi := ⟨some 90, _, _, _, _, _⟩) (v := ?_) rfl (by kernel_rfl) (by kernel_rfl) (by kernel_rfl) (fun _ _ _ h => h) (Or.inl ⟨by kernel_rfl, ?_⟩) (by assumption) ?_
    rotate_left
    · (intro w hSw; (try dsimp only at hSw); go_simp; (try with_reducible rfl))
    try simp only [Act.put, List.setIfInBounds_toArray, List.set_cons_zero, List.set_cons_succ]
    refine wpAnyH_take (i := 41) (oi := ⟨some 6, _, _, _, _, _⟩) (v := ?_) rfl (by kernel_rfl) (by kernel_rfl) (by kernel_rfl) (fun _ _ _ h => h) (Or.inl ⟨by kernel_rfl, ?_⟩) (by assumption) ?_
    rotate_left
    · (intro w hSw; (try dsimp only at hSw); go_simp; (try with_reducible rfl))
    try simp only [Act.put, List.setIfInBounds_toArray, List.set_cons_zero, List.set_cons_succ]
    refine wpAnyH_done (by kernel_rfl) ?_ _
    go_wp2_with fail
    go_ret
    exact ⟨by simp, chain HB2.out HB6.out⟩
end Go.Proofs.Ytpkclmfadlkbeaa

namespace Go.Proofs.Ytpkclmfadlkbeaa
open Go.RowKit Go.Sort Words

/-- What sky.Layers does with points that may be. -/
def Laysts : Prop := ∀ (A : Option Addr) (ps : List Pt3) (c : Nat) (W : World), ptsF ps = 0 → Lies W W.heap.size A (ptC ps) → Calls Try.prog 13 #[.slice A ps.length c] W fun e w' => ∃ f, IsLay ps f ∧ GivesGL W ((List.range ps.length).map f) e w'

/-- Is one of the first layers more than 0? -/
def someTo (f : Nat → Nat) (a : Nat) : Bool := (List.range a).any fun x => decide (0 < f x)
theorem someTo_step (f : Nat → Nat) (a : Nat) : someTo f (a + 1) = (someTo f a || decide (0 < f a)) := by
  unfold someTo
  rw [List.range_succ, List.any_append]
  simp
theorem someTo_yes {f : Nat → Nat} {n x : Nat} (hx : x < n) (h : 0 < f x) : someTo f n = true := List.any_eq_true.2 ⟨x, List.mem_range.2 hx, by simpa using h⟩

/-- What is known of the next one of a chain when y points have been looked at: none so far, or one. -/
def Nxt (ps : List Pt3) (f : Nat → Nat) (n x r y : Nat) (q : Int) : Prop := (q = -1 ∧ ∀ y', y' < y → ¬ (f y' = r ∧ domP ps y' x = true)) ∨ ∃ y' : Nat, q = y' ∧ y' < n ∧ f y' = r
theorem Nxt.miss {ps : List Pt3} {f : Nat → Nat} {n x r y : Nat} {q : Int} (h : Nxt ps f n x r y q) (hm : ¬ (f y = r ∧ domP ps y x = true)) : Nxt ps f n x r (y + 1) q := by
  rcases h with ⟨h1, h2⟩ | h
  · refine .inl ⟨h1, fun y' hy => ?_⟩
    by_cases e : y' = y
    · rw [e]; exact hm
    · exact h2 y' (by omega)
  · exact .inr h
theorem Nxt.done {ps : List Pt3} {f : Nat → Nat} {n x r : Nat} {q : Int} (h : Nxt ps f n x r n q) (he : ∃ k, k < n ∧ domP ps k x = true ∧ f k = r) : ∃ y' : Nat, q = y' ∧ y' < n ∧ f y' = r := by
  rcases h with ⟨_, h2⟩ | h
  · obtain ⟨k, h3, h4, h5⟩ := he
    exact absurd ⟨h5, h4⟩ (h2 k h3)
  · exact h

set_option maxRecDepth 100000 in
set_option maxHeartbeats 4000000 in
theorem kmirsky_any (hS : Laysts) (A : Option Addr) (l : List Pt3) (c : Nat) (a1 : Int) (w : World) (hw : ∀ o ∈ l, o.Fits) (h1 : (Lit.int .i64 a1).wf = true) (hL : Lies w w.heap.size A (ptC l)) :
    Calls Try.prog 5 #[.slice A l.length c, .int .i64 a1] w fun e w' => e = .returned (.bool true) ∧ Below w.heap.size w w' := by
  have HP : Hid (Calls Try.prog 10 #[.slice A l.length c, .int .i64 50, .int .i64 12] w (GivesPts w (ptsOf 50 12 l))) := Lib.hid (points_any A l c 50 12 w (by decide) (by decide) (by decide) hw hL)
  unfold GivesPts at HP
  have hps := ptsF_more (n := 50) (b := 12) (by decide) (by decide) (by decide) l [⟨3, 3, 0⟩, ⟨4, 3, 0⟩] (by decide) (by decide)
  have hlen := ptsOf_le 50 12 l
  generalize ptsOf 50 12 l = ps at *
  clear hw hL
  go_enter Try.func5, Try.ntmps5
  go_wp2_with fail
  refine HP.out.mono ?_
  rintro e w1 ⟨v1, rfl, hown, hb1⟩
  have HOwn := Lib.hid hown
  have HB1 := Lib.hid hb1
  have hlt1 := hb1.size
  have HNl := Lib.hid (Blk.new w1 30 (ptC [⟨3, 3, 0⟩, ⟨4, 3, 0⟩])).lies
  have HN1 := Lib.hid (ptC_one [⟨3, 3, 0⟩, ⟨4, 3, 0⟩])
  obtain ⟨k, hk⟩ : ∃ k, ps.length = k := ⟨_, rfl⟩
  have HK := Lib.hid hk
  rw [hk] at HOwn hlen
  clear hown hb1 hk
  go_wp2_with (at_builtin; go_loud (refine append_recs _ rfl (.tmp 16) (.tmp 19) 22 rfl w.heap.size 30 (.agg #[.int .i64 0, .int .i64 0, .int .i64 0]) 3 24 Try.underlying22 upt_info rfl (by decide) v1 k (ptC ps) rfl (HOwn.out.alloc _) (some ⟨w1.heap.size, 0, none⟩) 2 2 (ptC [⟨3, 3, 0⟩, ⟨4, 3, 0⟩]) rfl rfl (fun e => by cases e) HNl.out HN1.out (by simp only [maxLen]; omega) (by omega) (by rw [World.size_alloc]; omega) ?_))
  intro v2 w2 hown2 hg2
  rw [← ptC_append] at hown2
  have HB2 := Lib.hid ((HB1.out.alloc hlt1 _).grown hg2 (by rw [World.size_alloc]; omega) (fun q hq => (HOwn.out.lt q hq).1))
  obtain ⟨qs, hqs⟩ : ∃ qs : List Pt3, ps ++ [⟨3, 3, 0⟩, ⟨4, 3, 0⟩] = qs := ⟨_, rfl⟩
  have hql : qs.length = k + 2 := by rw [← hqs, List.length_append, HK.out]; rfl
  have hl1 : qs[k]? = some ⟨3, 3, 0⟩ := by rw [← hqs, ← HK.out]; simp
  have hl2 : qs[k + 1]? = some ⟨4, 3, 0⟩ := by rw [← hqs, ← HK.out]; simp
  have hm0 : domP qs (k + 1) k = true := by unfold domP; rw [ptAt_of hl1, ptAt_of hl2]; rfl
  have hkn : k < k + 2 := by omega
  have hzn : k + 1 < k + 2 := by omega
  rw [hqs] at hown2 hps
  obtain ⟨A2, c2, rfl, hl, hnil2, _⟩ := own_slice_all hown2
  have HL2 := Lib.hid hl
  have hnb : k + 2 ≤ 52 := by omega
  have hn0 : 0 < k + 2 := by omega
  have HN2 := Lib.hid hnil2
  clear hqs hown2 hg2 hl HOwn HB1 HK HNl HN1 hlt1 HP hnil2
  generalize k + 2 = n at *
  have HQl := Lib.hid hql
  have HPo := Lib.hid (ptC_one qs)
  have HPl := Lib.hid (show (ptC qs).length = n * 3 by rw [ptC_length, hql])
  have hps2 := hps
  have HS := Lib.hid (fun A c W hA => hS A qs c W hps2 hA)
  rw [hql] at HS
  have HV := Lib.hid hps
  unfold GivesGL at HS
  simp only [List.length_map, List.length_range] at HS
  clear hS hps hps2
  generalize k + 1 = z at *
  go_wp2_with (at_builtin; go_loud (refine append_recs _ rfl (.const (.slice none 0 0)) (.tmp 22) 22 rfl w2.heap.size 30 (.agg #[.int .i64 0, .int .i64 0, .int .i64 0]) 3 24 Try.underlying22 upt_info rfl (by decide) (.slice none 0 0) 0 [] rfl (World.ownsRow_nil _ _ _ _) A2 n c2 (ptC qs) rfl HPl.out HN2.out HL2.out HPo.out (by simp only [maxLen]; omega) (by omega) (Nat.le_refl _) ?_))
  intro v3 w3 hown3 hg3
  have hb3 : Below w2.heap.size w2 w3 := ⟨hg3.os, hg3.tape, hg3.output, hg3.size, fun k hk => hg3.block k hk (by simp [Value.ownBlock])⟩
  obtain ⟨A3, c3, rfl, hl3, _, _⟩ := own_slice_all hown3
  have HL3 := Lib.hid (show Lies w3 w3.heap.size A3 (ptC qs) by simpa using hl3)
  have HB3 := Lib.hid hb3
  clear hown3 hg3 hl3 hb3
  go_wp2_with fail
  refine (HS.out A3 c3 _ HL3.out).mono ?_
  rintro e w4 ⟨f, hf, A4, c4, rfl, _, hl4, _, _, hb4⟩
  have HF4 := Lib.hid hl4
  have HB4 := Lib.hid (chain HB3.out hb4)
  have HLay := Lib.hid hf
  clear hl4 hb4 HS HL3 HB3 hf
  have HL4 := Lib.hid (HL2.out.on HB4.out)
  have HB24 := Lib.hid (chain HB2.out HB4.out)
  have hnn : ((n : Int) != (n : Int)) = false := by simp
  go_wp2_with fail
  obtain ⟨fb, fo, rfl, hfb, hfall⟩ := HF4.out (fun e => by have := congrArg List.length e; simp [natC] at this; omega)
  have HFc := Lib.hid (fun W (h : Below w4.heap.size w4 W) x (hx : x < n) => (h.cell (p := ⟨fb, fo + x, none⟩) hfb).trans (hfall x (.int .i64 (f x : Nat)) (by simp [natC, hx])))
  clear hfb hfall
  go_loopw [8, 9] (fun v u w' => ∃ (x : Nat) (t : Bool), x ≤ n ∧ v = .bool t ∧ t = someTo f x ∧ u = .int .i64 x ∧ Below w4.heap.size w4 w') (fun _ u _ => n - (intOf u).toNat)
  case atStart => exact ⟨0, false, Nat.zero_le _, rfl, rfl, rfl, Below.refl _ _⟩
  case round =>
    obtain ⟨x, t, hx, rfl, ht, rfl, hbl⟩ := hrel
    have HT := Lib.hid ht
    by_cases hxn : x < n
    · have hyn : x < n := hxn
      have HB := Lib.hid hbl
      have hxi : (x : Int) < (n : Int) := Int.ofNat_lt.2 hxn
      have d0 := HFc.out _ hbl x hxn
      have hfx := lay_lt HLay.out (i := x) (by rw [HQl.out]; exact hxn)
      rw [HQl.out] at hfx
      have HSt := Lib.hid (someTo_step f x)
      obtain ⟨fx, hfx2⟩ : ∃ fx, f x = fx := ⟨_, rfl⟩
      have HFx := Lib.hid hfx2
      rw [hfx2] at d0 hfx HSt
      have g1 : decide ((fx : Int) < 0) = false := decide_eq_false (by omega)
      have g2 : decide (n ≤ fx) = false := decide_eq_false (by omega)
      have g3 : decide ((n : Int) ≤ (fx : Int)) = false := decide_eq_false (by omega)
      obtain ⟨t2, ht2⟩ : ∃ t2, decide (0 < fx) = t2 := ⟨_, rfl⟩
      have g4 : decide ((0 : Int) < (fx : Int)) = t2 := by rw [← ht2, decide_eq_decide]; omega
      have HT2 : Hid (someTo f (x + 1) = (t || t2)) := Lib.hid (by rw [HSt.out, ht2, HT.out])
      clear ht hbl hfx2
      cases t
      all_goals
        go_wp2_with fail
        go_loopw [10] (fun u w' => ∃ y : Nat, y ≤ n ∧ u = .int .i64 y ∧ Below w4.heap.size w4 w') (fun u _ => n - (intOf u).toNat)
        case atStart => exact ⟨0, Nat.zero_le _, rfl, HB.out⟩
        case round =>
          obtain ⟨y, hy, rfl, hbl⟩ := hrel
          by_cases hyn : y < n
          · have hyi : (y : Int) < (n : Int) := Int.ofNat_lt.2 hyn
            replace HB := Lib.hid hbl
            have HUp := Lib.hid (fun h => HLay.out.up y x (by rw [HQl.out]; exact hyn) (by rw [HQl.out]; exact hxn) h)
            clear d0 hbl g1 g2 g3 g4
            obtain ⟨b, o, rfl, hbb, hx1, hy1, hw1⟩ := pts_at HL4.out (ptAt_get (ps := qs) (i := x) (by rw [HQl.out]; exact hxn))
            obtain ⟨b', o', e1, _, hx2, hy2, hw2⟩ := pts_at HL4.out (ptAt_get (ps := qs) (i := y) (by rw [HQl.out]; exact hyn))
            cases e1
            have HA := Lib.hid (fun W => above_any (ptAt qs x) (ptAt qs y) W)
            unfold Pt3.val at HA
            rw [show dom (ptAt qs x) (ptAt qs y) = domP qs x y from rfl] at HA
            have HC := Lib.hid (fun W (h : Below w4.heap.size w4 W) => show (W.cell? ⟨b, o + x * 3, none⟩ = some (.int .i64 (ptAt qs x).x) ∧ W.cell? ⟨b, o + x * 3 + 1, none⟩ = some (.int .i64 (ptAt qs x).y) ∧ W.cell? ⟨b, o + x * 3 + 2, none⟩ = some (.int .i64 (ptAt qs x).w)) ∧ W.cell? ⟨b, o + y * 3, none⟩ = some (.int .i64 (ptAt qs y).x) ∧ W.cell? ⟨b, o + y * 3 + 1, none⟩ = some (.int .i64 (ptAt qs y).y) ∧ W.cell? ⟨b, o + y * 3 + 2, none⟩ = some (.int .i64 (ptAt qs y).w) from
              ⟨⟨(h.cell (p := ⟨b, o + x * 3, none⟩) hbb).trans hx1, (h.cell (p := ⟨b, o + x * 3 + 1, none⟩) hbb).trans hy1, (h.cell (p := ⟨b, o + x * 3 + 2, none⟩) hbb).trans hw1⟩, (h.cell (p := ⟨b, o + y * 3, none⟩) hbb).trans hx2, (h.cell (p := ⟨b, o + y * 3 + 1, none⟩) hbb).trans hy2, (h.cell (p := ⟨b, o + y * 3 + 2, none⟩) hbb).trans hw2⟩)
            have HD := Lib.hid (fun W (h : Below w4.heap.size w4 W) => show W.cell? ⟨fb, fo + x, none⟩ = some (.int .i64 (f x : Nat)) ∧ W.cell? ⟨fb, fo + y, none⟩ = some (.int .i64 (f y : Nat)) from
              ⟨HFc.out W h x hxn, HFc.out W h y hyn⟩)
            clear hx1 hy1 hw1 hx2 hy2 hw2
            generalize ptAt qs x = X at *
            generalize ptAt qs y = Y at *
            obtain ⟨t3, ht3⟩ : ∃ t3, domP qs x y = t3 := ⟨_, rfl⟩
            rw [ht3] at HA HUp
            clear ht3
            cases t3 with
            | true =>
              have g5 : decide ((f y : Nat) ≤ (f x : Nat)) = false := decide_eq_false (by have := HUp.out rfl; omega)
              have g6 : decide (((f y : Nat) : Int) ≤ ((f x : Nat) : Int)) = false := decide_eq_false (by have := HUp.out rfl; omega)
              go_wp2_with fail
              go_region_held3 (fun W => (W.cell? ⟨fb, fo + x, none⟩ = some (.int .i64 (f x : Nat)) ∧ W.cell? ⟨fb, fo + y, none⟩ = some (.int .i64 (f y : Nat))) ∧ (W.cell? ⟨b, o + x * 3, none⟩ = some (.int .i64 X.x) ∧ W.cell? ⟨b, o + x * 3 + 1, none⟩ = some (.int .i64 X.y) ∧ W.cell? ⟨b, o + x * 3 + 2, none⟩ = some (.int .i64 X.w)) ∧ W.cell? ⟨b, o + y * 3, none⟩ = some (.int .i64 Y.x) ∧ W.cell? ⟨b, o + y * 3 + 1, none⟩ = some (.int .i64 Y.y) ∧ W.cell? ⟨b, o + y * 3 + 2, none⟩ = some (.int .i64 Y.w))
                (first | exact ⟨HD.out _ HB.out.drew, HC.out _ HB.out.drew⟩ | exact ⟨HD.out _ HB7.out, HC.out _ HB7.out⟩)
                ((go_at_call 12; refine (HA.out _).mono ?_; rintro e w7 ⟨rfl, hb7⟩; have HB7 := Lib.hid (chain HB.out.drew hb7)))
              all_goals
                go_wp2_with fail
                go_roundw
                case rel => exact ⟨y + 1, by omega, by go_num, HB7.out⟩
                case measure => simp [intOf]; omega
            | false =>
              go_wp2_with fail
              refine wp_region_held_drew (S := fun w' => (w'.cell? ⟨b, o + x * 3, none⟩ = some (.int .i64 X.x) ∧ w'.cell? ⟨b, o + x * 3 + 1, none⟩ = some (.int .i64 X.y) ∧ w'.cell? ⟨b, o + x * 3 + 2, none⟩ = some (.int .i64 X.w)) ∧ w'.cell? ⟨b, o + y * 3, none⟩ = some (.int .i64 Y.x) ∧ w'.cell? ⟨b, o + y * 3 + 1, none⟩ = some (.int .i64 Y.y) ∧ w'.cell? ⟨b, o + y * 3 + 2, none⟩ = some (.int .i64 Y.w)) (by kernel_rfl) (HC.out _ HB.out.drew) (fun hHeld1 => ?_)
              refine wpAnyH_take (i := 0) (oi := ⟨some 70, _, _, _, _, _⟩) (v := ?_) rfl (by kernel_rfl) (by kernel_rfl) (by kernel_rfl) (fun _ _ _ h => h) (Or.inl ⟨by kernel_rfl, ?_⟩) (by assumption) ?_
              rotate_left
              · (intro w hSw; (try dsimp only at hSw); go_simp; (try with_reducible rfl))
              try simp only [Act.put, List.setIfInBounds_toArray, List.set_cons_zero, List.set_cons_succ]
              refine wpAnyH_take (i := 1) (oi := ⟨some 71, _, _, _, _, _⟩) (v := ?_) rfl (by kernel_rfl) (by kernel_rfl) (by kernel_rfl) (fun _ _ _ h => h) (Or.inl ⟨by kernel_rfl, ?_⟩) (by assumption) ?_
              rotate_left
              · (intro w hSw; (try dsimp only at hSw); go_simp; (try with_reducible rfl))
              try simp only [Act.put, List.setIfInBounds_toArray, List.set_cons_zero, List.set_cons_succ]
              refine wpAnyH_take (i := 2) (oi := ⟨some 72, _, _, _, _, _⟩) (v := ?_) rfl (by kernel_rfl) (by kernel_rfl) (by kernel_rfl) (fun _ _ _ h => h) (Or.inl ⟨by kernel_rfl, ?_⟩) (by assumption) ?_
              rotate_left
              · (intro w hSw; (try dsimp only at hSw); go_simp; (try with_reducible rfl))
              try simp only [Act.put, List.setIfInBounds_toArray, List.set_cons_zero, List.set_cons_succ]
              refine wpAnyH_take (i := 3) (oi := ⟨some 73, _, _, _, _, _⟩) (v := ?_) rfl (by kernel_rfl) (by kernel_rfl) (by kernel_rfl) (fun _ _ _ h => h) (Or.inl ⟨by kernel_rfl, ?_⟩) (by assumption) ?_
              rotate_left
              · (intro w hSw; (try dsimp only at hSw); go_simp; (try with_reducible rfl))
              try simp only [Act.put, List.setIfInBounds_toArray, List.set_cons_zero, List.set_cons_succ]
              refine wpAnyH_take (i := 4) (oi := ⟨some 74, _, _, _, _, _⟩) (v := ?_) rfl (by kernel_rfl) (by kernel_rfl) (by kernel_rfl) (fun _ _ _ h => h) (Or.inl ⟨by kernel_rfl, ?_⟩) (by assumption) ?_
              rotate_left
              · (intro w hSw; (try dsimp only at hSw); go_simp; (try with_reducible rfl))
              try simp only [Act.put, List.setIfInBounds_toArray, List.set_cons_zero, List.set_cons_succ]
              refine wpAnyH_take (i := 5) (oi := ⟨some 75, _, _, _, _, _⟩) (v := ?_) rfl (by kernel_rfl) (by kernel_rfl) (by kernel_rfl) (fun _ _ _ h => h) (Or.inl ⟨by kernel_rfl, ?_⟩) (by assumption) ?_
              rotate_left
              · (intro w hSw; (try dsimp only at hSw); go_simp; (try with_reducible rfl))
              try simp only [Act.put, List.setIfInBounds_toArray, List.set_cons_zero, List.set_cons_succ]
              refine wpAnyH_take (i := 6) (oi := ⟨some 76, _, _, _, _, _⟩) (v := ?_) rfl (by kernel_rfl) (by kernel_rfl) (by kernel_rfl) (fun _ _ _ h => h) (Or.inl ⟨by kernel_rfl, ?_⟩) (by assumption) ?_
              rotate_left
              · (intro w hSw; (try dsimp only at hSw); go_simp; (try with_reducible rfl))
              try simp only [Act.put, List.setIfInBounds_toArray, List.set_cons_zero, List.set_cons_succ]
              refine wpAnyH_take (i := 7) (oi := ⟨some 77, _, _, _, _, _⟩) (v := ?_) rfl (by kernel_rfl) (by kernel_rfl) (by kernel_rfl) (fun _ _ _ h => h) (Or.inl ⟨by kernel_rfl, ?_⟩) (by assumption) ?_
              rotate_left
              · (intro w hSw; (try dsimp only at hSw); go_simp; (try with_reducible rfl))
              try simp only [Act.put, List.setIfInBounds_toArray, List.set_cons_zero, List.set_cons_succ]
              refine wpAnyH_ready (rs := [8]) (by kernel_rfl) (by simp) ?_
              refine AllReadyH.cons (o := ⟨some 78, _, _, _, _, _⟩) rfl (fun K hK => ?_) AllReadyH.nil
              go_simp
              refine (HA.out _).mono ?_
              rintro e w7 ⟨rfl, hb7⟩
              have HB7 := Lib.hid (chain HB.out.drew hb7)
              go_wp2_with fail
              refine hK.out _ _ (HC.out _ HB7.out) (fun hHeld2 => ?_)
              clear hK K
              try simp only [Act.put, List.setIfInBounds_toArray, List.set_cons_zero, List.set_cons_succ]
              refine wpAnyH_take (i := 9) (oi := ⟨some 79, _, _, _, _, _⟩) (v := ?_) rfl (by kernel_rfl) (by kernel_rfl) (by kernel_rfl) (fun _ _ _ h => h) (Or.inl ⟨by kernel_rfl, ?_⟩) (by assumption) ?_
              rotate_left
              · (intro w hSw; (try dsimp only at hSw); go_simp; (try with_reducible rfl))
              try simp only [Act.put, List.setIfInBounds_toArray, List.set_cons_zero, List.set_cons_succ]
              refine wpAnyH_take (i := 10) (oi := ⟨some 80, _, _, _, _, _⟩) (v := undef) rfl (by kernel_rfl) (by kernel_rfl) (by kernel_rfl) (fun _ _ _ h => h) (Or.inr ⟨by kernel_rfl, rfl⟩) (by assumption) ?_
              try simp only [Act.put, List.setIfInBounds_toArray, List.set_cons_zero, List.set_cons_succ]
              refine wpAnyH_take (i := 11) (oi := ⟨some 81, _, _, _, _, _⟩) (v := undef) rfl (by kernel_rfl) (by kernel_rfl) (by kernel_rfl) (fun _ _ _ h => h) (Or.inr ⟨by kernel_rfl, rfl⟩) (by assumption) ?_
              try simp only [Act.put, List.setIfInBounds_toArray, List.set_cons_zero, List.set_cons_succ]
              refine wpAnyH_take (i := 12) (oi := ⟨some 82, _, _, _, _, _⟩) (v := undef) rfl (by kernel_rfl) (by kernel_rfl) (by kernel_rfl) (fun _ _ _ h => h) (Or.inr ⟨by kernel_rfl, rfl⟩) (by assumption) ?_
              try simp only [Act.put, List.setIfInBounds_toArray, List.set_cons_zero, List.set_cons_succ]
              refine wpAnyH_take (i := 13) (oi := ⟨some 83, _, _, _, _, _⟩) (v := undef) rfl (by kernel_rfl) (by kernel_rfl) (by kernel_rfl) (fun _ _ _ h => h) (Or.inr ⟨by kernel_rfl, rfl⟩) (by assumption) ?_
              try simp only [Act.put, List.setIfInBounds_toArray, List.set_cons_zero, List.set_cons_succ]
              refine wpAnyH_take (i := 14) (oi := ⟨some 84, _, _, _, _, _⟩) (v := undef) rfl (by kernel_rfl) (by kernel_rfl) (by kernel_rfl) (fun _ _ _ h => h) (Or.inr ⟨by kernel_rfl, rfl⟩) (by assumption) ?_
              try simp only [Act.put, List.setIfInBounds_toArray, List.set_cons_zero, List.set_cons_succ]
              refine wpAnyH_take (i := 15) (oi := ⟨some 85, _, _, _, _, _⟩) (v := undef) rfl (by kernel_rfl) (by kernel_rfl) (by kernel_rfl) (fun _ _ _ h => h) (Or.inr ⟨by kernel_rfl, rfl⟩) (by assumption) ?_
              try simp only [Act.put, List.setIfInBounds_toArray, List.set_cons_zero, List.set_cons_succ]
              refine wpAnyH_take (i := 16) (oi := ⟨some 86, _, _, _, _, _⟩) (v := undef) rfl (by kernel_rfl) (by kernel_rfl) (by kernel_rfl) (fun _ _ _ h => h) (Or.inr ⟨by kernel_rfl, rfl⟩) (by assumption) ?_
              try simp only [Act.put, List.setIfInBounds_toArray, List.set_cons_zero, List.set_cons_succ]
              refine wpAnyH_take (i := 17) (oi := ⟨some 87, _, _, _, _, _⟩) (v := undef) rfl (by kernel_rfl) (by kernel_rfl) (by kernel_rfl) (fun _ _ _ h => h) (Or.inr ⟨by kernel_rfl, rfl⟩) (by assumption) ?_
              try simp only [Act.put, List.setIfInBounds_toArray, List.set_cons_zero, List.set_cons_succ]
              refine wpAnyH_take (i := 18) (oi := ⟨some 88, _, _, _, _, _⟩) (v := undef) rfl (by kernel_rfl) (by kernel_rfl) (by kernel_rfl) (fun _ _ _ h => h) (Or.inr ⟨by kernel_rfl, rfl⟩) (by assumption) ?_
              try simp only [Act.put, List.setIfInBounds_toArray, List.set_cons_zero, List.set_cons_succ]
              refine wpAnyH_take (i := 19) (oi := ⟨some 89, _, _, _, _, _⟩) (v := ?_) rfl (by kernel_rfl) (by kernel_rfl) (by kernel_rfl) (fun _ _ _ h => h) (Or.inl ⟨by kernel_rfl, ?_⟩) (by assumption) ?_
              rotate_left
              · (intro w hSw; (try dsimp only at hSw); go_simp; (try with_reducible rfl))
              try simp only [Act.put, List.setIfInBounds_toArray, List.set_cons_zero, List.set_cons_succ]
              refine wpAnyH_done (by kernel_rfl) ?_ _
              go_wp2_with fail
              go_roundw
              case rel => exact ⟨y + 1, by omega, by go_num, HB7.out⟩
              case measure => simp [intOf]; omega
          · obtain rfl : n = y := by omega
            replace HB := Lib.hid hbl
            clear hbl
            go_wp2_with fail
            go_roundw
            case rel => exact ⟨x + 1, _, by omega, by first | rfl | (rw [ht2]), by rw [HT2.out]; rfl, by go_num, HB.out⟩
            case measure => simp [intOf]; omega
    · obtain rfl : n = x := by omega
      have HB := Lib.hid hbl
      have hp := pick_lt (n := n) hn0 a1
      have HPk := Lib.hid (fun W => pick_any a1 n W hn0 (by omega) h1)
      obtain ⟨p, hpp⟩ : ∃ p, pick n a1 = p := ⟨_, rfl⟩
      rw [hpp] at HPk hp
      have d0 := HFc.out _ hbl p hp
      have hpi : (p : Int) < (n : Int) := Int.ofNat_lt.2 hp
      obtain rfl : t = true := ht.trans (someTo_yes hkn (by have := HLay.out.up k z (by rw [HQl.out]; exact hkn) (by rw [HQl.out]; exact hzn) hm0; omega))
      clear hbl hpp ht HT
      go_wp2_with fail
      refine (HPk.out _).mono ?_
      rintro e w5 ⟨rfl, rfl⟩
      go_wp2_with fail
      clear d0 hpi
      go_loopw [11, 12] (fun u v w' => ∃ x m : Nat, x < n ∧ u = .int .i64 x ∧ v = .int .i64 m ∧ f x = m ∧ Below w4.heap.size w4 w') (fun _ v _ => (intOf v).toNat)
      case atStart => exact ⟨p, f p, hp, rfl, rfl, rfl, HB.out⟩
      case round =>
        obtain ⟨x, m, hxn, rfl, rfl, hfm, hbl⟩ := hrel
        by_cases hm : 0 < m
        · obtain ⟨r, hr⟩ : ∃ r, m = r + 1 := ⟨m - 1, by omega⟩
          have hfx := lay_lt HLay.out (i := x) (by rw [HQl.out]; exact hxn)
          rw [HQl.out, hfm] at hfx
          have hwr : IntKind.i64.wrap ((m : Int) - 1) = (r : Int) := by rw [IntKind.wrap_i64]; omega
          have hwr2 : wrap64 ((m : Int) - 1) = (r : Int) := by unfold wrap64; omega
          have hm1 : (0 : Int) < (m : Int) := by omega
          have HNx := Lib.hid (lay_next HLay.out (i := x) (by rw [HQl.out]; exact hxn) (hfm.trans hr))
          rw [HQl.out] at HNx
          have HR := Lib.hid hr
          replace HB := Lib.hid hbl
          have hxi : (x : Int) < (n : Int) := Int.ofNat_lt.2 hxn
          clear hbl hfm hr
          go_wp2_with fail
          go_loopw [13, 14] (fun v u w' => ∃ (y : Nat) (q : Int), y ≤ n ∧ v = .int .i64 q ∧ u = .int .i64 y ∧ Nxt qs f n x r y q ∧ Below w4.heap.size w4 w') (fun _ u _ => n - (intOf u).toNat)
          case atStart => exact ⟨0, -1, Nat.zero_le _, rfl, rfl, .inl ⟨rfl, fun y' h => by omega⟩, HB.out⟩
          case round =>
            obtain ⟨y, q, hy, rfl, rfl, hN, hbl⟩ := hrel
            have HN := Lib.hid hN
            by_cases hyn : y < n
            · have hyi : (y : Int) < (n : Int) := Int.ofNat_lt.2 hyn
              replace HB := Lib.hid hbl
              clear hbl hN
              obtain ⟨b, o, rfl, hbb, hx1, hy1, hw1⟩ := pts_at HL4.out (ptAt_get (ps := qs) (i := y) (by rw [HQl.out]; exact hyn))
              obtain ⟨b', o', e1, _, hx2, hy2, hw2⟩ := pts_at HL4.out (ptAt_get (ps := qs) (i := x) (by rw [HQl.out]; exact hxn))
              cases e1
              have HA := Lib.hid (fun W => above_any (ptAt qs y) (ptAt qs x) W)
              unfold Pt3.val at HA
              rw [show dom (ptAt qs y) (ptAt qs x) = domP qs y x from rfl] at HA
              have HC := Lib.hid (fun W (h : Below w4.heap.size w4 W) => show (W.cell? ⟨b, o + y * 3, none⟩ = some (.int .i64 (ptAt qs y).x) ∧ W.cell? ⟨b, o + y * 3 + 1, none⟩ = some (.int .i64 (ptAt qs y).y) ∧ W.cell? ⟨b, o + y * 3 + 2, none⟩ = some (.int .i64 (ptAt qs y).w)) ∧ W.cell? ⟨b, o + x * 3, none⟩ = some (.int .i64 (ptAt qs x).x) ∧ W.cell? ⟨b, o + x * 3 + 1, none⟩ = some (.int .i64 (ptAt qs x).y) ∧ W.cell? ⟨b, o + x * 3 + 2, none⟩ = some (.int .i64 (ptAt qs x).w) from
                ⟨⟨(h.cell (p := ⟨b, o + y * 3, none⟩) hbb).trans hx1, (h.cell (p := ⟨b, o + y * 3 + 1, none⟩) hbb).trans hy1, (h.cell (p := ⟨b, o + y * 3 + 2, none⟩) hbb).trans hw1⟩, (h.cell (p := ⟨b, o + x * 3, none⟩) hbb).trans hx2, (h.cell (p := ⟨b, o + x * 3 + 1, none⟩) hbb).trans hy2, (h.cell (p := ⟨b, o + x * 3 + 2, none⟩) hbb).trans hw2⟩)
              have HD := Lib.hid (fun W (h : Below w4.heap.size w4 W) => show W.cell? ⟨fb, fo + y, none⟩ = some (.int .i64 (f y : Nat)) ∧ W.cell? ⟨fb, fo + x, none⟩ = some (.int .i64 (f x : Nat)) from
                ⟨HFc.out W h y hyn, HFc.out W h x hxn⟩)
              clear hx1 hy1 hw1 hx2 hy2 hw2
              generalize ptAt qs y = X at *
              generalize ptAt qs x = Y at *
              obtain ⟨t3, ht3⟩ : ∃ t3, domP qs y x = t3 := ⟨_, rfl⟩
              have HT3 := Lib.hid ht3
              rw [ht3] at HA
              clear ht3
              by_cases hyr : f y = r
              · have e5 : (((f y : Nat) : Int) == (r : Int)) = true := by rw [hyr]; simp
                have HYr := Lib.hid hyr
                clear hyr
                go_wp2_with fail
                go_region_held3 (fun W => (W.cell? ⟨fb, fo + y, none⟩ = some (.int .i64 (f y : Nat)) ∧ W.cell? ⟨fb, fo + x, none⟩ = some (.int .i64 (f x : Nat))) ∧ (W.cell? ⟨b, o + y * 3, none⟩ = some (.int .i64 X.x) ∧ W.cell? ⟨b, o + y * 3 + 1, none⟩ = some (.int .i64 X.y) ∧ W.cell? ⟨b, o + y * 3 + 2, none⟩ = some (.int .i64 X.w)) ∧ W.cell? ⟨b, o + x * 3, none⟩ = some (.int .i64 Y.x) ∧ W.cell? ⟨b, o + x * 3 + 1, none⟩ = some (.int .i64 Y.y) ∧ W.cell? ⟨b, o + x * 3 + 2, none⟩ = some (.int .i64 Y.w))
                  (first | exact ⟨HD.out _ HB.out.drew, HC.out _ HB.out.drew⟩ | exact ⟨HD.out _ HB7.out, HC.out _ HB7.out⟩)
                  ((go_at_call 12; refine (HA.out _).mono ?_; rintro e w7 ⟨rfl, hb7⟩; have HB7 := Lib.hid (chain HB.out.drew hb7)))
                all_goals
                  cases t3
                  · go_wp2_with fail
                    go_roundw
                    case rel => exact ⟨y + 1, q, by omega, rfl, by go_num, HN.out.miss (fun h => by rw [HT3.out] at h; cases h.2), HB7.out⟩
                    case measure => simp [intOf]; omega
                  · go_wp2_with fail
                    go_roundw
                    case rel => exact ⟨y + 1, y, by omega, rfl, by go_num, .inr ⟨y, rfl, hyn, HYr.out⟩, HB7.out⟩
                    case measure => simp [intOf]; omega
              · have e5 : (((f y : Nat) : Int) == (r : Int)) = false := beq_eq_false_iff_ne.2 fun e => hyr (Int.ofNat.inj e)
                have HYr := Lib.hid hyr
                clear hyr
                go_wp2_with fail
                refine wp_region_held_drew (S := fun w' => w'.cell? ⟨fb, fo + y, none⟩ = some (.int .i64 (f y : Nat))) (by kernel_rfl) (HD.out _ HB.out.drew).1 (fun hHeld1 => ?_)
                refine wpAnyH_take (i := 0) (oi := ⟨some 108, _, _, _, _, _⟩) (v := ?_) rfl (by kernel_rfl) (by kernel_rfl) (by kernel_rfl) (fun _ _ _ h => h) (Or.inl ⟨by kernel_rfl, ?_⟩) (by assumption) ?_
                rotate_left
                · (intro w hSw; (try dsimp only at hSw); go_simp; (try with_reducible rfl))
                try simp only [Act.put, List.setIfInBounds_toArray, List.set_cons_zero, List.set_cons_succ]
                refine wpAnyH_take (i := 1) (oi := ⟨some 109, _, _, _, _, _⟩) (v := ?_) rfl (by kernel_rfl) (by kernel_rfl) (by kernel_rfl) (fun _ _ _ h => h) (Or.inl ⟨by kernel_rfl, ?_⟩) (by assumption) ?_
                rotate_left
                · (intro w hSw; (try dsimp only at hSw); go_simp; (try with_reducible rfl))
                try simp only [Act.put, List.setIfInBounds_toArray, List.set_cons_zero, List.set_cons_succ]
                refine wpAnyH_take (i := 2) (oi := ⟨some 110, _, _, _, _, _⟩) (v := ?_) rfl (by kernel_rfl) (by kernel_rfl) (by kernel_rfl) (fun _ _ _ h => h) (Or.inl ⟨by kernel_rfl, ?_⟩) (by assumption) ?_
                rotate_left
                · (intro w hSw; (try dsimp only at hSw); go_simp; (try with_reducible rfl))
                try simp only [Act.put, List.setIfInBounds_toArray, List.set_cons_zero, List.set_cons_succ]
                refine wpAnyH_take (i := 3) (oi := ⟨some 111, _, _, _, _, _⟩) (v := ?_) rfl (by kernel_rfl) (by kernel_rfl) (by kernel_rfl) (fun _ _ _ h => h) (Or.inl ⟨by kernel_rfl, ?_⟩) (by assumption) ?_
                rotate_left
                · (intro w hSw; (try dsimp only at hSw); go_simp; (try with_reducible rfl))
                try simp only [Act.put, List.setIfInBounds_toArray, List.set_cons_zero, List.set_cons_succ]
                refine wpAnyH_take (i := 4) (oi := ⟨some 112, _, _, _, _, _⟩) (v := ?_) rfl (by kernel_rfl) (by kernel_rfl) (by kernel_rfl) (fun _ _ _ h => h) (Or.inl ⟨by kernel_rfl, ?_⟩) (by assumption) ?_
                rotate_left
                · (intro w hSw; (try dsimp only at hSw); go_simp; (try with_reducible rfl))
                try simp only [Act.put, List.setIfInBounds_toArray, List.set_cons_zero, List.set_cons_succ]
                refine wpAnyH_take (i := 5) (oi := ⟨some 113, _, _, _, _, _⟩) (v := ?_) rfl (by kernel_rfl) (by kernel_rfl) (by kernel_rfl) (fun _ _ _ h => h) (Or.inl ⟨by kernel_rfl, ?_⟩) (by assumption) ?_
                rotate_left
                · (intro w hSw; (try dsimp only at hSw); go_simp; (try with_reducible rfl))
                try simp only [Act.put, List.setIfInBounds_toArray, List.set_cons_zero, List.set_cons_succ]
                refine wpAnyH_take (i := 6) (oi := ⟨some 114, _, _, _, _, _⟩) (v := ?_) rfl (by kernel_rfl) (by kernel_rfl) (by kernel_rfl) (fun _ _ _ h => h) (Or.inl ⟨by kernel_rfl, ?_⟩) (by assumption) ?_
                rotate_left
                · (intro w hSw; (try dsimp only at hSw); go_simp; (try with_reducible rfl))
                try simp only [Act.put, List.setIfInBounds_toArray, List.set_cons_zero, List.set_cons_succ]
                refine wpAnyH_take (i := 7) (oi := ⟨some 115, _, _, _, _, _⟩) (v := ?_) rfl (by kernel_rfl) (by kernel_rfl) (by kernel_rfl) (fun _ _ _ h => h) (Or.inl ⟨by kernel_rfl, ?_⟩) (by assumption) ?_
                rotate_left
                · (intro w hSw; (try dsimp only at hSw); go_simp; (try with_reducible rfl))
                try simp only [Act.put, List.setIfInBounds_toArray, List.set_cons_zero, List.set_cons_succ]
                refine wpAnyH_take (i := 8) (oi := ⟨some 116, _, _, _, _, _⟩) (v := undef) rfl (by kernel_rfl) (by kernel_rfl) (by kernel_rfl) (fun _ _ _ h => h) (Or.inr ⟨by kernel_rfl, rfl⟩) (by assumption) ?_
                try simp only [Act.put, List.setIfInBounds_toArray, List.set_cons_zero, List.set_cons_succ]
                refine wpAnyH_take (i := 9) (oi := ⟨some 117, _, _, _, _, _⟩) (v := undef) rfl (by kernel_rfl) (by kernel_rfl) (by kernel_rfl) (fun _ _ _ h => h) (Or.inr ⟨by kernel_rfl, rfl⟩) (by assumption) ?_
                try simp only [Act.put, List.setIfInBounds_toArray, List.set_cons_zero, List.set_cons_succ]
                refine wpAnyH_take (i := 10) (oi := ⟨some 118, _, _, _, _, _⟩) (v := undef) rfl (by kernel_rfl) (by kernel_rfl) (by kernel_rfl) (fun _ _ _ h => h) (Or.inr ⟨by kernel_rfl, rfl⟩) (by assumption) ?_
                try simp only [Act.put, List.setIfInBounds_toArray, List.set_cons_zero, List.set_cons_succ]
                refine wpAnyH_take (i := 11) (oi := ⟨some 119, _, _, _, _, _⟩) (v := undef) rfl (by kernel_rfl) (by kernel_rfl) (by kernel_rfl) (fun _ _ _ h => h) (Or.inr ⟨by kernel_rfl, rfl⟩) (by assumption) ?_
                try simp only [Act.put, List.setIfInBounds_toArray, List.set_cons_zero, List.set_cons_succ]
                refine wpAnyH_take (i := 12) (oi := ⟨some 120, _, _, _, _, _⟩) (v := undef) rfl (by kernel_rfl) (by kernel_rfl) (by kernel_rfl) (fun _ _ _ h => h) (Or.inr ⟨by kernel_rfl, rfl⟩) (by assumption) ?_
                try simp only [Act.put, List.setIfInBounds_toArray, List.set_cons_zero, List.set_cons_succ]
                refine wpAnyH_take (i := 13) (oi := ⟨some 121, _, _, _, _, _⟩) (v := undef) rfl (by kernel_rfl) (by kernel_rfl) (by kernel_rfl) (fun _ _ _ h => h) (Or.inr ⟨by kernel_rfl, rfl⟩) (by assumption) ?_
                try simp only [Act.put, List.setIfInBounds_toArray, List.set_cons_zero, List.set_cons_succ]
                refine wpAnyH_take (i := 14) (oi := ⟨some 122, _, _, _, _, _⟩) (v := undef) rfl (by kernel_rfl) (by kernel_rfl) (by kernel_rfl) (fun _ _ _ h => h) (Or.inr ⟨by kernel_rfl, rfl⟩) (by assumption) ?_
                try simp only [Act.put, List.setIfInBounds_toArray, List.set_cons_zero, List.set_cons_succ]
                refine wpAnyH_take (i := 15) (oi := ⟨some 123, _, _, _, _, _⟩) (v := undef) rfl (by kernel_rfl) (by kernel_rfl) (by kernel_rfl) (fun _ _ _ h => h) (Or.inr ⟨by kernel_rfl, rfl⟩) (by assumption) ?_
                try simp only [Act.put, List.setIfInBounds_toArray, List.set_cons_zero, List.set_cons_succ]
                refine wpAnyH_take (i := 16) (oi := ⟨some 124, _, _, _, _, _⟩) (v := undef) rfl (by kernel_rfl) (by kernel_rfl) (by kernel_rfl) (fun _ _ _ h => h) (Or.inr ⟨by kernel_rfl, rfl⟩) (by assumption) ?_
                try simp only [Act.put, List.setIfInBounds_toArray, List.set_cons_zero, List.set_cons_succ]
                refine wpAnyH_take (i := 17) (oi := ⟨some 125, _, _, _, _, _⟩) (v := ?_) rfl (by kernel_rfl) (by kernel_rfl) (by kernel_rfl) (fun _ _ _ h => h) (Or.inl ⟨by kernel_rfl, ?_⟩) (by assumption) ?_
                rotate_left
                · (intro w hSw; (try dsimp only at hSw); go_simp; (try with_reducible rfl))
                try simp only [Act.put, List.setIfInBounds_toArray, List.set_cons_zero, List.set_cons_succ]
                refine wpAnyH_done (by kernel_rfl) ?_ _
                go_wp2_with fail
                go_roundw
                case rel => exact ⟨y + 1, q, by omega, rfl, by go_num, HN.out.miss (fun h => HYr.out h.1), HB.out.drew⟩
                case measure => simp [intOf]; omega
            · obtain rfl : n = y := by omega
              obtain ⟨y', rfl, hy1, hy2⟩ := hN.done HNx.out
              replace HB := Lib.hid hbl
              have hyi : (y' : Int) < (n : Int) := Int.ofNat_lt.2 hy1
              clear hbl hN
              go_wp2_with fail
              go_roundw
              case rel => exact ⟨y', r, hy1, rfl, rfl, hy2, HB.out⟩
              case measure => have := HR.out; simp [intOf]; omega
        · obtain rfl : m = 0 := by omega
          replace HB := Lib.hid (chain HB24.out hbl)
          clear hbl
          go_wp2_with fail
          go_ret
          exact ⟨rfl, HB.out⟩
end Go.Proofs.Ytpkclmfadlkbeaa
