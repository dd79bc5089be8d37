/-
  What the statements' waved returns: contracts, walked over the translated text. No condition but what each theorem names.
-/
import Derived.Test.YtefgfkicacbmeaaWavMk
import Derived.Test.YtefgfkicacbmeaaWavAsk
import Derived.Test.YtefgfkicacbmeaaKeep3
namespace Go.Proofs.Ytefgfkicacbmeaa
open Go.RowKit Words

/-- What waved leaves. -/
def GivesWaved (w : World) (kk : Nat) (ns : List Nat) (e : Ending) (w' : World) : Prop :=
  ∃ A vs c, e = .returned (.tuple #[.agg #[.slice A kk c], .bool true]) ∧ MadeOf ns.length (levs kk ns) vs ∧ Mat w' w'.heap.size A vs ∧ New w.heap.size A ∧ (∀ v ∈ vs, New w.heap.size v.adr) ∧ Below w.heap.size w w'

theorem mat_store {w : World} {g o : Nat} {A : Option Addr} {vs : List Lev} {u : Value} (h : Mat w w.heap.size A vs) (hA : New (g + 1) A) (hv : ∀ v ∈ vs, New (g + 1) v.adr) : Mat (w.setCell ⟨g, o, none⟩ u) (w.setCell ⟨g, o, none⟩ u).heap.size A vs :=
  ⟨(h.heads.setCell hA (by simp) u).wide (by simp), fun v hv2 => ⟨((h.rows v hv2).1.setCell (hv v hv2) (by simp) u).wide (by simp), (h.rows v hv2).2⟩⟩

set_option maxRecDepth 100000 in
set_option maxHeartbeats 4000000 in
/-- damaskkeep.waved. -/
theorem waved_any (A : Option Addr) (ns : List Nat) (c kk : Nat) (w : World) (hn : ns.length ≤ 300) (hk0 : 0 < kk) (hkk : kk ≤ 21) (hx : ∀ x ∈ ns, x < 2 ^ kk) (hnone : A = none → c = 0) (hl : Lies w w.heap.size A (natC ns)) :
    Calls Try.prog 31 #[.slice A ns.length c, .int .i64 kk] w (GivesWaved w kk ns) := by
  have HCo : Hid (∀ W, Lies W W.heap.size A (natC ns) → Calls Try.prog 52 #[.slice A ns.length c] W (GivesSlice W (natC ns))) := Lib.hid fun W hW => by
    have h := copied_any A (ns.map fun x : Nat => (x : Int)) c W (by rw [List.length_map]; omega) hnone (by rw [← natC_ints]; exact hW)
    rwa [List.length_map, ← natC_ints] at h
  have HMk := Lib.hid (fun A c W hW => wmk_any kk A ns c W hn hkk hx hW)
  have HM2 : Hid (∀ A W, Lies W W.heap.size A (natC [2, 1]) → Calls Try.prog 14 #[.int .i64 2, .slice A 2 2] W (GivesWave W 2 [2, 1])) := Lib.hid fun A W hW => wmk_any 2 A [2, 1] 2 W (by decide) (by decide) (by decide) hW
  have HL := Lib.hid hl
  have HNL := Lib.hid (natC_length ns)
  have hMS : ∀ vs : List Lev, MadeOf ns.length (levs kk ns) vs → WV ns.length vs := fun vs h => made_wv h hk0 hkk hn
  have HMS := Lib.hid hMS
  have HML := Lib.hid (fun (vs : List Lev) (h : MadeOf ns.length (levs kk ns) vs) => show vs.length = kk by rw [h.length, levs_length])
  clear hl hx hnone hMS
  generalize hnn : ns.length = n at *
  go_enter Try.func31, Try.ntmps31
  go_wp2_with fail
  refine (HCo.out _ (by exact HL.out.alloc _)).mono ?_
  rintro e w1 ⟨A0, c0, rfl, hle0, hl0, _, _, hb1⟩
  rw [HNL.out]
  have HB1 := Lib.hid (chain (bnew w (.cells #[.slice none 0 0] 25)) hb1)
  have hR1 := (Blk.new w 25 [.slice none 0 0]).below hb1 (by simp)
  have HL0 := Lib.hid hl0
  have hs1 : w.heap.size < w1.heap.size := hR1.lt
  clear hb1 hl0 hle0
  go_wp2_with fail
  refine (HMk.out A0 c0 _ (by exact HL0.out)).mono ?_
  unfold GivesWave
  rintro e w2 ⟨A1, vs, c1, rfl, hmade, hKc, hmat, hN1, hNv, hb2⟩
  rw [hnn] at hmade
  have HMade := Lib.hid hmade
  have HMat2 := Lib.hid hmat
  have HN1 := Lib.hid (hN1.mono (show w.heap.size + 1 ≤ w1.heap.size by omega))
  have HNv := Lib.hid (fun v hv => (hNv v hv).mono (show w.heap.size + 1 ≤ w1.heap.size by omega))
  have HB2 := Lib.hid (chain HB1.out hb2)
  have hR2 := hR1.below hb2 hs1
  have hs2 : w.heap.size < w2.heap.size := hR2.lt
  clear hmade hmat hN1 hNv hb2 hR1 hKc
  go_wp2_with fail
  have hb4 := chain (bnew w2 (.cells #[.slice A1 kk c1] 25)) (bnew _ (.cells #[.int .i64 2, .int .i64 1] 3))
  have hX4 := (Blk.new w2 25 [.slice A1 kk c1]).alloc (.cells #[.int .i64 2, .int .i64 1] 3)
  have hY4 := Blk.new (w2.alloc (.cells #[.slice A1 kk c1] 25)) 3 [.int .i64 2, .int .i64 1]
  have HY4 := Lib.hid (show Lies ((w2.alloc (.cells #[.slice A1 kk c1] 25)).alloc (.cells #[.int .i64 2, .int .i64 1] 3)) ((w2.alloc (.cells #[.slice A1 kk c1] 25)).alloc (.cells #[.int .i64 2, .int .i64 1] 3)).heap.size (some ⟨w2.heap.size + 1, 0, none⟩) (natC [2, 1]) by
    rw [World.size_alloc] at hY4
    exact hY4.lies)
  have HMat4 := Lib.hid (HMat2.out.on hb4)
  have HB4 := Lib.hid (chain HB2.out hb4)
  have hR4 := hR2.below hb4 hs2
  have hs4 := hX4.lt
  generalize (w2.alloc (.cells #[.slice A1 kk c1] 25)).alloc (.cells #[.int .i64 2, .int .i64 1] 3) = w4 at *
  clear hY4 hb4
  refine (HM2.out _ _ (by exact HY4.out)).mono ?_
  unfold GivesWave
  rintro e w5 ⟨A2, vs2, c2, rfl, _, _, _, _, _, hb5⟩
  have hX5 := hX4.below hb5 hs4
  have HMat5 := Lib.hid (HMat4.out.on hb5)
  have HB5 := Lib.hid (chain HB4.out hb5)
  have hR5 := hR4.below hb5 hR4.lt
  clear hb5 hX4 hR4
  go_wp2_with fail
  have hR := hR5.alloc (.cells #[.slice A2 2 c2] 25)
  have hX := hX5.alloc (.cells #[.slice A2 2 c2] 25)
  have hY := Blk.new w5 25 [.slice A2 2 c2]
  have HMat := Lib.hid (HMat5.out.alloc (.cells #[.slice A2 2 c2] 25))
  have HB := Lib.hid (chain HB5.out (bnew w5 (.cells #[.slice A2 2 c2] 25)))
  have n5 : w5.heap.size ≠ w.heap.size := by have := hR5.lt; omega
  have n2 : w2.heap.size ≠ w.heap.size := by omega
  generalize w5.alloc (.cells #[.slice A2 2 c2] 25) = w6 at *
  have r0 : w6.cell? ⟨w2.heap.size, 0, none⟩ = some (.slice A1 kk c1) := hX.cell 0
  have r1 : w6.cell? ⟨w5.heap.size, 0, none⟩ = some (.slice A2 2 c2) := hY.cell 0
  have l2 := hX.lt
  have l5 := hY.lt
  have lR := hR.lt
  have HMy : Hid (∀ W, Mat W W.heap.size A1 vs → Calls Try.prog 17 #[.agg #[.slice A1 kk c1]] W fun e w' => e = .returned (.bool true) ∧ Below W.heap.size W w') := Lib.hid fun W hW => by
    have h := wmay_yes A1 vs c1 W (HMS.out vs HMade.out).sound hW
    rwa [HML.out vs HMade.out] at h
  clear hX hY hX5 hR5
  refine wp_region_held_drew (S := fun w' => w'.cell? ⟨w2.heap.size, 0, none⟩ = some (.slice A1 kk c1) ∧ w'.cell? ⟨w5.heap.size, 0, none⟩ = some (.slice A2 2 c2)) (by kernel_rfl) ⟨r0, r1⟩ (fun hHeld1 => ?_)
  refine wpAnyH_take (i := 0) (oi := ⟨some 22, _, _, _, _, _⟩) (v := ?_) rfl (by kernel_rfl) (by kernel_rfl) (by kernel_rfl) (fun _ _ _ h => h) (Or.inl ⟨by kernel_rfl, ?_⟩) (by assumption) ?_
  rotate_left
  · (intro w hSw; (try dsimp only at hSw); go_simp; (try with_reducible rfl))
  try simp only [Act.put, List.setIfInBounds_toArray, List.set_cons_zero, List.set_cons_succ]
  refine wpAnyH_take (i := 1) (oi := ⟨some 23, _, _, _, _, _⟩) (v := ?_) rfl (by kernel_rfl) (by kernel_rfl) (by kernel_rfl) (fun _ _ _ h => h) (Or.inl ⟨by kernel_rfl, ?_⟩) (by assumption) ?_
  rotate_left
  · (intro w hSw; (try dsimp only at hSw); go_simp; (try with_reducible rfl))
  try simp only [Act.put, List.setIfInBounds_toArray, List.set_cons_zero, List.set_cons_succ]
  refine wpAnyH_take (i := 2) (oi := ⟨some 24, _, _, _, _, _⟩) (v := ?_) rfl (by kernel_rfl) (by kernel_rfl) (by kernel_rfl) (fun _ _ _ h => h) (Or.inl ⟨by kernel_rfl, ?_⟩) (by assumption) ?_
  rotate_left
  · (intro w hSw; (try dsimp only at hSw); go_simp; (try with_reducible rfl))
  try simp only [Act.put, List.setIfInBounds_toArray, List.set_cons_zero, List.set_cons_succ]
  refine wpAnyH_take (i := 3) (oi := ⟨some 25, _, _, _, _, _⟩) (v := ?_) rfl (by kernel_rfl) (by kernel_rfl) (by kernel_rfl) (fun _ _ _ h => h) (Or.inl ⟨by kernel_rfl, ?_⟩) (by assumption) ?_
  rotate_left
  · (intro w hSw; (try dsimp only at hSw); go_simp; (try with_reducible rfl))
  try simp only [Act.put, List.setIfInBounds_toArray, List.set_cons_zero, List.set_cons_succ]
  refine wpAnyH_take (i := 4) (oi := ⟨some 26, _, _, _, _, _⟩) (v := ?_) rfl (by kernel_rfl) (by kernel_rfl) (by kernel_rfl) (fun _ _ _ h => h) (Or.inl ⟨by kernel_rfl, ?_⟩) (by assumption) ?_
  rotate_left
  · (intro w hSw; (try dsimp only at hSw); go_simp; (try with_reducible rfl))
  try simp only [Act.put, List.setIfInBounds_toArray, List.set_cons_zero, List.set_cons_succ]
  refine wpAnyH_take (i := 5) (oi := ⟨some 27, _, _, _, _, _⟩) (v := ?_) rfl (by kernel_rfl) (by kernel_rfl) (by kernel_rfl) (fun _ _ _ h => h) (Or.inl ⟨by kernel_rfl, ?_⟩) (by assumption) ?_
  rotate_left
  · (intro w hSw; (try dsimp only at hSw); go_simp; (try with_reducible rfl))
  try simp only [Act.put, List.setIfInBounds_toArray, List.set_cons_zero, List.set_cons_succ]
  refine wpAnyH_take (i := 6) (oi := ⟨some 28, _, _, _, _, _⟩) (v := ?_) rfl (by kernel_rfl) (by kernel_rfl) (by kernel_rfl) (fun _ _ _ h => h) (Or.inl ⟨by kernel_rfl, ?_⟩) (by assumption) ?_
  rotate_left
  · (intro w hSw; (try dsimp only at hSw); go_simp; (try with_reducible rfl))
  try simp only [Act.put, List.setIfInBounds_toArray, List.set_cons_zero, List.set_cons_succ]
  refine wpAnyH_take (i := 7) (oi := ⟨some 29, _, _, _, _, _⟩) (v := ?_) rfl (by kernel_rfl) (by kernel_rfl) (by kernel_rfl) (fun _ _ _ h => h) (Or.inl ⟨by kernel_rfl, ?_⟩) (by assumption) ?_
  rotate_left
  · (intro w hSw; (try dsimp only at hSw); go_simp; (try with_reducible rfl))
  try simp only [Act.put, List.setIfInBounds_toArray, List.set_cons_zero, List.set_cons_succ]
  refine wpAnyH_take (i := 8) (oi := ⟨some 30, _, _, _, _, _⟩) (v := ?_) rfl (by kernel_rfl) (by kernel_rfl) (by kernel_rfl) (fun _ _ _ h => h) (Or.inl ⟨by kernel_rfl, ?_⟩) (by assumption) ?_
  rotate_left
  · (intro w hSw; (try dsimp only at hSw); go_simp; (try with_reducible rfl))
  try simp only [Act.put, List.setIfInBounds_toArray, List.set_cons_zero, List.set_cons_succ]
  refine wpAnyH_take (i := 9) (oi := ⟨some 31, _, _, _, _, _⟩) (v := ?_) rfl (by kernel_rfl) (by kernel_rfl) (by kernel_rfl) (fun _ _ _ h => h) (Or.inl ⟨by kernel_rfl, ?_⟩) (by assumption) ?_
  rotate_left
  · (intro w hSw; (try dsimp only at hSw); go_simp; (try with_reducible rfl))
  try simp only [Act.put, List.setIfInBounds_toArray, List.set_cons_zero, List.set_cons_succ]
  refine wpAnyH_take (i := 10) (oi := ⟨some 32, _, _, _, _, _⟩) (v := ?_) rfl (by kernel_rfl) (by kernel_rfl) (by kernel_rfl) (fun _ _ _ h => h) (Or.inl ⟨by kernel_rfl, ?_⟩) (by assumption) ?_
  rotate_left
  · (intro w hSw; (try dsimp only at hSw); go_simp; (try with_reducible rfl))
  try simp only [Act.put, List.setIfInBounds_toArray, List.set_cons_zero, List.set_cons_succ]
  refine wpAnyH_take (i := 11) (oi := ⟨some 33, _, _, _, _, _⟩) (v := ?_) rfl (by kernel_rfl) (by kernel_rfl) (by kernel_rfl) (fun _ _ _ h => h) (Or.inl ⟨by kernel_rfl, ?_⟩) (by assumption) ?_
  rotate_left
  · (intro w hSw; (try dsimp only at hSw); go_simp; (try with_reducible rfl))
  try simp only [Act.put, List.setIfInBounds_toArray, List.set_cons_zero, List.set_cons_succ]
  refine wpAnyH_take (i := 12) (oi := ⟨some 34, _, _, _, _, _⟩) (v := ?_) rfl (by kernel_rfl) (by kernel_rfl) (by kernel_rfl) (fun _ _ _ h => h) (Or.inl ⟨by kernel_rfl, ?_⟩) (by assumption) ?_
  rotate_left
  · (intro w hSw; (try dsimp only at hSw); go_simp; (try with_reducible rfl))
  try simp only [Act.put, List.setIfInBounds_toArray, List.set_cons_zero, List.set_cons_succ]
  refine wpAnyH_take (i := 13) (oi := ⟨some 35, _, _, _, _, _⟩) (v := ?_) rfl (by kernel_rfl) (by kernel_rfl) (by kernel_rfl) (fun _ _ _ h => h) (Or.inl ⟨by kernel_rfl, ?_⟩) (by assumption) ?_
  rotate_left
  · (intro w hSw; (try dsimp only at hSw); go_simp; (try with_reducible rfl))
  try simp only [Act.put, List.setIfInBounds_toArray, List.set_cons_zero, List.set_cons_succ]
  refine wpAnyH_take (i := 14) (oi := ⟨some 36, _, _, _, _, _⟩) (v := ?_) rfl (by kernel_rfl) (by kernel_rfl) (by kernel_rfl) (fun _ _ _ h => h) (Or.inl ⟨by kernel_rfl, ?_⟩) (by assumption) ?_
  rotate_left
  · (intro w hSw; (try dsimp only at hSw); go_simp; (try with_reducible rfl))
  try simp only [Act.put, List.setIfInBounds_toArray, List.set_cons_zero, List.set_cons_succ]
  refine wpAnyH_ready (rs := [15]) (by kernel_rfl) (by simp) ?_
  refine AllReadyH.cons (o := ⟨some 37, _, _, _, _, _⟩) rfl (fun K hK => ?_) AllReadyH.nil
  go_simp
  refine (HMy.out _ (by exact HMat.out.drew)).mono ?_
  rintro e w7 ⟨rfl, hb7⟩
  have s0 := (bcell hb7 _ _ l2).trans r0
  have s1 := (bcell hb7 _ _ l5).trans r1
  have hR7 := hR.drew.below hb7 (show w.heap.size < w6.drew.heap.size from lR)
  have g0 : w7.cell? ⟨w.heap.size, 0, none⟩ = some (.slice none 0 0) := hR7.cell 0
  have f0 := hR7.frozen 0
  have HM7 := Lib.hid (HMat.out.drew.on hb7)
  have HB7 := Lib.hid (chain HB.out.drew hb7)
  go_wp2_with fail
  refine hK.out _ _ ⟨s0, s1⟩ (fun hHeld2 => ?_)
  clear hK K
  try simp only [Act.put, List.setIfInBounds_toArray, List.set_cons_zero, List.set_cons_succ]
  refine wpAnyH_take (i := 16) (oi := ⟨some 38, _, _, _, _, _⟩) (v := ?_) rfl (by kernel_rfl) (by kernel_rfl) (by kernel_rfl) (fun _ _ _ h => h) (Or.inl ⟨by kernel_rfl, ?_⟩) (by assumption) ?_
  rotate_left
  · (intro w hSw; (try dsimp only at hSw); go_simp; (try with_reducible rfl))
  try simp only [Act.put, List.setIfInBounds_toArray, List.set_cons_zero, List.set_cons_succ]
  refine wpAnyH_ready (rs := [17]) (by kernel_rfl) (by simp) ?_
  refine AllReadyH.cons (o := ⟨none, _, _, _, _, _⟩) rfl (fun K hK => ?_) AllReadyH.nil
  go_simp
  refine hK.out _ _ ⟨by rw [World.cell?_setCell_other _ _ _ _ (fun e => by injection e with e1; exact n2 e1.symm)]; exact s0, by rw [World.cell?_setCell_other _ _ _ _ (fun e => by injection e with e1; exact n5 e1.symm)]; exact s1⟩ (fun hHeld3 => ?_)
  clear hK
  try simp only [Act.put, List.setIfInBounds_toArray, List.set_cons_zero, List.set_cons_succ]
  refine wpAnyH_take (i := 18) (oi := ⟨some 5, _, _, _, _, _⟩) (v := ?_) rfl (by kernel_rfl) (by kernel_rfl) (by kernel_rfl) (fun _ _ _ h => h) (Or.inl ⟨by kernel_rfl, ?_⟩) (by assumption) ?_
  rotate_left
  · (intro w hSw; (try dsimp only at hSw); go_simp; (try with_reducible rfl))
  try simp only [Act.put, List.setIfInBounds_toArray, List.set_cons_zero, List.set_cons_succ]
  refine wpAnyH_done (by kernel_rfl) ?_ _
  clear hHeld1 hHeld2 hHeld3 r0 r1 s0 s1 f0
  go_wp2_with fail
  refine bodyPost_ret (v := .tuple #[.agg #[.slice A1 kk c1], .bool true]) (by simp [results, Try.results31, go_sem, g0]) rfl ?_
  exact ⟨A1, vs, c1, rfl, by rw [hnn]; exact HMade.out, mat_store HM7.out HN1.out HNv.out, HN1.out.mono (by omega), fun v hv => (HNv.out v hv).mono (by omega), HB7.out.setCell (Nat.le_refl _) _⟩
end Go.Proofs.Ytefgfkicacbmeaa
