/-
  What wave's length, May and check return: contracts, walked over the translated text. A matrix is '.agg #[.slice A vs.length c]', its levels vs in memory. No condition but what each theorem names.
-/
import Derived.Test.YtjgibbccjijpaaaWavSp
namespace Go.Proofs.Ytjgibbccjijpaaa
open Go.RowKit Words

/-- The length that a matrix tells. -/
def lenOf : List Lev → Int
  | [] => 0
  | v :: _ => v.n
/-- A level of n bits that is valid. -/
def Good10 (n : Int) (v : Lev) : Prop := v.n = n ∧ v.n ≤ 300 ∧ ∃ m : Nat, v.n = m ∧ Valid m v.ws
/-- A valid matrix. -/
def Sound (vs : List Lev) : Prop := vs.length ≤ 21 ∧ ∀ v ∈ vs, Good10 (lenOf vs) v

/-- wave.length. -/
theorem length_any (A : Option Addr) (vs : List Lev) (c : Nat) (w : World) (hM : Mat w w.heap.size A vs) :
    Calls Try.prog 44 #[.agg #[.slice A vs.length c]] w fun e w' => e = .returned (.int .i64 (lenOf vs)) ∧ Below w.heap.size w w' := by
  cases vs with
  | nil =>
    clear hM
    show Calls Try.prog 44 #[.agg #[.slice A 0 c]] w fun e w' => e = .returned (.int .i64 0) ∧ Below w.heap.size w w'
    go_enter Try.func44, Try.ntmps44
    go_wp2
    go_ret
    exact ⟨rfl, bnew _ _⟩
  | cons v r =>
    obtain ⟨b, p, v', rfl, hb, hv, hc, _, _⟩ := hM.at_ (i := 0) (by simp)
    obtain rfl : v = v' := by simpa using hv
    rw [Nat.zero_mul, Nat.add_zero] at hc
    have hz : (((v :: r).length : Int) == 0) = false := by simp; omega
    have hp : 0 < (v :: r).length := by simp
    show Calls Try.prog 44 #[.agg #[.slice (some ⟨b, p, none⟩) (v :: r).length c]] w fun e w' => e = .returned (.int .i64 v.n) ∧ Below w.heap.size w w'
    generalize (v :: r).length = k at *
    generalize v.n = z at *
    clear hM hv
    go_enter Try.func44, Try.ntmps44
    go_wp2
    go_ret
    exact ⟨rfl, bnew _ _⟩

/-- What May leaves. -/
def MayPost (vs : List Lev) (w : World) (e : Ending) (w' : World) : Prop := ∃ r : Bool, e = .returned (.bool r) ∧ (r = true ↔ Sound vs) ∧ Below w.heap.size w w'

set_option maxHeartbeats 4000000 in
/-- wave.May. -/
theorem wmay_any (A : Option Addr) (vs : List Lev) (c : Nat) (w : World) (hk : vs.length ≤ 17592186044416) (hM : Mat w w.heap.size A vs) :
    Calls Try.prog 17 #[.agg #[.slice A vs.length c]] w (MayPost vs w) := by
  by_cases h21 : vs.length ≤ 21
  · have HM := Lib.hid hM
    have HLn := Lib.hid (fun W hW => length_any A vs c W hW)
    clear hM
    have hd : decide (21 < (vs.length : Int)) = false := by simp; omega
    have HS := Lib.hid (show (∀ v ∈ vs, Good10 (lenOf vs) v) ↔ Sound vs from ⟨fun h => ⟨h21, h⟩, fun h => h.2⟩)
    generalize hkk : vs.length = k at *
    have HK := Lib.hid hkk
    generalize hLL : lenOf vs = L at *
    have HLL := Lib.hid hLL
    clear hkk hLL
    go_enter Try.func17, Try.ntmps17
    go_wp2_with fail
    have hB0 := Blk.new w 25 [.slice A k c]
    have hb0 := bnew w (.cells #[.slice A k c] 25)
    generalize w.alloc (.cells #[.slice A k c] 25) = w0 at *
    have HB0 := Lib.hid hB0
    have HB := Lib.hid hb0
    have HM0 := Lib.hid (HM.out.on hb0)
    have hlt0 := hB0.lt
    clear hB0 hb0
    go_loopw [12] (fun s w' => ∃ i : Nat, i ≤ k ∧ s = .int .i64 i ∧ (∀ j v, j < i → vs[j]? = some v → Good10 L v) ∧ Below w0.heap.size w0 w') (fun s _ => k - (intOf s).toNat)
    case atStart => exact ⟨0, Nat.zero_le _, rfl, (fun j v h => by omega), Below.refl _ _⟩
    case round =>
      obtain ⟨i, hi, rfl, hgood, hbl⟩ := hrel
      have HG := Lib.hid hgood
      clear hgood
      by_cases hlt : i < k
      · obtain ⟨b, p, v, rfl, hb, hv, hc0, hc1, hWv⟩ := (HM0.out.on hbl).at_ (i := i) (by rw [HK.out]; exact hlt)
        have HV := Lib.hid hv
        have HWv := Lib.hid hWv
        have HMr := Lib.hid (HM0.out.on hbl)
        have hbox := HB0.out.below hbl hlt0
        have hlt1 : w.heap.size < wr.heap.size := Nat.lt_of_lt_of_le hlt0 hbl.size
        have HBL := Lib.hid hbl
        clear hv hWv hbl
        go_wp2_with fail
        have hBv := Blk.new wr 32 [.int .i64 v.n, .slice v.adr v.ws.length v.cap]
        have hbx := hbox.alloc (.cells #[.int .i64 v.n, .slice v.adr v.ws.length v.cap] 32)
        have HW2 := Lib.hid (HWv.out.alloc (.cells #[.int .i64 v.n, .slice v.adr v.ws.length v.cap] 32))
        have HM2 := Lib.hid (HMr.out.alloc (.cells #[.int .i64 v.n, .slice v.adr v.ws.length v.cap] 32))
        have HB2 := Lib.hid (chain HBL.out (bnew wr (.cells #[.int .i64 v.n, .slice v.adr v.ws.length v.cap] 32)))
        have hlt2 := hBv.lt
        have hlt3 := hbx.lt
        generalize wr.alloc (.cells #[.int .i64 v.n, .slice v.adr v.ws.length v.cap] 32) = w2 at *
        clear hc0 hc1 hbox HWv HMr
        have r0 : w2.cell? ⟨wr.heap.size, 0, none⟩ = some (.int .i64 v.n) := hBv.cell 0
        have r1 : w2.cell? ⟨wr.heap.size, 1, none⟩ = some (.slice v.adr v.ws.length v.cap) := hBv.cell 1
        have r2 : w2.cell? ⟨w.heap.size, 0, none⟩ = some (.slice (some ⟨b, p, none⟩) k c) := hbx.cell 0
        clear hBv hbx
        refine wp_region_held_drew (S := fun w' => w'.cell? ⟨wr.heap.size, 0, none⟩ = some (.int .i64 v.n) ∧ w'.cell? ⟨wr.heap.size, 1, none⟩ = some (.slice v.adr v.ws.length v.cap) ∧ w'.cell? ⟨w.heap.size, 0, none⟩ = some (.slice (some ⟨b, p, none⟩) k c)) (by kernel_rfl) ⟨r0, r1, r2⟩ (fun hHeld1 => ?_)
        refine wpAnyH_take (i := 0) (oi := ⟨some 16, _, _, _, _, _⟩) (v := ?_) rfl (by kernel_rfl) (by kernel_rfl) (by kernel_rfl) (fun _ _ _ h => h) (Or.inl ⟨by kernel_rfl, ?_⟩) (by assumption) ?_
        rotate_left
        · (intro w hSw; (try dsimp only at hSw); go_simp; (try with_reducible rfl))
        try simp only [Act.put, List.setIfInBounds_toArray, List.set_cons_zero, List.set_cons_succ]
        refine wpAnyH_take (i := 1) (oi := ⟨some 17, _, _, _, _, _⟩) (v := ?_) rfl (by kernel_rfl) (by kernel_rfl) (by kernel_rfl) (fun _ _ _ h => h) (Or.inl ⟨by kernel_rfl, ?_⟩) (by assumption) ?_
        rotate_left
        · (intro w hSw; (try dsimp only at hSw); go_simp; (try with_reducible rfl))
        try simp only [Act.put, List.setIfInBounds_toArray, List.set_cons_zero, List.set_cons_succ]
        refine wpAnyH_take (i := 2) (oi := ⟨some 18, _, _, _, _, _⟩) (v := ?_) rfl (by kernel_rfl) (by kernel_rfl) (by kernel_rfl) (fun _ _ _ h => h) (Or.inl ⟨by kernel_rfl, ?_⟩) (by assumption) ?_
        rotate_left
        · (intro w hSw; (try dsimp only at hSw); go_simp; (try with_reducible rfl))
        try simp only [Act.put, List.setIfInBounds_toArray, List.set_cons_zero, List.set_cons_succ]
        refine wpAnyH_ready (rs := [3]) (by kernel_rfl) (by simp) ?_
        refine AllReadyH.cons (o := ⟨some 19, _, _, _, _, _⟩) rfl (fun K hK => ?_) AllReadyH.nil
        go_simp
        refine (HLn.out _ (by exact HM2.out.drew)).mono ?_
        rintro e w3 ⟨rfl, hb3⟩
        have hc3 : ∀ b o, b < w2.heap.size → w3.cell? ⟨b, o, none⟩ = w2.cell? ⟨b, o, none⟩ := fun b o h => bcell hb3 b o h
        go_wp2_with fail
        refine hK.out _ _ ⟨(hc3 _ _ hlt2).trans r0, (hc3 _ _ hlt2).trans r1, (hc3 _ _ hlt3).trans r2⟩ (fun hHeld2 => ?_)
        clear hK K
        try simp only [Act.put, List.setIfInBounds_toArray, List.set_cons_zero, List.set_cons_succ]
        have q0 : w3.cell? ⟨wr.heap.size, 0, none⟩ = some (.int .i64 v.n) := (hc3 _ _ hlt2).trans r0
        have q1 : w3.cell? ⟨wr.heap.size, 1, none⟩ = some (.slice v.adr v.ws.length v.cap) := (hc3 _ _ hlt2).trans r1
        have q2 : w3.cell? ⟨w.heap.size, 0, none⟩ = some (.slice (some ⟨b, p, none⟩) k c) := (hc3 _ _ hlt3).trans r2
        have HB3 := Lib.hid (chain HB2.out.drew hb3)
        have HW3 := Lib.hid (HW2.out.drew.on hb3)
        have hlt4 : wr.heap.size < w3.heap.size := Nat.lt_of_lt_of_le hlt2 hb3.size
        have hlt5 : w.heap.size < w3.heap.size := Nat.lt_of_lt_of_le hlt3 hb3.size
        clear r0 r1 r2 hc3 hb3 HB2 HW2 HM2 hlt2 hlt3
        by_cases hz : v.n = L
        · have e1 : (v.n != L) = false := by simp [hz]
          have HZ := Lib.hid hz
          clear hz
          refine wpAnyH_take (i := 4) (oi := ⟨some 20, _, _, _, _, _⟩) (v := ?_) rfl (by kernel_rfl) (by kernel_rfl) (by kernel_rfl) (fun _ _ _ h => h) (Or.inl ⟨by kernel_rfl, ?_⟩) (by assumption) ?_
          rotate_left
          · (intro w hSw; (try dsimp only at hSw); go_simp; (try with_reducible rfl))
          try simp only [Act.put, List.setIfInBounds_toArray, List.set_cons_zero, List.set_cons_succ]
          refine wpAnyH_take (i := 5) (oi := ⟨some 21, _, _, _, _, _⟩) (v := ?_) rfl (by kernel_rfl) (by kernel_rfl) (by kernel_rfl) (fun _ _ _ h => h) (Or.inl ⟨by kernel_rfl, ?_⟩) (by assumption) ?_
          rotate_left
          · (intro w hSw; (try dsimp only at hSw); go_simp; (try with_reducible rfl))
          try simp only [Act.put, List.setIfInBounds_toArray, List.set_cons_zero, List.set_cons_succ]
          refine wpAnyH_take (i := 6) (oi := ⟨some 22, _, _, _, _, _⟩) (v := ?_) rfl (by kernel_rfl) (by kernel_rfl) (by kernel_rfl) (fun _ _ _ h => h) (Or.inl ⟨by kernel_rfl, ?_⟩) (by assumption) ?_
          rotate_left
          · (intro w hSw; (try dsimp only at hSw); go_simp; (try with_reducible rfl))
          try simp only [Act.put, List.setIfInBounds_toArray, List.set_cons_zero, List.set_cons_succ]
          refine wpAnyH_take (i := 7) (oi := ⟨some 23, _, _, _, _, _⟩) (v := ?_) rfl (by kernel_rfl) (by kernel_rfl) (by kernel_rfl) (fun _ _ _ h => h) (Or.inl ⟨by kernel_rfl, ?_⟩) (by assumption) ?_
          rotate_left
          · (intro w hSw; (try dsimp only at hSw); go_simp; (try with_reducible rfl))
          try simp only [Act.put, List.setIfInBounds_toArray, List.set_cons_zero, List.set_cons_succ]
          by_cases h300 : v.n ≤ 300
          · have e2 : decide (300 < v.n) = false := by simp; omega
            refine wpAnyH_take (i := 8) (oi := ⟨some 24, _, _, _, _, _⟩) (v := ?_) rfl (by kernel_rfl) (by kernel_rfl) (by kernel_rfl) (fun _ _ _ h => h) (Or.inl ⟨by kernel_rfl, ?_⟩) (by assumption) ?_
            rotate_left
            · (intro w hSw; (try dsimp only at hSw); go_simp; (try with_reducible rfl))
            try simp only [Act.put, List.setIfInBounds_toArray, List.set_cons_zero, List.set_cons_succ]
            refine wpAnyH_take (i := 9) (oi := ⟨some 25, _, _, _, _, _⟩) (v := ?_) rfl (by kernel_rfl) (by kernel_rfl) (by kernel_rfl) (fun _ _ _ h => h) (Or.inl ⟨by kernel_rfl, ?_⟩) (by assumption) ?_
            rotate_left
            · (intro w hSw; (try dsimp only at hSw); go_simp; (try with_reducible rfl))
            try simp only [Act.put, List.setIfInBounds_toArray, List.set_cons_zero, List.set_cons_succ]
            refine wpAnyH_take (i := 10) (oi := ⟨some 26, _, _, _, _, _⟩) (v := ?_) rfl (by kernel_rfl) (by kernel_rfl) (by kernel_rfl) (fun _ _ _ h => h) (Or.inl ⟨by kernel_rfl, ?_⟩) (by assumption) ?_
            rotate_left
            · (intro w hSw; (try dsimp only at hSw); go_simp; (try with_reducible rfl))
            try simp only [Act.put, List.setIfInBounds_toArray, List.set_cons_zero, List.set_cons_succ]
            refine wpAnyH_take (i := 11) (oi := ⟨some 27, _, _, _, _, _⟩) (v := ?_) rfl (by kernel_rfl) (by kernel_rfl) (by kernel_rfl) (fun _ _ _ h => h) (Or.inl ⟨by kernel_rfl, ?_⟩) (by assumption) ?_
            rotate_left
            · (intro w hSw; (try dsimp only at hSw); go_simp; (try with_reducible rfl))
            try simp only [Act.put, List.setIfInBounds_toArray, List.set_cons_zero, List.set_cons_succ]
            by_cases hV : ∃ m : Nat, v.n = m ∧ Valid m v.ws
            · have HGd := Lib.hid (show Good10 L v from ⟨HZ.out, h300, hV⟩)
              have HMy : Hid (∀ W, Words64 W W.heap.size v.adr v.ws → Calls Try.prog 45 #[.agg #[.int .i64 v.n, .slice v.adr v.ws.length v.cap]] W fun e w' => e = .returned (.bool true) ∧ Below W.heap.size W w') := by
                obtain ⟨m, hm, hVm⟩ := hV
                rw [hm]
                exact Lib.hid (fun W hW => may_yes m v.adr v.ws v.cap W hVm hW)
              clear hV
              refine wpAnyH_ready (rs := [12]) (by kernel_rfl) (by simp) ?_
              refine AllReadyH.cons (o := ⟨some 28, _, _, _, _, _⟩) rfl (fun K hK => ?_) AllReadyH.nil
              go_simp
              refine (HMy.out _ (by exact HW3.out)).mono ?_
              rintro e w4 ⟨rfl, hb4⟩
              have hc4 : ∀ b o, b < w3.heap.size → w4.cell? ⟨b, o, none⟩ = w3.cell? ⟨b, o, none⟩ := fun b o h => bcell hb4 b o h
              go_wp2_with fail
              refine hK.out _ _ ⟨(hc4 _ _ hlt4).trans q0, (hc4 _ _ hlt4).trans q1, (hc4 _ _ hlt5).trans q2⟩ (fun hHeld3 => ?_)
              clear hK K
              try simp only [Act.put, List.setIfInBounds_toArray, List.set_cons_zero, List.set_cons_succ]
              have HB4 := Lib.hid (chain HB3.out hb4)
              refine wpAnyH_take (i := 13) (oi := ⟨some 29, _, _, _, _, _⟩) (v := ?_) rfl (by kernel_rfl) (by kernel_rfl) (by kernel_rfl) (fun _ _ _ h => h) (Or.inl ⟨by kernel_rfl, ?_⟩) (by assumption) ?_
              rotate_left
              · (intro w hSw; (try dsimp only at hSw); go_simp; (try with_reducible rfl))
              try simp only [Act.put, List.setIfInBounds_toArray, List.set_cons_zero, List.set_cons_succ]
              refine wpAnyH_take (i := 14) (oi := ⟨some 30, _, _, _, _, _⟩) (v := ?_) rfl (by kernel_rfl) (by kernel_rfl) (by kernel_rfl) (fun _ _ _ h => h) (Or.inl ⟨by kernel_rfl, ?_⟩) (by assumption) ?_
              rotate_left
              · (intro w hSw; (try dsimp only at hSw); go_simp; (try with_reducible rfl))
              try simp only [Act.put, List.setIfInBounds_toArray, List.set_cons_zero, List.set_cons_succ]
              refine wpAnyH_done (by kernel_rfl) ?_ _
              clear hHeld1 hHeld2 hHeld3 q0 q1 q2 hc4 hb4
              go_wp2_with fail
              go_roundw
              case rel => exact ⟨i + 1, by omega, by go_num, (fun j u hj hu => by
                rcases Nat.lt_or_ge j i with h | h
                · exact HG.out j u h hu
                · obtain rfl : j = i := by omega
                  rw [HV.out] at hu
                  obtain rfl := Option.some.inj hu
                  exact HGd.out), HB4.out⟩
              case measure => simp [intOf]; omega
            · have HMy := Lib.hid (fun W hW => may_no v.n v.adr v.ws v.cap W (fun m hm hVm => hV ⟨m, hm, hVm⟩) hW)
              have HVn := Lib.hid hV
              clear hV
              refine wpAnyH_ready (rs := [12]) (by kernel_rfl) (by simp) ?_
              refine AllReadyH.cons (o := ⟨some 28, _, _, _, _, _⟩) rfl (fun K hK => ?_) AllReadyH.nil
              go_simp
              refine (HMy.out _ (by exact HW3.out)).mono ?_
              rintro e w4 ⟨rfl, hb4⟩
              have hc4 : ∀ b o, b < w3.heap.size → w4.cell? ⟨b, o, none⟩ = w3.cell? ⟨b, o, none⟩ := fun b o h => bcell hb4 b o h
              go_wp2_with fail
              refine hK.out _ _ ⟨(hc4 _ _ hlt4).trans q0, (hc4 _ _ hlt4).trans q1, (hc4 _ _ hlt5).trans q2⟩ (fun hHeld3 => ?_)
              clear hK K
              try simp only [Act.put, List.setIfInBounds_toArray, List.set_cons_zero, List.set_cons_succ]
              have HB4 := Lib.hid (chain HB3.out hb4)
              refine wpAnyH_take (i := 13) (oi := ⟨some 29, _, _, _, _, _⟩) (v := ?_) rfl (by kernel_rfl) (by kernel_rfl) (by kernel_rfl) (fun _ _ _ h => h) (Or.inl ⟨by kernel_rfl, ?_⟩) (by assumption) ?_
              rotate_left
              · (intro w hSw; (try dsimp only at hSw); go_simp; (try with_reducible rfl))
              try simp only [Act.put, List.setIfInBounds_toArray, List.set_cons_zero, List.set_cons_succ]
              refine wpAnyH_take (i := 14) (oi := ⟨some 30, _, _, _, _, _⟩) (v := ?_) rfl (by kernel_rfl) (by kernel_rfl) (by kernel_rfl) (fun _ _ _ h => h) (Or.inl ⟨by kernel_rfl, ?_⟩) (by assumption) ?_
              rotate_left
              · (intro w hSw; (try dsimp only at hSw); go_simp; (try with_reducible rfl))
              try simp only [Act.put, List.setIfInBounds_toArray, List.set_cons_zero, List.set_cons_succ]
              refine wpAnyH_done (by kernel_rfl) ?_ _
              clear hHeld3 hc4 hb4
              have HNo := Lib.hid (show ¬ Sound vs from fun h => HVn.out (h.2 v (List.mem_of_getElem? HV.out)).2.2)
              clear hHeld1 hHeld2 q0 q1 q2
              go_wp2_with fail
              go_ret
              exact ⟨false, rfl, ⟨(fun h => by cases h), fun h => absurd h HNo.out⟩, chain HB.out HB4.out⟩
          · have e2 : decide (300 < v.n) = true := by simp; omega
            refine wpAnyH_take (i := 8) (oi := ⟨some 24, _, _, _, _, _⟩) (v := ?_) rfl (by kernel_rfl) (by kernel_rfl) (by kernel_rfl) (fun _ _ _ h => h) (Or.inl ⟨by kernel_rfl, ?_⟩) (by assumption) ?_
            rotate_left
            · (intro w hSw; (try dsimp only at hSw); go_simp; (try with_reducible rfl))
            try simp only [Act.put, List.setIfInBounds_toArray, List.set_cons_zero, List.set_cons_succ]
            refine wpAnyH_take (i := 9) (oi := ⟨some 25, _, _, _, _, _⟩) (v := ?_) rfl (by kernel_rfl) (by kernel_rfl) (by kernel_rfl) (fun _ _ _ h => h) (Or.inl ⟨by kernel_rfl, ?_⟩) (by assumption) ?_
            rotate_left
            · (intro w hSw; (try dsimp only at hSw); go_simp; (try with_reducible rfl))
            try simp only [Act.put, List.setIfInBounds_toArray, List.set_cons_zero, List.set_cons_succ]
            refine wpAnyH_take (i := 10) (oi := ⟨some 26, _, _, _, _, _⟩) (v := ?_) rfl (by kernel_rfl) (by kernel_rfl) (by kernel_rfl) (fun _ _ _ h => h) (Or.inl ⟨by kernel_rfl, ?_⟩) (by assumption) ?_
            rotate_left
            · (intro w hSw; (try dsimp only at hSw); go_simp; (try with_reducible rfl))
            try simp only [Act.put, List.setIfInBounds_toArray, List.set_cons_zero, List.set_cons_succ]
            refine wpAnyH_take (i := 11) (oi := ⟨some 27, _, _, _, _, _⟩) (v := undef) rfl (by kernel_rfl) (by kernel_rfl) (by kernel_rfl) (fun _ _ _ h => h) (Or.inr ⟨by kernel_rfl, rfl⟩) (by assumption) ?_
            try simp only [Act.put, List.setIfInBounds_toArray, List.set_cons_zero, List.set_cons_succ]
            refine wpAnyH_take (i := 12) (oi := ⟨some 28, _, _, _, _, _⟩) (v := undef) rfl (by kernel_rfl) (by kernel_rfl) (by kernel_rfl) (fun _ _ _ h => h) (Or.inr ⟨by kernel_rfl, rfl⟩) (by assumption) ?_
            try simp only [Act.put, List.setIfInBounds_toArray, List.set_cons_zero, List.set_cons_succ]
            refine wpAnyH_take (i := 13) (oi := ⟨some 29, _, _, _, _, _⟩) (v := undef) rfl (by kernel_rfl) (by kernel_rfl) (by kernel_rfl) (fun _ _ _ h => h) (Or.inr ⟨by kernel_rfl, rfl⟩) (by assumption) ?_
            try simp only [Act.put, List.setIfInBounds_toArray, List.set_cons_zero, List.set_cons_succ]
            refine wpAnyH_take (i := 14) (oi := ⟨some 30, _, _, _, _, _⟩) (v := ?_) rfl (by kernel_rfl) (by kernel_rfl) (by kernel_rfl) (fun _ _ _ h => h) (Or.inl ⟨by kernel_rfl, ?_⟩) (by assumption) ?_
            rotate_left
            · (intro w hSw; (try dsimp only at hSw); go_simp; (try with_reducible rfl))
            try simp only [Act.put, List.setIfInBounds_toArray, List.set_cons_zero, List.set_cons_succ]
            refine wpAnyH_done (by kernel_rfl) ?_ _
            have HNo := Lib.hid (show ¬ Sound vs from fun h => h300 (h.2 v (List.mem_of_getElem? HV.out)).2.1)
            clear hHeld1 hHeld2 q0 q1 q2
            go_wp2_with fail
            go_ret
            exact ⟨false, rfl, ⟨(fun h => by cases h), fun h => absurd h HNo.out⟩, chain HB.out HB3.out⟩
        · have e1 : (v.n != L) = true := by simpa using hz
          refine wpAnyH_take (i := 4) (oi := ⟨some 20, _, _, _, _, _⟩) (v := ?_) rfl (by kernel_rfl) (by kernel_rfl) (by kernel_rfl) (fun _ _ _ h => h) (Or.inl ⟨by kernel_rfl, ?_⟩) (by assumption) ?_
          rotate_left
          · (intro w hSw; (try dsimp only at hSw); go_simp; (try with_reducible rfl))
          try simp only [Act.put, List.setIfInBounds_toArray, List.set_cons_zero, List.set_cons_succ]
          refine wpAnyH_take (i := 5) (oi := ⟨some 21, _, _, _, _, _⟩) (v := ?_) rfl (by kernel_rfl) (by kernel_rfl) (by kernel_rfl) (fun _ _ _ h => h) (Or.inl ⟨by kernel_rfl, ?_⟩) (by assumption) ?_
          rotate_left
          · (intro w hSw; (try dsimp only at hSw); go_simp; (try with_reducible rfl))
          try simp only [Act.put, List.setIfInBounds_toArray, List.set_cons_zero, List.set_cons_succ]
          refine wpAnyH_take (i := 6) (oi := ⟨some 22, _, _, _, _, _⟩) (v := undef) rfl (by kernel_rfl) (by kernel_rfl) (by kernel_rfl) (fun _ _ _ h => h) (Or.inr ⟨by kernel_rfl, rfl⟩) (by assumption) ?_
          try simp only [Act.put, List.setIfInBounds_toArray, List.set_cons_zero, List.set_cons_succ]
          refine wpAnyH_take (i := 7) (oi := ⟨some 23, _, _, _, _, _⟩) (v := undef) rfl (by kernel_rfl) (by kernel_rfl) (by kernel_rfl) (fun _ _ _ h => h) (Or.inr ⟨by kernel_rfl, rfl⟩) (by assumption) ?_
          try simp only [Act.put, List.setIfInBounds_toArray, List.set_cons_zero, List.set_cons_succ]
          refine wpAnyH_take (i := 8) (oi := ⟨some 24, _, _, _, _, _⟩) (v := undef) rfl (by kernel_rfl) (by kernel_rfl) (by kernel_rfl) (fun _ _ _ h => h) (Or.inr ⟨by kernel_rfl, rfl⟩) (by assumption) ?_
          try simp only [Act.put, List.setIfInBounds_toArray, List.set_cons_zero, List.set_cons_succ]
          refine wpAnyH_take (i := 9) (oi := ⟨some 25, _, _, _, _, _⟩) (v := ?_) rfl (by kernel_rfl) (by kernel_rfl) (by kernel_rfl) (fun _ _ _ h => h) (Or.inl ⟨by kernel_rfl, ?_⟩) (by assumption) ?_
          rotate_left
          · (intro w hSw; (try dsimp only at hSw); go_simp; (try with_reducible rfl))
          try simp only [Act.put, List.setIfInBounds_toArray, List.set_cons_zero, List.set_cons_succ]
          refine wpAnyH_take (i := 10) (oi := ⟨some 26, _, _, _, _, _⟩) (v := ?_) rfl (by kernel_rfl) (by kernel_rfl) (by kernel_rfl) (fun _ _ _ h => h) (Or.inl ⟨by kernel_rfl, ?_⟩) (by assumption) ?_
          rotate_left
          · (intro w hSw; (try dsimp only at hSw); go_simp; (try with_reducible rfl))
          try simp only [Act.put, List.setIfInBounds_toArray, List.set_cons_zero, List.set_cons_succ]
          refine wpAnyH_take (i := 11) (oi := ⟨some 27, _, _, _, _, _⟩) (v := undef) rfl (by kernel_rfl) (by kernel_rfl) (by kernel_rfl) (fun _ _ _ h => h) (Or.inr ⟨by kernel_rfl, rfl⟩) (by assumption) ?_
          try simp only [Act.put, List.setIfInBounds_toArray, List.set_cons_zero, List.set_cons_succ]
          refine wpAnyH_take (i := 12) (oi := ⟨some 28, _, _, _, _, _⟩) (v := undef) rfl (by kernel_rfl) (by kernel_rfl) (by kernel_rfl) (fun _ _ _ h => h) (Or.inr ⟨by kernel_rfl, rfl⟩) (by assumption) ?_
          try simp only [Act.put, List.setIfInBounds_toArray, List.set_cons_zero, List.set_cons_succ]
          refine wpAnyH_take (i := 13) (oi := ⟨some 29, _, _, _, _, _⟩) (v := undef) rfl (by kernel_rfl) (by kernel_rfl) (by kernel_rfl) (fun _ _ _ h => h) (Or.inr ⟨by kernel_rfl, rfl⟩) (by assumption) ?_
          try simp only [Act.put, List.setIfInBounds_toArray, List.set_cons_zero, List.set_cons_succ]
          refine wpAnyH_take (i := 14) (oi := ⟨some 30, _, _, _, _, _⟩) (v := ?_) rfl (by kernel_rfl) (by kernel_rfl) (by kernel_rfl) (fun _ _ _ h => h) (Or.inl ⟨by kernel_rfl, ?_⟩) (by assumption) ?_
          rotate_left
          · (intro w hSw; (try dsimp only at hSw); go_simp; (try with_reducible rfl))
          try simp only [Act.put, List.setIfInBounds_toArray, List.set_cons_zero, List.set_cons_succ]
          refine wpAnyH_done (by kernel_rfl) ?_ _
          have HNo := Lib.hid (show ¬ Sound vs from fun h => hz (by have := (h.2 v (List.mem_of_getElem? HV.out)).1; rwa [HLL.out] at this))
          clear hHeld1 hHeld2 q0 q1 q2
          go_wp2_with fail
          go_ret
          exact ⟨false, rfl, ⟨(fun h => by cases h), fun h => absurd h HNo.out⟩, chain HB.out HB3.out⟩
      · obtain rfl : k = i := by omega
        have hall : Sound vs := HS.out.1 fun v hv => by
          obtain ⟨j, hj, rfl⟩ := List.getElem_of_mem hv
          exact HG.out j _ (by have := HK.out; omega) (List.getElem?_eq_getElem hj)
        have HA := Lib.hid hall
        have HBL := Lib.hid hbl
        clear hall hbl
        go_wp2_with fail
        go_ret
        exact ⟨true, rfl, ⟨fun _ => HA.out, fun _ => rfl⟩, chain HB.out HBL.out⟩
  · have hd : decide (21 < (vs.length : Int)) = true := by simp; omega
    have HN := Lib.hid (show ¬ Sound vs from fun h => h21 h.1)
    clear hM h21
    generalize vs.length = k at *
    go_enter Try.func17, Try.ntmps17
    go_wp2_with fail
    go_ret
    exact ⟨false, rfl, ⟨(fun h => by cases h), fun h => absurd h HN.out⟩, bnew _ _⟩

theorem wmay_yes (A : Option Addr) (vs : List Lev) (c : Nat) (w : World) (hS : Sound vs) (hM : Mat w w.heap.size A vs) :
    Calls Try.prog 17 #[.agg #[.slice A vs.length c]] w fun e w' => e = .returned (.bool true) ∧ Below w.heap.size w w' :=
  (wmay_any A vs c w (by have := hS.1; omega) hM).mono fun _ _ ⟨r, he, hr, hb⟩ => ⟨by rw [he, hr.2 hS], hb⟩
theorem wmay_no (A : Option Addr) (vs : List Lev) (c : Nat) (w : World) (hk : vs.length ≤ 17592186044416) (hS : ¬ Sound vs) (hM : Mat w w.heap.size A vs) :
    Calls Try.prog 17 #[.agg #[.slice A vs.length c]] w fun e w' => e = .returned (.bool false) ∧ Below w.heap.size w w' :=
  (wmay_any A vs c w hk hM).mono fun _ _ ⟨r, he, hr, hb⟩ => ⟨by cases r with | false => exact he | true => exact absurd (hr.1 rfl) hS, hb⟩

/-- A valid matrix of n numbers. -/
structure WV (n : Nat) (vs : List Lev) : Prop where
  few : vs.length ≤ 21
  hi : n ≤ 300
  len : lenOf vs = n
  each : ∀ v ∈ vs, v.n = (n : Int) ∧ Valid n v.ws
theorem WV.sound {n : Nat} {vs : List Lev} (h : WV n vs) : Sound vs :=
  ⟨h.few, fun v hv => ⟨by rw [h.len]; exact (h.each v hv).1, by have := (h.each v hv).1; have := h.hi; omega, n, (h.each v hv).1, (h.each v hv).2⟩⟩
theorem Sound.wv {vs : List Lev} (h : Sound vs) : ∃ n, WV n vs := by
  cases vs with
  | nil => exact ⟨0, h.1, by omega, rfl, fun v hv => by cases hv⟩
  | cons v r =>
    obtain ⟨h1, h2, m, h3, h4⟩ := h.2 v (by simp)
    refine ⟨m, h.1, by omega, h3, fun u hu => ?_⟩
    obtain ⟨g1, g2, k, g3, g4⟩ := h.2 u hu
    have e : u.n = (m : Int) := by rw [g1]; exact h3
    have ek : k = m := by omega
    exact ⟨e, by rw [← ek]; exact g4⟩
/-- The levels, each as a function. -/
def fns (vs : List Lev) : List (Nat → Bool) := vs.map fun v => bit v.ws
theorem fns_length (vs : List Lev) : (fns vs).length = vs.length := by simp [fns]
theorem fns_drop (vs : List Lev) (i : Nat) (v : Lev) (h : vs[i]? = some v) : (fns vs).drop i = bit v.ws :: (fns vs).drop (i + 1) := by
  obtain ⟨hi, rfl⟩ := List.getElem?_eq_some_iff.1 h
  unfold fns
  rw [List.drop_eq_getElem_cons (by simpa using hi)]
  simp

/-- wave.check of what is not valid. -/
theorem wcheck_form (A : Option Addr) (vs : List Lev) (c : Nat) (a b : Int) (w : World) (hk : vs.length ≤ 17592186044416) (hS : ¬ Sound vs) (hM : Mat w w.heap.size A vs) :
    Calls Try.prog 49 #[.agg #[.slice A vs.length c], .int .i64 a, .int .i64 b] w fun e w' => e = .returned (.int .i64 4) ∧ Below w.heap.size w w' := by
  have HMy := Lib.hid (fun W hW => wmay_no A vs c W hk hS hW)
  have HM := Lib.hid hM
  clear hM hS
  generalize vs.length = k at *
  go_enter Try.func49, Try.ntmps49
  go_wp2_with fail
  refine (HMy.out _ (by exact HM.out.alloc _)).mono ?_
  rintro e w1 ⟨rfl, hb1⟩
  go_wp2
  go_ret
  exact ⟨rfl, chain (bnew _ _) hb1⟩

set_option maxHeartbeats 1000000 in
/-- wave.check of a range that is none. -/
theorem wcheck_out (A : Option Addr) (vs : List Lev) (c : Nat) (a b : Int) (w : World) (hS : Sound vs) (hM : Mat w w.heap.size A vs) (h : a < 0 ∨ b < a ∨ lenOf vs < b) :
    Calls Try.prog 49 #[.agg #[.slice A vs.length c], .int .i64 a, .int .i64 b] w fun e w' => e = .returned (.int .i64 2) ∧ Below w.heap.size w w' := by
  have HMy := Lib.hid (fun W hW => wmay_yes A vs c W hS hW)
  have HLn := Lib.hid (fun W hW => length_any A vs c W hW)
  have HM := Lib.hid hM
  clear hM hS
  generalize vs.length = k at *
  generalize lenOf vs = L at *
  have hh : a < 0 ∨ (¬ a < 0 ∧ b < a) ∨ (¬ a < 0 ∧ ¬ b < a ∧ L < b) := by omega
  clear h
  rcases hh with h0 | ⟨h0, h1⟩ | ⟨h0, h1, h2⟩
  all_goals
    go_enter Try.func49, Try.ntmps49
    go_wp2_with fail
    refine (HMy.out _ (by exact HM.out.alloc _)).mono ?_
    rintro e w1 ⟨rfl, hb1⟩
    have hc1 := bcell hb1
    have HMr := Lib.hid ((HM.out.alloc (.cells #[.slice A k c] 25)).on hb1)
    have HB := Lib.hid (chain (bnew _ _) hb1)
    clear hb1
    go_wp2_with (go_at_call 44; refine (HLn.out _ (by exact HMr.out)).mono ?_; rintro e w2 ⟨rfl, hb2⟩)
    go_ret
    first | exact ⟨rfl, HB.out⟩ | exact ⟨rfl, chain HB.out hb2⟩

set_option maxHeartbeats 1000000 in
/-- wave.check of a range. -/
theorem wcheck_in (A : Option Addr) (vs : List Lev) (c : Nat) (a b : Int) (w : World) (hS : Sound vs) (hM : Mat w w.heap.size A vs) (h0 : 0 ≤ a) (h1 : a ≤ b) (h2 : b ≤ lenOf vs) :
    Calls Try.prog 49 #[.agg #[.slice A vs.length c], .int .i64 a, .int .i64 b] w fun e w' => e = .returned (.int .i64 0) ∧ Below w.heap.size w w' := by
  have HMy := Lib.hid (fun W hW => wmay_yes A vs c W hS hW)
  have HLn := Lib.hid (fun W hW => length_any A vs c W hW)
  have HM := Lib.hid hM
  clear hM hS
  generalize vs.length = k at *
  generalize lenOf vs = L at *
  have d0 : decide (a < 0) = false := by simp; omega
  have d1 : decide (b < a) = false := by simp; omega
  have d2 : decide (L < b) = false := by simp; omega
  go_enter Try.func49, Try.ntmps49
  go_wp2_with fail
  refine (HMy.out _ (by exact HM.out.alloc _)).mono ?_
  rintro e w1 ⟨rfl, hb1⟩
  have hc1 := bcell hb1
  have HMr := Lib.hid ((HM.out.alloc (.cells #[.slice A k c] 25)).on hb1)
  have HB := Lib.hid (chain (bnew _ _) hb1)
  clear hb1
  go_wp2_with (go_at_call 44; refine (HLn.out _ (by exact HMr.out)).mono ?_; rintro e w2 ⟨rfl, hb2⟩)
  go_ret
  exact ⟨rfl, chain HB.out hb2⟩
end Go.Proofs.Ytjgibbccjijpaaa
