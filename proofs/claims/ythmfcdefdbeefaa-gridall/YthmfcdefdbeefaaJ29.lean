/-
  What container/heap's up, down, Push, Pop and Init do to whatever heap: contracts, walked over the translated text; the five methods' contracts are a premise. What container/heap's down, Push, Pop and Init do to whatever heap: contracts, walked over the translated text; the five methods' contracts are a premise. What container/heap's Push, Pop and Init do to whatever heap: contracts, walked over the translated text; the five methods' contracts are a premise. No condition but what each theorem names.
-/
import Derived.Test.YthmfcdefdbeefaaJ02
import Derived.Test.YthmfcdefdbeefaaJ04
import Derived.IntWalk
import Derived.Shelf.Abstract
namespace Go.Proofs.Ythmfcdefdbeefaa
open Go.RowKit Go.Sort
variable {α : Type} [Inhabited α]

/-- How a method of the interface value is reached, and that its function is entered. -/
structure Has (T : TypeId) (rv : Value) (name : String) (f : Nat) : Prop where
  finds : ∀ w, (method 282 T rv name).run Try.prog w = .ok (f, rv) w
  enters : ∀ args w, (callFunc f args).run Try.prog w = .ok (.enter f args) w
/-- What is asked of the methods: 'HM d W': at the world W the heap holds the array d. -/
structure HeapT (T : TypeId) (rv : Value) (lt : α → α → Bool) (enc : α → Value) (HM : Array α → World → Prop) (Ok : α → Prop) (fLen fLess fSwap fPush fPop : Nat) : Prop where
  hLen : Has T rv "Len" fLen
  hLess : Has T rv "Less" fLess
  hSwap : Has T rv "Swap" fSwap
  hPush : Has T rv "Push" fPush
  hPop : Has T rv "Pop" fPop
  len : ∀ d W, HM d W → Calls Try.prog fLen #[rv] W fun e w' => e = .returned (.int .i64 (d.size : Nat)) ∧ HM d w'
  less : ∀ d W (i j : Nat), HM d W → i < d.size → j < d.size → Calls Try.prog fLess #[rv, .int .i64 i, .int .i64 j] W fun e w' => e = .returned (.bool (lt d[i]! d[j]!)) ∧ HM d w'
  swap : ∀ d W (i j : Nat), HM d W → i < d.size → j < d.size → Calls Try.prog fSwap #[rv, .int .i64 i, .int .i64 j] W fun e w' => e = .returned (.tuple #[]) ∧ HM (swp d i j) w'
  push : ∀ d W x, HM d W → Ok x → d.size ≤ 1000000 → Calls Try.prog fPush #[rv, enc x] W fun e w' => e = .returned (.tuple #[]) ∧ HM (d.push x) w'
  pop : ∀ d W x, HM (d.push x) W → d.size ≤ 1000000 → Calls Try.prog fPop #[rv] W fun e w' => e = .returned (enc x) ∧ HM d w'

/-- The call has returned; the array's values have changed their places. -/
def Heaped (lt : α → α → Bool) (HM : Array α → World → Prop) (d : Array α) (n lo : Nat) (w' : World) : Prop := ∃ d' : Array α, d'.size = d.size ∧ d'.toList.Perm d.toList ∧ HeapF lt (rowA d') n lo ∧ (∀ k, n ≤ k → rowA d' k = rowA d k) ∧ HM d' w'

set_option maxHeartbeats 1000000 in
/-- heap.up. -/
theorem up_any10 {T : TypeId} {rv : Value} {lt : α → α → Bool} {enc : α → Value} {HM : Array α → World → Prop} {Ok : α → Prop} {f1 f2 f3 f4 f5 : Nat} (hT : HeapT T rv lt enc HM Ok f1 f2 f3 f4 f5) (hS : SWO lt) (d : Array α) (j : Nat) (w : World) (hj : j < d.size) (hsz : d.size ≤ 1000000) (hM : HM d w) (hU : UpI lt (rowA d) d.size j) :
    Calls Try.prog 71 #[.iface T rv, .int .i64 j] w fun e w' => e = .returned (.tuple #[]) ∧ Heaped lt HM d d.size 0 w' := by
  have mL := hT.hLess.finds
  have eL := hT.hLess.enters
  have mS := hT.hSwap.finds
  have eS := hT.hSwap.enters
  have HL := Lib.hid hT.less
  have HW := Lib.hid hT.swap
  have HU := Lib.hid hU
  have HM0 := Lib.hid hM
  have HS := Lib.hid hS
  have hout : ∀ dk : Array α, dk.size = d.size → ∀ k, d.size ≤ k → rowA dk k = rowA d k := fun dk h k hk => by unfold rowA; rw [getElem!_neg dk k (by omega), getElem!_neg d k (by omega)]
  clear hT hU hM hS
  go_enter Try.func71, Try.ntmps71
  go_wp2_with fail
  go_loopw [1] (fun u w' => ∃ (i : Nat) (dk : Array α), u = .int .i64 i ∧ i < d.size ∧ dk.size = d.size ∧ dk.toList.Perm d.toList ∧ UpI lt (rowA dk) d.size i ∧ HM dk w') (fun u _ => (intOf u).toNat)
  case atStart => exact ⟨j, d, rfl, hj, rfl, .refl _, HU.out, HM0.out⟩
  case round =>
    obtain ⟨i, dk, rfl, hi, hds, hpm, hu, hm⟩ := hrel
    have HP := Lib.hid hpm
    have HUk := Lib.hid hu
    have HMk := Lib.hid hm
    clear hpm hu hm
    rcases Nat.eq_zero_or_pos i with h0 | h0
    · subst h0
      have HF := Lib.hid (HUk.out.stop (.inl rfl))
      go_wp2_with fail
      go_end0
      exact ⟨rfl, dk, hds, HP.out, HF.out, hout dk hds, HMk.out⟩
    · obtain ⟨p, hp⟩ : ∃ p, par i = p := ⟨_, rfl⟩
      have hpi : p < i := by rw [← hp]; exact par_lt h0
      have hq : ((i : Int) - 1).tdiv 2 = (p : Int) := by
        rw [← hp]; unfold par
        rw [show (i : Int) - 1 = ((i - 1 : Nat) : Int) by omega, show (2 : Int) = ((2 : Nat) : Int) from rfl, ← Int.ofNat_tdiv]
      have hne : ((p : Int) == (i : Int)) = false := by simp; omega
      have HC := Lib.hid (HL.out dk _ i p HMk.out (by omega) (by omega))
      cases hv : lt dk[i]! dk[p]! with
      | true =>
        rw [hv] at HC
        have HN := Lib.hid (HUk.out.step HS.out h0 hi (by rw [hp]; exact hv))
        rw [hp, ← rowA_swp dk (i := p) (j := i) (by omega) (by omega)] at HN
        go_wp2_with (go_at_fn f2; refine HC.out.mono ?_; rintro e w' ⟨rfl, hm1⟩)
        refine (HW.out dk _ p i hm1 (by omega) (by omega)).mono ?_
        rintro e w2 ⟨rfl, hm2⟩
        go_wp2_with fail
        go_roundw
        case rel => exact ⟨p, swp dk p i, rfl, by omega, by rw [size_swp]; exact hds, (swp_perm dk (by omega) (by omega)).trans HP.out, HN.out, hm2⟩
        case measure => simp [intOf]; omega
      | false =>
        rw [hv] at HC
        have HF := Lib.hid (HUk.out.stop (.inr (by rw [hp]; exact hv)))
        go_wp2_with (go_at_fn f2; refine HC.out.mono ?_; rintro e w' ⟨rfl, hm1⟩)
        go_end0
        exact ⟨rfl, dk, hds, HP.out, HF.out, hout dk hds, hm1⟩
end Go.Proofs.Ythmfcdefdbeefaa

namespace Go.Proofs.Ythmfcdefdbeefaa
open Go.RowKit Go.Sort
variable {α : Type} [Inhabited α]

set_option maxHeartbeats 2000000 in
/-- heap.down, over the first n. -/
theorem down_any10 {T : TypeId} {rv : Value} {lt : α → α → Bool} {enc : α → Value} {HM : Array α → World → Prop} {Ok : α → Prop} {f1 f2 f3 f4 f5 : Nat} (hT : HeapT T rv lt enc HM Ok f1 f2 f3 f4 f5) (hS : SWO lt) (d : Array α) (i0 n : Nat) (w : World) (hi0 : i0 ≤ 1000000) (hn : n ≤ d.size) (hsz : d.size ≤ 1000000) (hM : HM d w) (hD : HeapF lt (rowA d) n (i0 + 1)) :
    Calls Try.prog 72 #[.iface T rv, .int .i64 i0, .int .i64 n] w fun e w' => (∃ t, e = .returned (.bool t) ∧ Heaped lt HM d n i0 w') := by
  have mL := hT.hLess.finds
  have eL := hT.hLess.enters
  have mS := hT.hSwap.finds
  have eS := hT.hSwap.enters
  have HL := Lib.hid hT.less
  have HW := Lib.hid hT.swap
  have HD := Lib.hid (DownI.start hD)
  have HM0 := Lib.hid hM
  have HS := Lib.hid hS
  clear hT hD hM hS
  go_enter Try.func72, Try.ntmps72
  go_wp2_with fail
  go_loopw [7] (fun u w' => ∃ (i : Nat) (dk : Array α), u = .int .i64 i ∧ i ≤ 1000000 ∧ i0 ≤ i ∧ dk.size = d.size ∧ dk.toList.Perm d.toList ∧ DownI lt (rowA dk) n i0 i ∧ (∀ k, n ≤ k → rowA dk k = rowA d k) ∧ HM dk w') (fun u _ => n - (intOf u).toNat)
  case atStart => exact ⟨i0, d, rfl, hi0, Nat.le_refl _, rfl, .refl _, HD.out, fun _ _ => rfl, HM0.out⟩
  case round =>
    obtain ⟨i, dk, rfl, hi, hii, hds, hpm, hd, hou, hm⟩ := hrel
    have HP := Lib.hid hpm
    have HDk := Lib.hid hd
    have HOu := Lib.hid hou
    have HMk := Lib.hid hm
    clear hpm hd hou hm
    obtain ⟨s, hs⟩ : ∃ s, 2 * i + 1 = s := ⟨_, rfl⟩
    obtain ⟨t, ht⟩ : ∃ t, s + 1 = t := ⟨_, rfl⟩
    have e1 : 2 * (i : Int) + 1 = (s : Int) := by omega
    have e2 : (s : Int) + 1 = (t : Int) := by omega
    have hsb : s ≤ 2000001 := by omega
    by_cases hsn : s < n
    · have HLl := Lib.hid (fun (h : t < n → lt (rowA dk t) (rowA dk s) = false) => show LeastKid lt (rowA dk) n i s from hs ▸ least_left HS.out (by omega) (fun h2 => by rw [show 2 * i + 2 = t by omega, hs]; exact h (by omega)))
      have HLr := Lib.hid (fun (h1 : t < n) (h : lt (rowA dk t) (rowA dk s) = true) => show LeastKid lt (rowA dk) n i t from (show 2 * i + 2 = t by omega) ▸ least_right HS.out (by omega) (by rw [show 2 * i + 2 = t by omega, hs]; exact h))
      have his : i < s := by omega
      have hit : i < t := by omega
      clear hs ht
      by_cases htn : t < n
      · have HC1 := Lib.hid (HL.out dk _ t s HMk.out (by omega) (by omega))
        cases hv : lt dk[t]! dk[s]! with
        | true =>
          rw [hv] at HC1
          have HK := Lib.hid (HLr.out htn hv)
          clear HLl HLr
          go_wp2_with fail
          refine HC1.out.mono ?_
          rintro e w1 ⟨rfl, hm1⟩
          have HC2 := Lib.hid (HL.out dk _ t i hm1 (by omega) (by omega))
          cases hv2 : lt dk[t]! dk[i]! with
          | true =>
            rw [hv2] at HC2
            have HN := Lib.hid (HDk.out.step HS.out HK.out hv2)
            rw [← rowA_swp dk (i := i) (j := t) (by omega) (by omega)] at HN
            have HOn := Lib.hid (fun k (hk : n ≤ k) => show rowA (swp dk i t) k = rowA d k by rw [rowA_swp dk (by omega) (by omega), exF_far _ (by omega) (by omega)]; exact HOu.out k hk)
            go_wp2_with fail
            refine HC2.out.mono ?_
            rintro e w2 ⟨rfl, hm2⟩
            go_wp2_with fail
            refine (HW.out dk _ i t hm2 (by omega) (by omega)).mono ?_
            rintro e w3 ⟨rfl, hm3⟩
            go_wp2_with fail
            go_roundw
            case rel => exact ⟨t, swp dk i t, rfl, by omega, by omega, by rw [size_swp]; exact hds, (swp_perm dk (by omega) (by omega)).trans HP.out, HN.out, HOn.out, hm3⟩
            case measure => simp [intOf]; omega
          | false =>
            rw [hv2] at HC2
            have HF := Lib.hid (HDk.out.stop HS.out HK.out hv2)
            go_wp2_with fail
            refine HC2.out.mono ?_
            rintro e w2 ⟨rfl, hm2⟩
            rcases Nat.lt_or_ge i0 i with hgt | hgt
            · go_wp2_with fail
              go_ret
              exact ⟨_, rfl, dk, hds, HP.out, HF.out, HOu.out, hm2⟩
            · go_wp2_with fail
              go_ret
              exact ⟨_, rfl, dk, hds, HP.out, HF.out, HOu.out, hm2⟩
        | false =>
          rw [hv] at HC1
          have HK := Lib.hid (HLl.out (fun _ => hv))
          clear HLl HLr
          go_wp2_with fail
          refine HC1.out.mono ?_
          rintro e w1 ⟨rfl, hm1⟩
          have HC2 := Lib.hid (HL.out dk _ s i hm1 (by omega) (by omega))
          cases hv2 : lt dk[s]! dk[i]! with
          | true =>
            rw [hv2] at HC2
            have HN := Lib.hid (HDk.out.step HS.out HK.out hv2)
            rw [← rowA_swp dk (i := i) (j := s) (by omega) (by omega)] at HN
            have HOn := Lib.hid (fun k (hk : n ≤ k) => show rowA (swp dk i s) k = rowA d k by rw [rowA_swp dk (by omega) (by omega), exF_far _ (by omega) (by omega)]; exact HOu.out k hk)
            go_wp2_with fail
            refine HC2.out.mono ?_
            rintro e w2 ⟨rfl, hm2⟩
            go_wp2_with fail
            refine (HW.out dk _ i s hm2 (by omega) (by omega)).mono ?_
            rintro e w3 ⟨rfl, hm3⟩
            go_wp2_with fail
            go_roundw
            case rel => exact ⟨s, swp dk i s, rfl, by omega, by omega, by rw [size_swp]; exact hds, (swp_perm dk (by omega) (by omega)).trans HP.out, HN.out, HOn.out, hm3⟩
            case measure => simp [intOf]; omega
          | false =>
            rw [hv2] at HC2
            have HF := Lib.hid (HDk.out.stop HS.out HK.out hv2)
            go_wp2_with fail
            refine HC2.out.mono ?_
            rintro e w2 ⟨rfl, hm2⟩
            rcases Nat.lt_or_ge i0 i with hgt | hgt
            · go_wp2_with fail
              go_ret
              exact ⟨_, rfl, dk, hds, HP.out, HF.out, HOu.out, hm2⟩
            · go_wp2_with fail
              go_ret
              exact ⟨_, rfl, dk, hds, HP.out, HF.out, HOu.out, hm2⟩
      · have HK := Lib.hid (HLl.out (fun h => absurd h htn))
        clear HLl HLr
        have HC2 := Lib.hid (HL.out dk _ s i HMk.out (by omega) (by omega))
        cases hv2 : lt dk[s]! dk[i]! with
        | true =>
          rw [hv2] at HC2
          have HN := Lib.hid (HDk.out.step HS.out HK.out hv2)
          rw [← rowA_swp dk (i := i) (j := s) (by omega) (by omega)] at HN
          have HOn := Lib.hid (fun k (hk : n ≤ k) => show rowA (swp dk i s) k = rowA d k by rw [rowA_swp dk (by omega) (by omega), exF_far _ (by omega) (by omega)]; exact HOu.out k hk)
          go_wp2_with fail
          refine HC2.out.mono ?_
          rintro e w2 ⟨rfl, hm2⟩
          go_wp2_with fail
          refine (HW.out dk _ i s hm2 (by omega) (by omega)).mono ?_
          rintro e w3 ⟨rfl, hm3⟩
          go_wp2_with fail
          go_roundw
          case rel => exact ⟨s, swp dk i s, rfl, by omega, by omega, by rw [size_swp]; exact hds, (swp_perm dk (by omega) (by omega)).trans HP.out, HN.out, HOn.out, hm3⟩
          case measure => simp [intOf]; omega
        | false =>
          rw [hv2] at HC2
          have HF := Lib.hid (HDk.out.stop HS.out HK.out hv2)
          go_wp2_with fail
          refine HC2.out.mono ?_
          rintro e w2 ⟨rfl, hm2⟩
          rcases Nat.lt_or_ge i0 i with hgt | hgt
          · go_wp2_with fail
            go_ret
            exact ⟨_, rfl, dk, hds, HP.out, HF.out, HOu.out, hm2⟩
          · go_wp2_with fail
            go_ret
            exact ⟨_, rfl, dk, hds, HP.out, HF.out, HOu.out, hm2⟩
    · have HF := Lib.hid (HDk.out.leaf (show n ≤ 2 * i + 1 by omega))
      clear hs ht
      rcases Nat.lt_or_ge i0 i with hgt | hgt
      · go_wp2_with fail
        go_ret
        exact ⟨_, rfl, dk, hds, HP.out, HF.out, HOu.out, HMk.out⟩
      · go_wp2_with fail
        go_ret
        exact ⟨_, rfl, dk, hds, HP.out, HF.out, HOu.out, HMk.out⟩
end Go.Proofs.Ythmfcdefdbeefaa

namespace Go.Proofs.Ythmfcdefdbeefaa
open Go.RowKit Go.Sort
variable {α : Type} [Inhabited α]

theorem rowA_push (d : Array α) (x : α) {k : Nat} (hk : k < d.size) : rowA (d.push x) k = rowA d k := by
  unfold rowA
  rw [getElem!_pos (d.push x) k (by simp; omega), getElem!_pos d k hk, Array.getElem_push_lt hk]
theorem rowA_last (d : Array α) (x : α) : rowA (d.push x) d.size = x := by
  unfold rowA
  rw [getElem!_pos (d.push x) d.size (by simp)]
  simp
theorem up_of_push {lt : α → α → Bool} {d : Array α} {x : α} (h : HeapF lt (rowA d) d.size 0) : UpI lt (rowA (d.push x)) (d.push x).size d.size := by
  have h2 : HeapF lt (rowA (d.push x)) d.size 0 := h.eq fun k hk => rowA_push d x hk
  rw [Array.size_push]
  exact UpI.start h2
theorem pop_push (d : Array α) {n : Nat} (h : d.size = n + 1) : d = d.pop.push (rowA d n) := by
  apply Array.ext
  · simp; omega
  · intro i h1 h2
    by_cases hi : i < n
    · rw [Array.getElem_push_lt (by simp; omega)]
      simp
    · obtain rfl : i = n := by omega
      have hx : rowA d i = d[i] := getElem!_pos d i (by omega)
      rw [Array.getElem_push, dif_neg (by simp; omega)]
      exact hx.symm

set_option maxHeartbeats 1000000 in
/-- heap.Push. -/
theorem push_any10 {T : TypeId} {rv : Value} {lt : α → α → Bool} {enc : α → Value} {HM : Array α → World → Prop} {Ok : α → Prop} {f1 f2 f3 f4 f5 : Nat} (hT : HeapT T rv lt enc HM Ok f1 f2 f3 f4 f5) (hS : SWO lt) (d : Array α) (x : α) (w : World) (hx : Ok x) (hsz : d.size < 1000000) (hM : HM d w) (hH : HeapF lt (rowA d) d.size 0) :
    Calls Try.prog 52 #[.iface T rv, enc x] w fun e w' => e = .returned (.tuple #[]) ∧ ∃ d' : Array α, d'.size = d.size + 1 ∧ d'.toList.Perm (x :: d.toList) ∧ HeapF lt (rowA d') d'.size 0 ∧ HM d' w' := by
  have mP := hT.hPush.finds
  have eP := hT.hPush.enters
  have mN := hT.hLen.finds
  have eN := hT.hLen.enters
  have HP := Lib.hid (hT.push d w x hM hx (by omega))
  have HN := Lib.hid hT.len
  have HU := Lib.hid (fun W hW => up_any10 hT hS (d.push x) d.size W (by simp) (by simp; omega) hW (up_of_push hH))
  have HSz := Lib.hid (show (d.push x).size = d.size + 1 by simp)
  obtain ⟨n, hn⟩ : ∃ n, d.size = n := ⟨_, rfl⟩
  have HPm := Lib.hid (show (d.push x).toList.Perm (x :: d.toList) by simp)
  generalize d.push x = dp at *
  rw [hn] at HU HSz hsz ⊢
  clear hT hS hM hH hn hx
  obtain ⟨m, hm⟩ : ∃ m, n + 1 = m := ⟨_, rfl⟩
  rw [hm] at HSz ⊢
  have hmn : (m : Int) - 1 = (n : Int) := by omega
  clear hm
  have HLn := Lib.hid (fun W hW => HN.out dp W hW)
  rw [HSz.out] at HLn
  go_enter Try.func52, Try.ntmps52
  go_wp2_with (go_at_fn f4; refine HP.out.mono ?_; rintro e w1 ⟨rfl, hm1⟩)
  refine (HLn.out _ hm1).mono ?_
  rintro e w2 ⟨rfl, hm2⟩
  go_wp2_with fail
  refine (HU.out _ hm2).mono ?_
  rintro e w3 ⟨rfl, d', hs', hp', hh', _, hm'⟩
  go_wp2_with fail
  go_end0
  exact ⟨rfl, d', hs'.trans HSz.out, hp'.trans HPm.out, by rw [hs']; exact hh', hm'⟩

theorem heap_swap {lt : α → α → Bool} {d : Array α} {n : Nat} (h : HeapF lt (rowA d) d.size 0) (hn : d.size = n + 1) : HeapF lt (rowA (swp d 0 n)) n (0 + 1) := fun k h0 hk hl => by
  have hp := par_lt h0
  rw [rowA_swp d (by omega) (by omega), exF_far _ (by omega) (by omega), exF_far _ (by omega) (by omega)]
  exact h k h0 (by omega) (Nat.zero_le _)

set_option maxHeartbeats 1000000 in
/-- heap.Pop. -/
theorem pop_any10 {T : TypeId} {rv : Value} {lt : α → α → Bool} {enc : α → Value} {HM : Array α → World → Prop} {Ok : α → Prop} {f1 f2 f3 f4 f5 : Nat} (hT : HeapT T rv lt enc HM Ok f1 f2 f3 f4 f5) (hS : SWO lt) (d : Array α) (n : Nat) (w : World) (hd : d.size = n + 1) (hsz : d.size ≤ 1000000) (hM : HM d w) (hH : HeapF lt (rowA d) d.size 0) :
    Calls Try.prog 54 #[.iface T rv] w fun e w' => e = .returned (enc (rowA d 0)) ∧ ∃ d' : Array α, d'.size = n ∧ (rowA d 0 :: d'.toList).Perm d.toList ∧ HeapF lt (rowA d') d'.size 0 ∧ HM d' w' := by
  have mP := hT.hPop.finds
  have eP := hT.hPop.enters
  have mN := hT.hLen.finds
  have eN := hT.hLen.enters
  have mS := hT.hSwap.finds
  have eS := hT.hSwap.enters
  have HLn := Lib.hid (hT.len d w hM)
  rw [hd] at HLn
  have HSw := Lib.hid (fun W (hW : HM d W) => hT.swap d W 0 n hW (by omega) (by omega))
  have HDn := Lib.hid (fun W (hW : HM (swp d 0 n) W) => down_any10 hT hS (swp d 0 n) 0 n W (by omega) (by rw [size_swp]; omega) (by rw [size_swp]; omega) hW (heap_swap hH hd))
  have HPo := Lib.hid hT.pop
  have HF := Lib.hid (fun (d2 : Array α) (h1 : d2.size = (swp d 0 n).size) (h2 : d2.toList.Perm (swp d 0 n).toList) (h3 : HeapF lt (rowA d2) n 0) (h4 : ∀ k, n ≤ k → rowA d2 k = rowA (swp d 0 n) k) => show d2 = d2.pop.push (rowA d 0) ∧ d2.pop.size = n ∧ (rowA d 0 :: d2.pop.toList).Perm d.toList ∧ HeapF lt (rowA d2.pop) d2.pop.size 0 by
    have hs2 : d2.size = n + 1 := by rw [h1, size_swp]; exact hd
    have hl : rowA d2 n = rowA d 0 := by rw [h4 n (Nat.le_refl _), rowA_swp d (by omega) (by omega), exF_j]
    have he : d2 = d2.pop.push (rowA d 0) := by have := pop_push d2 hs2; rwa [hl] at this
    have hps : d2.pop.size = n := by simp; omega
    refine ⟨he, hps, ?_, ?_⟩
    · have h5 := h2.trans (swp_perm d (by omega) (by omega))
      rw [he] at h5
      refine List.Perm.trans ?_ h5
      rw [Array.toList_push]
      exact (List.perm_append_singleton _ _).symm
    · rw [hps]
      refine h3.eq fun k hk => ?_
      have := rowA_push d2.pop (rowA d 0) (k := k) (by omega)
      rw [← he] at this
      exact this.symm)
  have hnm : n ≤ 1000000 := by omega
  obtain ⟨m, hm⟩ : ∃ m, n + 1 = m := ⟨_, rfl⟩
  rw [hm] at HLn
  have hmn : (m : Int) - 1 = (n : Int) := by omega
  clear hT hS hM hH hd hm hsz
  generalize rowA d 0 = x at *
  generalize swp d 0 n = ds at *
  go_enter Try.func54, Try.ntmps54
  go_wp2_with (go_at_fn f1; refine HLn.out.mono ?_; rintro e w1 ⟨rfl, hm1⟩)
  refine (HSw.out _ hm1).mono ?_
  rintro e w2 ⟨rfl, hm2⟩
  go_wp2_with fail
  refine (HDn.out _ hm2).mono ?_
  rintro e w3 ⟨t, rfl, d2, h1, h2, h3, h4, hm3⟩
  obtain ⟨g1, g2, g3, g4⟩ := HF.out d2 h1 h2 h3 h4
  rw [g1] at hm3
  have HX := Lib.hid (show d2.pop.size = n ∧ (x :: d2.pop.toList).Perm d.toList ∧ HeapF lt (rowA d2.pop) d2.pop.size 0 from ⟨g2, g3, g4⟩)
  have HC := Lib.hid (HPo.out d2.pop w3 x hm3 (by omega))
  clear h1 h2 h3 h4 g1 g2 g3 g4 hm3
  go_wp2_with fail
  refine HC.out.mono ?_
  rintro e w4 ⟨rfl, hm4⟩
  go_wp2_with fail
  go_ret
  exact ⟨rfl, d2.pop, HX.out.1, HX.out.2.1, HX.out.2.2, hm4⟩

end Go.Proofs.Ythmfcdefdbeefaa
