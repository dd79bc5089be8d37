/-
  What a list of operations comes to, of no program ('runL', 'rep'); what slices.ContainsFunc and (*node).execute return, told of them: contracts, walked over the translated text. No condition but what each theorem names.
-/
import Derived.Test.YtefgfkicacbmeaaSegRun
import Derived.Test.YtefgfkicacbmeaaSegAp
import Derived.Test.YtefgfkicacbmeaaFenMk
namespace Go.Proofs.Ytefgfkicacbmeaa
open Go.RowKit Words

/-- An operation. -/
structure Op9 where
  k : Int
  lo : Int
  hi : Int
  by_ : Int
instance : Inhabited Op9 := ⟨⟨0, 0, 0, 0⟩⟩
def Op9.cells (o : Op9) : List Value := [.int .i64 o.k, .int .i64 o.lo, .int .i64 o.hi, .int .i64 o.by_]
def Op9.err (o : Op9) (n : Nat) : Int := chk o.k o.lo o.hi o.by_ n
/-- What an operation makes of a list; its reply's two numbers. -/
def stepL (l : List Int) (o : Op9) : List Int := if o.err l.length = 0 ∧ o.k ≤ 2 then mapR (app (decide (o.k = 2)) o.by_) l o.lo o.hi else l
def stepV (l : List Int) (o : Op9) : Int := if o.err l.length = 0 then (if o.k = 3 then mn (prt l o.lo o.hi) else if o.k = 4 then sm (prt l o.lo o.hi) else 0) else 0
/-- The list behind the first i operations. -/
def runL (l : List Int) (ops : List Op9) : Nat → List Int
  | 0 => l
  | i + 1 => match ops[i]? with
    | none => runL l ops i
    | some o => stepL (runL l ops i) o
/-- The replies' numbers, one behind the other: codes at the even places, values at the odd ones. -/
def reps (l : List Int) (ops : List Op9) (q : Nat) : Int := match ops[q / 2]? with
  | none => 0
  | some o => if q % 2 = 0 then o.err l.length else stepV (runL l ops (q / 2)) o

theorem stepL_length (l : List Int) (o : Op9) : (stepL l o).length = l.length := by
  unfold stepL
  by_cases h : o.err l.length = 0 ∧ o.k ≤ 2
  · rw [if_pos h, mapR_length]
  · rw [if_neg h]
theorem runL_length (l : List Int) (ops : List Op9) : ∀ i, (runL l ops i).length = l.length
  | 0 => rfl
  | i + 1 => by
    unfold runL
    cases ops[i]? with
    | none => exact runL_length l ops i
    | some o => rw [stepL_length]; exact runL_length l ops i
theorem runL_some {l : List Int} {ops : List Op9} {i : Nat} {o : Op9} (h : ops[i]? = some o) : runL l ops (i + 1) = stepL (runL l ops i) o := by
  rw [runL, h]
theorem reps_even {l : List Int} {ops : List Op9} {i : Nat} {o : Op9} (h : ops[i]? = some o) : reps l ops (i * 2) = o.err l.length := by
  unfold reps
  rw [show i * 2 / 2 = i by omega, h]
  simp
theorem reps_odd {l : List Int} {ops : List Op9} {i : Nat} {o : Op9} (h : ops[i]? = some o) : reps l ops (i * 2 + 1) = stepV (runL l ops i) o := by
  unfold reps
  rw [show (i * 2 + 1) / 2 = i by omega, h]
  simp

theorem chk_co {k lo hi by_ n : Int} (h : chk k lo hi by_ n = 0) : 1 ≤ k ∧ k ≤ 4 ∧ 0 ≤ lo ∧ lo ≤ hi ∧ hi < n ∧ (k ≤ 2 → Co by_) := by
  unfold chk at h
  by_cases h1 : k < 1 ∨ 4 < k
  · rw [if_pos h1] at h; cases h
  · rw [if_neg h1] at h
    by_cases h2 : lo < 0 ∨ hi < lo ∨ n ≤ hi
    · rw [if_pos h2] at h; cases h
    · rw [if_neg h2] at h
      refine ⟨by omega, by omega, by omega, by omega, by omega, fun h3 => ?_⟩
      by_cases h4 : Co by_
      · exact h4
      · rw [if_pos ⟨h3, h4⟩] at h; cases h

/-- All numbers of a list lie within a limit. -/
def LimL (B : Int) (l : List Int) : Prop := ∀ z ∈ l, -B ≤ z ∧ z ≤ B
theorem mapR_mem (f : Int → Int) : ∀ (l : List Int) (lo hi z : Int), z ∈ mapR f l lo hi → ∃ y ∈ l, z = y ∨ z = f y
  | [], _, _, _, h => by cases h
  | a :: l, lo, hi, z, h => by
    unfold mapR at h
    rcases List.mem_cons.1 h with e | e
    · refine ⟨a, by simp, ?_⟩
      by_cases c : lo ≤ 0 ∧ 0 ≤ hi
      · rw [if_pos c] at e; exact .inr e
      · rw [if_neg c] at e; exact .inl e
    · obtain ⟨y, hy, h2⟩ := mapR_mem f l _ _ z e
      exact ⟨y, by simp [hy], h2⟩
theorem stepL_lim {B : Int} {l : List Int} (o : Op9) (h0 : 0 ≤ B) (h : LimL B l) : LimL (B + 1048576) (stepL l o) := by
  unfold stepL
  by_cases hc : o.err l.length = 0 ∧ o.k ≤ 2
  · rw [if_pos hc]
    have hk := (chk_co hc.1).2.2.2.2.2 hc.2
    unfold Co at hk
    intro z hz
    obtain ⟨y, hy, e⟩ := mapR_mem _ _ _ _ _ hz
    have := h y hy
    rcases e with rfl | rfl
    · omega
    · unfold app
      cases decide (o.k = 2) <;> simp <;> omega
  · rw [if_neg hc]
    intro z hz
    have := h z hz
    omega
theorem runL_lim {B : Int} {l : List Int} (ops : List Op9) (h0 : 0 ≤ B) (h : LimL B l) : ∀ i : Nat, LimL (B + 1048576 * (i : Int)) (runL l ops i)
  | 0 => by
    show LimL (B + 1048576 * ((0 : Nat) : Int)) l
    simpa using h
  | i + 1 => by
    have ih := runL_lim ops h0 h i
    unfold runL
    cases ops[i]? with
    | none => intro z hz; have := ih z hz; omega
    | some o =>
      have := stepL_lim o (by omega) ih
      rw [show B + 1048576 * ((i + 1 : Nat) : Int) = B + 1048576 * (i : Int) + 1048576 by omega]
      exact this

/-- (*node).execute. -/
theorem exec_any (g : Nat) (l : List Int) (o : Op9) (w : World) (hT : Tree w g l) (hn : l.length ≤ 300) (hl : LimL 1000000000 l) :
    Calls Try.prog 62 #[.pointer (some ⟨g, 0, none⟩), .agg #[.int .i64 o.k, .int .i64 o.lo, .int .i64 o.hi, .int .i64 o.by_]] w (Exec g l (stepL l o) (o.err l.length) (stepV l o) w) := by
  obtain ⟨k, lo, hi, b⟩ := o
  unfold stepL stepV Op9.err
  show Calls _ _ #[_, .agg #[.int .i64 k, .int .i64 lo, .int .i64 hi, .int .i64 b]] _ _
  by_cases hc : chk k lo hi b l.length = 0
  · have hk := chk_co hc
    have h4 : k = 1 ∨ k = 2 ∨ k = 3 ∨ k = 4 := by omega
    rcases h4 with rfl | rfl | rfl | rfl
    · rw [if_pos ⟨hc, by show (1 : Int) ≤ 2; omega⟩, if_pos hc, if_neg (by show ¬ (1 : Int) = 3; omega), if_neg (by show ¬ (1 : Int) = 4; omega), hc]
      exact exec_change g l 1 lo hi b false w (.inl ⟨rfl, rfl⟩) hT hn hc hl
    · rw [if_pos ⟨hc, by show (2 : Int) ≤ 2; omega⟩, if_pos hc, if_neg (by show ¬ (2 : Int) = 3; omega), if_neg (by show ¬ (2 : Int) = 4; omega), hc]
      exact exec_change g l 2 lo hi b true w (.inr ⟨rfl, rfl⟩) hT hn hc hl
    · rw [if_neg (by intro h; have := h.2; simp at this), if_pos hc, if_pos rfl, hc]
      exact exec_least g l lo hi b w hT hn hc
    · rw [if_neg (by intro h; have := h.2; simp at this), if_pos hc, if_neg (by show ¬ (4 : Int) = 3; omega), if_pos rfl, hc]
      exact exec_sum g l lo hi b w hT hn hc
  · rw [if_neg (fun h => hc h.1), if_neg hc]
    exact exec_err g l k lo hi b w hT hc

/-- seg.Play's function: whether a number is none of those that are let. -/
theorem cl_co (x : Int) (w : World) : Calls Try.prog 59 #[.int .i64 x] w fun e w' => e = .returned (.bool (!decide (Co x))) ∧ ∃ d, w' = w.drewN d := by
  have H := Lib.hid (coord_any x ·)
  generalize decide (Co x) = r at *
  go_enter Try.func59, Try.ntmps59
  go_wp2_with (go_at_call 60; refine (H.out _).mono ?_; rintro e w' ⟨rfl, rfl⟩)
  go_ret
  exact ⟨rfl, 0, rfl⟩

set_option maxHeartbeats 1000000 in
/-- slices.IndexFunc with that closure: the first index at which it holds, or -1. -/
theorem index_co (A : Option Addr) (l : List Int) (c i : Nat) (p : Int → Bool) (w : World) (hn : l.length ≤ 17592186044416) (hin : i ≤ l.length) (hlo : ∀ k x, k < i → l[k]? = some x → p x = false) (hhi : ∀ x, l[i]? = some x → p x = true) (hL : Lies w w.heap.size A (l.map (.int .i64)))
    (hf : ∀ x d, x ∈ l → Calls Try.prog 59 #[.int .i64 x] (w.drewN d) fun e w' => e = .returned (.bool (p x)) ∧ ∃ m, w' = (w.drewN d).drewN m) :
    Calls Try.prog 64 #[.slice A l.length c, .func (.func 59) #[] #[]] w fun e w' => e = .returned (.int .i64 (if i < l.length then (i : Int) else -1)) ∧ ∃ d, w' = w.drewN d := by
  have HF := Lib.hid hf
  have HLo := Lib.hid hlo
  have HHi := Lib.hid hhi
  have HL := Lib.hid hL
  clear hf hlo hhi hL
  generalize hk : l.length = n at *
  have HN := Lib.hid hk
  clear hk
  obtain ⟨r, hr⟩ : ∃ r : Int, r = if i < n then (i : Int) else -1 := ⟨_, rfl⟩
  rw [← hr]
  have HR := Lib.hid hr
  clear hr
  go_enter Try.func64, Try.ntmps64
  go_wp2_with fail
  go_loopw [8] (fun a w' => ∃ k d : Nat, k ≤ i ∧ a = .int .i64 k ∧ w' = w.drewN d) (fun a _ => n - (intOf a).toNat)
  case atStart => exact ⟨0, 0, Nat.zero_le _, rfl, rfl⟩
  case round =>
    obtain ⟨k, d, hki, rfl, rfl⟩ := hrel
    by_cases hlt : k < n
    · obtain ⟨b, o, x, rfl, hb, hx, hc⟩ := HL.out.at_ (k := k) (by rw [HN.out]; exact hlt)
      have HC := Lib.hid (fun d => HF.out x d (List.mem_of_getElem? hx))
      by_cases hlt2 : k < i
      · rw [HLo.out k x hlt2 hx] at HC
        clear hx
        go_wp2_with fail
        refine (HC.out _).mono ?_
        rintro e w1 ⟨rfl, m, rfl⟩
        go_wp2_with fail
        go_roundw
        case rel => exact ⟨k + 1, _, by omega, by go_num, by first | rfl | (simp only [World.drewN_drewN]; rfl)⟩
        case measure => simp [intOf]; omega
      · obtain rfl : k = i := by omega
        have hre : r = (k : Int) := by rw [HR.out, if_pos hlt]
        subst hre
        clear HR
        rw [HHi.out x hx] at HC
        clear hx
        go_wp2_with fail
        refine (HC.out _).mono ?_
        rintro e w1 ⟨rfl, m, rfl⟩
        go_wp2_with fail
        go_ret
        exact ⟨rfl, _, by first | rfl | (simp only [World.drewN_drewN]; rfl)⟩
    · have hre : r = -1 := by rw [HR.out, if_neg (by omega)]
      subst hre
      go_wp2_with fail
      go_ret
      exact ⟨rfl, _, rfl⟩

/-- slices.ContainsFunc with that closure. -/
theorem contains_co (A : Option Addr) (l : List Int) (c : Nat) (p : Int → Bool) (w : World) (hn : l.length ≤ 17592186044416) (hL : Lies w w.heap.size A (l.map (.int .i64)))
    (hf : ∀ x d, x ∈ l → Calls Try.prog 59 #[.int .i64 x] (w.drewN d) fun e w' => e = .returned (.bool (p x)) ∧ ∃ m, w' = (w.drewN d).drewN m) :
    Calls Try.prog 36 #[.slice A l.length c, .func (.func 59) #[] #[]] w fun e w' => e = .returned (.bool (l.any p)) ∧ ∃ d, w' = w.drewN d := by
  obtain ⟨i, hi, hlo, hhi, hany⟩ := first_of p l
  have H := Lib.hid (fun W hL hf => index_co A l c i p W hn hi hlo hhi hL hf)
  rw [hany]
  have H2 := Lib.hid (H.out w hL hf)
  clear H hf hL hany hlo hhi
  generalize l.length = n at *
  by_cases h : i < n
  · rw [if_pos h] at H2
    have hd : decide (i < n) = true := by simpa using h
    rw [hd]
    go_enter Try.func36, Try.ntmps36
    go_wp2_with fail
    refine H2.out.mono ?_
    rintro e w1 ⟨rfl, d, rfl⟩
    go_wp2_with fail
    go_ret
    exact ⟨rfl, _, rfl⟩
  · rw [if_neg h] at H2
    have hd : decide (i < n) = false := by simpa using h
    rw [hd]
    go_enter Try.func36, Try.ntmps36
    go_wp2_with fail
    refine H2.out.mono ?_
    rintro e w1 ⟨rfl, d, rfl⟩
    go_wp2_with fail
    go_ret
    exact ⟨rfl, _, rfl⟩

/-- All numbers of a list are let. -/
def Cos (l : List Int) : Prop := ∀ z ∈ l, Co z
instance (l : List Int) : Decidable (Cos l) := inferInstanceAs (Decidable (∀ z ∈ l, Co z))
theorem any_co (l : List Int) : (l.any fun x => !decide (Co x)) = !decide (Cos l) := by
  by_cases h : Cos l
  · rw [decide_eq_true h]
    simp only [Bool.not_true, List.any_eq_false]
    intro x hx
    simp [h x hx]
  · rw [decide_eq_false h]
    simp only [Bool.not_false, List.any_eq_true]
    have : ∃ x, x ∈ l ∧ ¬ Co x := Classical.byContradiction fun h2 => h fun x hx => Classical.byContradiction fun h3 => h2 ⟨x, hx, h3⟩
    obtain ⟨x, hx, h3⟩ := this
    exact ⟨x, hx, by simp [h3]⟩
theorem contains_any (A : Option Addr) (l : List Int) (c : Nat) (w : World) (hn : l.length ≤ 17592186044416) (hL : Lies w w.heap.size A (l.map (.int .i64))) :
    Calls Try.prog 36 #[.slice A l.length c, .func (.func 59) #[] #[]] w fun e w' => e = .returned (.bool (!decide (Cos l))) ∧ ∃ d, w' = w.drewN d := by
  have h := contains_co A l c (fun x => !decide (Co x)) w hn hL (fun x d _ => cl_co x (w.drewN d))
  rw [any_co] at h
  exact h
end Go.Proofs.Ytefgfkicacbmeaa
