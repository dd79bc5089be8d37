/-
  What (*node).visit leaves, whatever the function does that it is handed: its contract, walked over the translated text. No condition but what each theorem names.
-/
import Derived.Test.YtefgfkicacbmeaaSegBd
namespace Go.Proofs.Ytefgfkicacbmeaa
open Go.RowKit Words

/-- A tree's blocks, and one more. -/
def InX (g n x k : Nat) : Prop := InT g n k ∨ k = x

/-- What a function that is handed to visit does to each node: f to its numbers, and to what it keeps in block x. -/
structure Clo (F : FuncId) (x : Nat) (t : TypeId) {σ : Type} (st : σ → List Value) (f : Int → Int) (acc : σ → List Int → σ) (ok : σ → List Int → Prop) : Prop where
  call : ∀ (g : Nat) (l : List Int) (a : σ) (W : World), Tree W g l → Blk W x t (st a) → (x < g ∨ g + 2 * l.length ≤ x + 1) → l.length ≤ 300 → ok a l →
    Calls Try.prog F #[.pointer (some ⟨g, 0, none⟩), .pointer (some ⟨x, 0, none⟩)] W fun e w' => e = .returned (.tuple #[]) ∧ Tree w' g (l.map f) ∧ Blk w' x t (st (acc a l)) ∧ Keeps (InX g l.length x) W w'
  ent : ∀ args w, (callFunc F args).run Try.prog w = .ok (.enter F args) w
  nil : ∀ a, acc a [] = a
  join : ∀ a l r, acc a (l ++ r) = acc (acc a l) r
  left : ∀ a l r, ok a (l ++ r) → ok a l
  right : ∀ a l r, ok a (l ++ r) → ok (acc a l) r

/-- What visit leaves. -/
def Visited (g x : Nat) (t : TypeId) (n : Nat) (l : List Int) (us : List Value) (w : World) (e : Ending) (w' : World) : Prop := e = .returned (.tuple #[]) ∧ Tree w' g l ∧ Blk w' x t us ∧ Keeps (InX g n x) w w'

/-- The memory while the children are visited. -/
structure VisAt (g : Nat) (na nb : Nat) (le su : Int) (x : Nat) (t : TypeId) (us : List Value) (ma mb : List Int) (w0 w : World) : Prop where
  blk : Blk w g 121 (nodeC ((na + nb : Nat) : Int) le su false 0 (some ⟨g + 1, 0, none⟩) (some ⟨g + 2 * na, 0, none⟩))
  left : Tree w (g + 1) ma
  right : Tree w (g + 2 * na) mb
  lena : ma.length = na
  lenb : mb.length = nb
  box : Blk w x t us
  kp : Keeps (InX g (na + nb) x) w0 w

theorem VisAt.drew {g na nb : Nat} {le su : Int} {x : Nat} {t : TypeId} {us : List Value} {ma mb : List Int} {w0 w : World} (h : VisAt g na nb le su x t us ma mb w0 w) : VisAt g na nb le su x t us ma mb w0 w.drew :=
  ⟨h.blk.drew, h.left.keep fun _ _ _ => rfl, h.right.keep fun _ _ _ => rfl, h.lena, h.lenb, h.box.drew, h.kp.drew⟩

/-- Three states of the loop over the children. -/
def VisRel (A B C : World → Prop) (lo hi na nb : Int) (t1 t2 t40 : Value) (w : World) : Prop :=
  (t40 = .int .i64 0 ∧ t1 = .int .i64 lo ∧ t2 = .int .i64 hi ∧ A w) ∨ (t40 = .int .i64 1 ∧ t1 = .int .i64 (lo - na) ∧ t2 = .int .i64 (hi - na) ∧ B w) ∨ (t40 = .int .i64 2 ∧ t1 = .int .i64 (lo - na - nb) ∧ t2 = .int .i64 (hi - na - nb) ∧ C w)

set_option maxHeartbeats 2000000 in
/-- (*node).visit. -/
theorem visit_any {F : FuncId} {x : Nat} {t : TypeId} {σ : Type} {st : σ → List Value} {f : Int → Int} {acc : σ → List Int → σ} {ok : σ → List Int → Prop} (hF : Clo F x t st f acc ok) :
    ∀ (n g : Nat) (l : List Int) (lo hi : Int) (a : σ) (w : World), l.length ≤ n → l.length ≤ 300 → Tree w g l → Blk w x t (st a) → (x < g ∨ g + 2 * l.length ≤ x + 1) → ok a (prt l lo hi) → (l.length : Int) - 1000 ≤ lo → lo ≤ 1000 → (l.length : Int) - 1000 ≤ hi → hi ≤ 1000 →
    Calls Try.prog 85 #[.pointer (some ⟨g, 0, none⟩), .int .i64 lo, .int .i64 hi, .func (.func F) #[] #[.pointer (some ⟨x, 0, none⟩)]] w (Visited g x t l.length (mapR f l lo hi) (st (acc a (prt l lo hi))) w) := by
  intro n
  induction n with
  | zero => intro g l lo hi a w h1 h2 hT; have := hT.pos; omega
  | succ n ih =>
    intro g l lo hi a w hn h3 hT hX hx hok l0 l1 k0 k1
    have l2 : -1000 ≤ lo := by omega
    have k2 : -1000 ≤ hi := by omega
    by_cases c1 : hi < 0
    · rw [mapR_none f l lo hi (.inl c1), prt_none l lo hi (.inl c1), hF.nil]
      have HT := Lib.hid hT
      have HX := Lib.hid hX
      clear hT hX ih hok
      generalize st a = us at *
      go_enter Try.func85, Try.ntmps85
      go_wp2_with fail
      exact bodyPost_ret (v := .tuple #[]) (by simp [results, Try.results85, go_sem]) rfl ⟨rfl, HT.out, HX.out, Keeps.refl _ _⟩
    obtain ⟨s, b, p, q, hB⟩ := hT.head
    have hc0 := (ofB hB).1
    clear hB
    by_cases c2 : (l.length : Int) ≤ lo
    · rw [mapR_none f l lo hi (.inr c2), prt_none l lo hi (.inr c2), hF.nil]
      have HT := Lib.hid hT
      have HX := Lib.hid hX
      clear hT hX ih hok
      generalize st a = us at *
      generalize l.length = m at *
      go_enter Try.func85, Try.ntmps85
      go_wp2_with fail
      exact bodyPost_ret (v := .tuple #[]) (by simp [results, Try.results85, go_sem]) rfl ⟨rfl, HT.out, HX.out, Keeps.refl _ _⟩
    by_cases c3 : lo ≤ 0 ∧ (l.length : Int) - 1 ≤ hi
    · rw [mapR_all f l lo hi c3.1 c3.2, prt_all l lo hi c3.1 c3.2]
      rw [prt_all l lo hi c3.1 c3.2] at hok
      have hent := hF.ent
      have HC := Lib.hid (hF.call g l a w hT hX hx h3 hok)
      obtain ⟨c4, c5⟩ := c3
      clear hT hX ih hok
      generalize st (acc a l) = us at *
      generalize l.length = m at *
      go_enter Try.func85, Try.ntmps85
      go_wp2_with fail
      refine HC.out.mono ?_
      rintro e w' ⟨rfl, h⟩
      go_wp2_with fail
      exact bodyPost_ret (v := .tuple #[]) (by simp [results, Try.results85, go_sem]) rfl ⟨rfl, h⟩
    cases hT with
    | leaf g x0 s b hb hx0 => exact absurd (by simp at c2; simp; omega) c3
    | node g la lb l s b hB ha hr hl hd =>
      have p1 := ha.pos
      have p2 := hr.pos
      have hlen : l.length = la.length + lb.length := by rw [hl, List.length_map, List.length_append]
      have hl2 : l = la.map (app s b) ++ lb.map (app s b) := by rw [hl, List.map_append]
      have hda : Bds (la.map (app s b)) := by rw [hl2] at hd; exact hd.left
      have hdb : Bds (lb.map (app s b)) := by rw [hl2] at hd; exact hd.right
      have lena : (la.map (app s b)).length = la.length := by simp
      have lenb : (lb.map (app s b)).length = lb.length := by simp
      rw [hlen] at hx
      have HPu : Hid (Calls Try.prog 88 #[.pointer (some ⟨g, 0, none⟩)] w fun e w' => e = .returned (.tuple #[]) ∧ VisAt g la.length lb.length (mn l) (sm l) x t (st a) (la.map (app s b)) (lb.map (app s b)) w w') :=
        Lib.hid ((push_any g l.length (mn l) (sm l) s b la lb w hB ha hr (by omega) hda hdb).mono (by
          rintro e w' ⟨rfl, hP⟩
          refine ⟨rfl, ?_, hP.left, hP.right, lena, lenb, hX.keeps hP.kp (by unfold InT; omega), hP.kp.mono fun k hk => .inl hk⟩
          have := hP.blk
          rw [hlen] at this
          exact this))
      have hcg := hc0
      clear hB ha hr hd hda hdb hX hl hc0
      generalize la.map (app s b) = A1 at *
      generalize lb.map (app s b) = B1 at *
      generalize la.length = na at *
      generalize lb.length = nb at *
      subst hl2
      rw [hlen]
      rw [prt_append] at hok
      have hok1 := hF.left _ _ _ hok
      have hok2 := hF.right _ _ _ hok
      rw [mapR_append, prt_append, hF.join, lena]
      rw [lena] at hok2
      have HV1 : Hid (∀ W, VisAt g na nb (mn (A1 ++ B1)) (sm (A1 ++ B1)) x t (st a) A1 B1 w W → Calls Try.prog 85 #[.pointer (some ⟨g + 1, 0, none⟩), .int .i64 lo, .int .i64 hi, .func (.func F) #[] #[.pointer (some ⟨x, 0, none⟩)]] W fun e w' => e = .returned (.tuple #[]) ∧ VisAt g na nb (mn (A1 ++ B1)) (sm (A1 ++ B1)) x t (st (acc a (prt A1 lo hi))) (mapR f A1 lo hi) B1 w w') :=
        Lib.hid (fun W hV => (ih (g + 1) A1 lo hi a W (by omega) (by omega) hV.left hV.box (by omega) hok1 (by omega) l1 (by omega) k1).mono (by
          rintro e w' ⟨rfl, hT, hX, hk⟩
          rw [lena] at hk
          refine ⟨rfl, hV.blk.keeps hk (by unfold InX InT; omega), hT, hV.right.keeps hk (fun k q1 q2 e => by rw [lenb] at q2; unfold InX InT at e; omega), by rw [mapR_length, lena], lenb, hX, hV.kp.trans (hk.mono fun k e => by unfold InX InT at *; omega)⟩))
      have HV2 : Hid (∀ W, VisAt g na nb (mn (A1 ++ B1)) (sm (A1 ++ B1)) x t (st (acc a (prt A1 lo hi))) (mapR f A1 lo hi) B1 w W → Calls Try.prog 85 #[.pointer (some ⟨g + 2 * na, 0, none⟩), .int .i64 (lo - na), .int .i64 (hi - na), .func (.func F) #[] #[.pointer (some ⟨x, 0, none⟩)]] W fun e w' => e = .returned (.tuple #[]) ∧ VisAt g na nb (mn (A1 ++ B1)) (sm (A1 ++ B1)) x t (st (acc (acc a (prt A1 lo hi)) (prt B1 (lo - na) (hi - na)))) (mapR f A1 lo hi) (mapR f B1 (lo - na) (hi - na)) w w') :=
        Lib.hid (fun W hV => (ih (g + 2 * na) B1 (lo - na) (hi - na) (acc a (prt A1 lo hi)) W (by omega) (by omega) hV.right hV.box (by omega) hok2 (by omega) (by omega) (by omega) (by omega)).mono (by
          rintro e w' ⟨rfl, hT, hX, hk⟩
          rw [lenb] at hk
          refine ⟨rfl, hV.blk.keeps hk (by unfold InX InT; omega), hV.left.keeps hk (fun k q1 q2 e => by rw [mapR_length, lena] at q2; unfold InX InT at e; omega), hT, by rw [mapR_length, lena], by rw [mapR_length, lenb], hX, hV.kp.trans (hk.mono fun k e => by unfold InX InT at *; omega)⟩))
      have HU : Hid (∀ W us A2 B2, VisAt g na nb (mn (A1 ++ B1)) (sm (A1 ++ B1)) x t us A2 B2 w W → Calls Try.prog 81 #[.pointer (some ⟨g, 0, none⟩)] W (Visited g x t (na + nb) (A2 ++ B2) us w)) :=
        Lib.hid (fun W us A2 B2 hV => (update_any g (mn (A1 ++ B1)) (sm (A1 ++ B1)) A2 B2 W ⟨by rw [hV.lena, hV.lenb]; exact hV.blk, hV.left, by rw [hV.lena]; exact hV.right⟩ (by rw [hV.lena, hV.lenb]; omega)).mono (by
          rintro e w' ⟨rfl, hT, hk, _⟩
          exact ⟨rfl, hT, hV.box.keeps hk (by unfold Is; omega), hV.kp.trans (hk.mono fun k e => by unfold Is at e; unfold InX InT; omega)⟩))
      have hst : ¬ (lo ≤ 0) ∨ (lo ≤ 0 ∧ ¬ ((na + nb : Nat) : Int) - 1 ≤ hi) := by omega
      clear hok hok1 hok2 ih hF
      have i0 := idx0 (some ⟨g + 1, 0, none⟩) (some ⟨g + 2 * na, 0, none⟩)
      have i1 := idx1 (some ⟨g + 1, 0, none⟩) (some ⟨g + 2 * na, 0, none⟩)
      obtain ⟨c0, hc0⟩ : ∃ c0 : Int, w.cell? ⟨g, 0, none⟩ = some (.int .i64 c0) ∧ c0 = ((na + nb : Nat) : Int) := ⟨_, hcg, by rw [← hlen]⟩
      obtain ⟨hc0, hc00⟩ := hc0
      have hq1 : decide (c0 ≤ lo) = false := decide_eq_false (by omega)
      have hst' : ¬ (lo ≤ 0) ∨ (lo ≤ 0 ∧ ¬ c0 - 1 ≤ hi) := by omega
      have z0 : 0 ≤ c0 := by omega
      have z1 : c0 ≤ 300 := by omega
      have z2 : na ≤ 300 := by omega
      have z3 : nb ≤ 300 := by omega
      clear hst hcg hc00 c2 c3 hlen h3 l0 k0 hn
      generalize mn (A1 ++ B1) = le at *
      generalize sm (A1 ++ B1) = su at *
      generalize mapR f A1 lo hi = A2 at *
      generalize mapR f B1 (lo - na) (hi - na) = B2 at *
      generalize st (acc (acc a (prt A1 lo hi)) (prt B1 (lo - na) (hi - na))) = us2 at *
      generalize st (acc a (prt A1 lo hi)) = us1 at *
      generalize st a = us0 at *
      rcases hst' with hst | ⟨hst, hst2⟩
      all_goals
        go_enter Try.func85, Try.ntmps85
        go_wp2_with fail
        refine HPu.out.mono ?_
        rintro e w1 ⟨rfl, hV⟩
        have HV := Lib.hid hV
        obtain ⟨d0, d1, d2, d3, d4, d5, d6⟩ := ofB hV.blk
        clear hV d0 d1 d2 d3 d4 hc0
        go_wp2_with fail
        go_loopw [1, 2, 40] (fun t1 t2 t40 w' => VisRel (VisAt g na nb le su x t us0 A1 B1 w) (VisAt g na nb le su x t us1 A2 B1 w) (VisAt g na nb le su x t us2 A2 B2 w) lo hi na nb t1 t2 t40 w') (fun _ _ a _ => 2 - (intOf a).toNat)
        case atStart => exact .inl ⟨rfl, rfl, rfl, HV.out⟩
        case round =>
          clear HV d5 d6
          rcases hrel with ⟨rfl, rfl, rfl, hV⟩ | ⟨rfl, rfl, rfl, hV⟩ | ⟨rfl, rfl, rfl, hV⟩
          · have HV := Lib.hid hV
            clear hV
            go_wp2_with fail
            refine (HV1.out _ HV.out).mono ?_
            rintro e w2 ⟨rfl, hV2⟩
            obtain ⟨s', b', p', q', hH⟩ := hV2.left.head
            have hca := (ofB hH).1
            rw [hV2.lena] at hca
            have HV2' := Lib.hid hV2.drew
            clear hH hV2
            go_wp2_with fail
            go_region
            go_wp2_with fail
            go_roundw
            case rel => exact .inr (.inl ⟨rfl, rfl, rfl, HV2'.out⟩)
            case measure => simp [intOf]
          · have HV := Lib.hid hV
            clear hV
            go_wp2_with fail
            refine (HV2.out _ HV.out).mono ?_
            rintro e w2 ⟨rfl, hV2⟩
            obtain ⟨s', b', p', q', hH⟩ := hV2.right.head
            have hca := (ofB hH).1
            rw [hV2.lenb] at hca
            have HV2' := Lib.hid hV2.drew
            clear hH hV2
            go_wp2_with fail
            go_region
            go_wp2_with fail
            go_roundw
            case rel => exact .inr (.inr ⟨rfl, rfl, rfl, HV2'.out⟩)
            case measure => simp [intOf]
          · have HV := Lib.hid hV
            clear hV
            go_wp2_with fail
            refine (HU.out _ _ _ _ HV.out).mono ?_
            rintro e w2 ⟨rfl, hR⟩
            go_wp2_with fail
            exact bodyPost_end (v := .tuple #[]) (by simp [results, Try.results85, go_sem]) rfl ⟨rfl, hR⟩
end Go.Proofs.Ytefgfkicacbmeaa
