/-
  What the document's answer to wave.Make returns of a list that is allowed: a contract, walked over the translated text. No condition but what each theorem names.
-/
import Derived.Test.YtjgibbccjijpaaaStbRm
import Derived.Test.YtjgibbccjijpaaaKeep3
namespace Go.Proofs.Ytjgibbccjijpaaa
open Go.RowKit Words

/-- What the document's Make leaves. -/
def GivesRef (w : World) (L : Nat) (ns : List Nat) (e : Ending) (w' : World) : Prop :=
  ∃ A vs c, e = .returned (.tuple #[.agg #[.slice A L c], .int .i64 0]) ∧ MadeOf ns.length (levs L ns) vs ∧ Mat w' w'.heap.size A vs ∧ Below w.heap.size w w'
theorem bool_inf10 : (Try.prog.info? 4).map (fun i => (i.zero, i.size, i.bytes)) = some (some (.bool false), 1, 1) := by kernel_rfl
theorem bits_inf10 : (Try.prog.info? 32).map (fun i => (i.zero, i.size, i.bytes)) = some (some (.agg #[.int .i64 0, .slice none 0 0]), 2, 32) := by kernel_rfl
theorem bitP_pow (q x : Nat) : bitP (2 ^ q) x = x.testBit q := by unfold bitP; rw [Nat.testBit_eq_decide_div_mod_eq]
theorem nxt_bitP (q : Nat) (l : List Nat) : nxt q l = l.filter (fun x => !bitP (2 ^ q) x) ++ l.filter (bitP (2 ^ q)) := by
  unfold nxt
  congr 1
  · exact List.filter_congr fun x _ => by rw [bitP_pow]
  · exact List.filter_congr fun x _ => by rw [bitP_pow]

/-- The form of a row of the call's own. -/
theorem own_form {w : World} {base sz : Nat} {e : TypeId} {v : Value} {n : Nat} {xs : List Value} (h : w.ownsRow base e sz v n xs) : ∃ A c, v = .slice A n c := by
  rcases h.2 with ⟨rfl, h0⟩ | ⟨g, cap, cur, rfl, _⟩
  · exact ⟨none, 0, by rw [h0]⟩
  · exact ⟨_, cap, rfl⟩
theorem own_lies {w : World} {base sz : Nat} {e : TypeId} {A : Option Addr} {n c : Nat} {xs : List Value} (h : w.ownsRow base e sz (.slice A n c) n xs) : Lies w w.heap.size A xs := fun hne => by
  rcases h.2 with ⟨_, h0⟩ | ⟨g, cap, cur, hv, hb, hh, _⟩
  · have h1 := h.1
    rw [h0, Nat.zero_mul] at h1
    exact absurd (List.eq_nil_of_length_eq_zero h1) hne
  · injection hv with h1 _ h2
    subst h1 h2
    have hgl := (h.lt g rfl).2
    refine ⟨g, 0, rfl, hgl, fun j u hu => ?_⟩
    rw [Nat.zero_add, ← hu]
    have hj : j < n * sz := by
      rcases Nat.lt_or_ge j (n * sz) with h3 | h3
      · exact h3
      · rw [List.getElem?_eq_none (by rw [h.1]; exact h3)] at hu; cases hu
    exact h.cellAt j hj
theorem mat_of {w W : World} {T L n i : Nat} {ns : List Nat} {done : List Lev} {A : Option Addr} {c : Nat} {nv : Value} (h : RwAt w T L n ns i done (.slice A i c) nv W) : Mat W W.heap.size A done :=
  ⟨own_lies h.tab, fun x hx => (h.rows x hx).1⟩
theorem tab_new {w W : World} {T L n i : Nat} {ns : List Nat} {done : List Lev} {A : Option Addr} {c : Nat} {nv : Value} (h : RwAt w T L n ns i done (.slice A i c) nv W) : New (T + 1) A := fun ad e => by
  rcases h.tab.2 with ⟨hv, _⟩ | ⟨g, cap, cur, hv, _⟩
  · injection hv with h1
    rw [h1] at e
    cases e
  · have h2 := h.vt g (by rw [hv]; rfl)
    injection hv with h1
    rw [h1] at e
    obtain rfl := Option.some.inj e
    exact h2
theorem mat_end {w W : World} {T L n i : Nat} {ns : List Nat} {done : List Lev} {A : Option Addr} {c : Nat} {nv u : Value} (h : RwAt w T L n ns i done (.slice A i c) nv W) : Mat (W.setCell ⟨w.heap.size, 0, none⟩ u) (W.setCell ⟨w.heap.size, 0, none⟩ u).heap.size A done := by
  have hT := h.hT
  have hm := mat_of h
  exact ⟨(hm.heads.setCell (tab_new h) (show w.heap.size < T + 1 by omega) u).wide (by simp), fun x hx => ⟨((hm.rows x hx).1.setCell (h.rows x hx).2.1 (show w.heap.size < T + 1 by omega) u).wide (by simp), (hm.rows x hx).2⟩⟩
/-- What is there when a level is appended. -/
theorem RwAt.carry {w W X : World} {T L n i : Nat} {ns : List Nat} {done : List Lev} {v nv : Value} (h : RwAt w T L n ns i done v nv W) (hX : Below W.heap.size W X) :
    X.ownsRow (w.heap.size + 2) 32 2 v i (levC done) ∧ X.ownsRow (w.heap.size + 2) 3 1 nv n (natC (lst L i ns)) ∧ Blk X (w.heap.size + 1) 25 [v] ∧ Blk X T 22 [nv] :=
  ⟨own_keeps2 h.tab fun q hq => hX.block q (h.tab.lt q hq).2, own_below h.row hX (Nat.le_refl _), h.bw.below hX h.bw.lt, h.bn.below hX h.bn.lt⟩

set_option maxRecDepth 100000 in
set_option maxHeartbeats 4000000 in
/-- The document's Make. -/
theorem rwm_any (L : Nat) (A : Option Addr) (ns : List Nat) (c : Nat) (w : World) (hn : ns.length ≤ 300) (hL : L ≤ 21) (hx : ∀ x ∈ ns, x < 2 ^ L) (hnone : A = none → c = 0) (hl : Lies w w.heap.size A (natC ns)) :
    Calls Try.prog 15 #[.int .i64 L, .slice A ns.length c] w (GivesRef w L ns) := by
  have HL := Lib.hid (hl.alloc (.cells #[.slice none 0 0] 25))
  have HNo := Lib.hid hnone
  have HX := Lib.hid (fun k x (hk : ns[k]? = some x) => hx x (List.mem_of_getElem? hk))
  have hsh := pow_21 L hL
  have HB := Lib.hid (fun A i c W (hi : i < L) hW => rmake_any A (digs10 (L - 1 - i) (lst L i ns)) c W (by unfold digs10; rw [List.length_map, lst_length]; omega) hW)
  have HSt := Lib.hid (fun base v i p Bs Ps W (hown : World.ownsRow W base 3 1 v ns.length (natC (lst L i ns))) (hp : p = 2 ^ (L - 1 - i)) (hi : i < L) => rstable_any base v (lst L i ns) p Bs Ps W (by rw [lst_length]; exact hown) (by rw [lst_length]; exact hn) (fun x h => Nat.le_trans (Nat.le_of_lt (hx x (lst_mem L i ns x h))) (Nat.pow_le_pow_right (n := 2) (j := 21) (by decide) hL)) (by rw [hp]; exact Nat.two_pow_pos _) (by rw [hp]; exact Nat.pow_le_pow_right (n := 2) (j := 21) (by decide) (by omega)))
  unfold GivesBits at HB
  simp only [show ∀ i, (digs10 (L - 1 - i) (lst L i ns)).length = ns.length from fun i => by unfold digs10; rw [List.length_map, lst_length]] at HB
  simp only [lst_length] at HSt
  have HLs := Lib.hid (fun i => lst_length L i ns)
  have HXm := Lib.hid (fun i k x (hk : (lst L i ns)[k]? = some x) => show x ≤ 2097152 from Nat.le_trans (Nat.le_of_lt (hx x (lst_mem L i ns x (List.mem_of_getElem? hk)))) (Nat.pow_le_pow_right (n := 2) (j := 21) (by decide) hL))
  clear hx hl hnone
  generalize hnn : ns.length = n at *
  have HN := Lib.hid hnn
  clear hnn
  have hd : decide (300 < (n : Int)) = false := by simp; omega
  have hd0 : decide ((L : Int) < 0) = false := by simp
  have hd1 : decide (21 < (L : Int)) = false := by simp; omega
  have hsh2 := Lib.hid hsh
  have HP : ∃ P : Nat, P = 2 ^ L := ⟨_, rfl⟩
  obtain ⟨P, hP⟩ := HP
  rw [← hP] at hsh
  have HPd := Lib.hid hP
  have hPb : P ≤ 2 ^ 21 := by rw [hP]; exact Nat.pow_le_pow_right (by decide) hL
  clear hP
  go_enter Try.func15, Try.ntmps15
  go_wp2_with fail
  go_loopw [30] (fun s w' => ∃ k : Nat, k ≤ n ∧ s = .int .i64 k ∧ w' = w.alloc (.cells #[.slice none 0 0] 25)) (fun s _ => n - (intOf s).toNat)
  case atStart => exact ⟨0, Nat.zero_le _, rfl, rfl⟩
  case round =>
    obtain ⟨k, hkn, rfl, rfl⟩ := hrel
    by_cases hlt : k < n
    · obtain ⟨b, o, x, rfl, hb, hx, hc⟩ := HL.out.at_ (f := fun x : Nat => Value.int .i64 (x : Int)) (k := k) (by rw [HN.out]; omega)
      have hxp : x < P := by rw [HPd.out]; exact HX.out k x hx
      clear hx
      go_wp2_with fail
      go_roundw
      case rel => exact ⟨k + 1, by omega, by go_num, by trivial⟩
      case measure => simp [intOf]; omega
    · obtain rfl : n = k := by omega
      clear hlt hkn hsh
      go_wp2_with (at_builtin; go_loud (refine append_from_at _ rfl (.const (.slice none 0 0)) (.tmp 44) 22 rfl (w.heap.size + 2) 3 (.int .i64 0) 8 Try.underlying22 int_info rfl (.slice none 0 0) 0 [] rfl (World.ownsRow_nil _ _ _ _) A n c (natC ns) rfl (by rw [natC_length]; exact HN.out) HNo.out (by exact HL.out.alloc _) (natC_one ns) (by simp only [maxLen]; omega) (by omega) (by simp) ?_))
      intro nv w2 hown hg hloc
      obtain ⟨A2, c2, rfl, hle2, _, _, hnone2, _⟩ := own_slice hown
      have b1 : Blk ((w.alloc (.cells #[.slice none 0 0] 25)).alloc (.cells #[.slice none 0 0] 25)) w.heap.size 25 [.slice none 0 0] := (Blk.new w 25 [.slice none 0 0]).alloc _
      have b2 := Blk.new (w.alloc (.cells #[.slice none 0 0] 25)) 25 [.slice none 0 0]
      rw [World.size_alloc] at b2
      have hbel := chain (bnew w (.cells #[.slice none 0 0] 25)) (bnew _ (.cells #[.slice none 0 0] 25))
      have s2 := hg.size
      simp only [World.size_alloc] at s2
      have r1 : Blk w2 w.heap.size 25 [.slice none 0 0] := (hg.block _ (by simp; omega) (fun e => by cases e)).trans b1
      have r2 : Blk w2 (w.heap.size + 1) 25 [.slice none 0 0] := (hg.block _ (by simp) (fun e => by cases e)).trans b2
      have hbel2 : Below w.heap.size w w2 := hbel.grown hg (by simp; omega) (fun q hq => by cases hq)
      have hnb : ∀ q, (Value.slice A2 n c2).ownBlock = some q → q < w2.heap.size := fun q hq => (hown.lt q hq).2
      have H0 : Hid (RwAt w w2.heap.size L n ns 0 [] (.slice none 0 0) (.slice A2 n c2) (w2.alloc (.cells #[.slice A2 n c2] 22))) := Lib.hid ⟨r1.alloc _, r2.alloc _, Blk.new w2 22 [.slice A2 n c2], World.ownsRow_nil _ _ _ _, by rw [lst_zero]; exact hown.alloc _, by omega, hnb, (fun q hq => by cases hq), rfl, (fun x hx => by cases hx), hbel2.alloc (by omega) _⟩
      have hT : w.heap.size + 2 ≤ w2.heap.size := by omega
      clear b1 b2 hbel s2 r1 r2 hbel2 hnb hown hg hloc
      go_wp2_with fail
      generalize w2.alloc (.cells #[.slice A2 n c2] 22) = w3 at *
      generalize w2.heap.size = T at *
      go_loopw [10] (fun s W => ∃ (i : Nat) (done : List Lev) (v : Value), s = .int .i64 i ∧ i ≤ L ∧ RwAt w T L n ns i done v (.slice A2 n c2) W) (fun s _ => L - (intOf s).toNat)
      case atStart => exact ⟨0, [], _, rfl, Nat.zero_le _, H0.out⟩
      case round =>
        obtain ⟨i, done, v, rfl, hi, hat⟩ := hrel
        rename World => wo
        have HAT := Lib.hid hat
        have hl2 : Lies wo wo.heap.size A2 (natC (lst L i ns)) := by
          obtain ⟨A', c', e, _, _, h2, _, _⟩ := own_slice hat.row
          injection e with e1 e2 e3
          rw [e1]
          exact h2
        have q8 : wo.cell? ⟨w.heap.size + 1, 0, none⟩ = some v := hat.bw.cell 0
        have q9 : wo.cell? ⟨T, 0, none⟩ = some (.slice A2 n c2) := hat.bn.cell 0
        have lT := hat.bn.lt
        have HL2 := Lib.hid hl2
        clear hat hl2
        by_cases hlt : i < L
        · obtain ⟨q, hq⟩ : ∃ q, q = L - 1 - i := ⟨_, rfl⟩
          have hw1 : (L : Int) - 1 - (i : Int) = (q : Int) := by omega
          have hsq := pow_21 q (by omega)
          have hpq : 2 ^ q ≤ 2 ^ 21 := Nat.pow_le_pow_right (by decide) (by omega)
          have hp0 : 0 < 2 ^ q := Nat.two_pow_pos q
          have HQ := Lib.hid hq
          obtain ⟨p, hp⟩ : ∃ p, p = 2 ^ q := ⟨_, rfl⟩
          rw [← hp] at hsq hpq hp0
          have HPq := Lib.hid hp
          have hq21 : q ≤ 21 := by omega
          clear hq hp
          have hX0 := Blk.new wo 3 [.int .i64 p]
          have HL3 := Lib.hid (HL2.out.alloc (.cells #[.int .i64 p] 3))
          have q9' : (wo.alloc (.cells #[.int .i64 p] 3)).cell? ⟨T, 0, none⟩ = some (.slice A2 n c2) := (HAT.out.bn.alloc _).cell 0
          go_wp2_with fail
          go_loopw [12, 58] (fun s12 s58 W => ∃ k : Nat, k ≤ n ∧ s58 = .int .i64 k ∧ W.ownsRow (wo.heap.size + 1) 4 1 s12 k (((digs10 q (lst L i ns)).take k).map .bool) ∧ Below (wo.heap.size + 1) (wo.alloc (.cells #[.int .i64 p] 3)) W) (fun _ s58 _ => n - (intOf s58).toNat)
          case atStart => exact ⟨0, Nat.zero_le _, rfl, World.ownsRow_nil _ _ _ _, Below.refl _ _⟩
          case round =>
            obtain ⟨k, hk, rfl, hownb, hbl⟩ := hrel
            have hsb := hbl.size
            rw [World.size_alloc] at hsb
            by_cases hk2 : k < n
            · obtain ⟨b, o, x, rfl, hb, hx, hc⟩ := (HL3.out.on (by simpa using hbl)).at_ (f := fun x : Nat => Value.int .i64 (x : Int)) (k := k) (by rw [HLs.out]; exact hk2)
              have hcp := (hX0.below hbl (by omega)).cell 0
              have hxb := HXm.out i k x hx
              have HSn := Lib.hid (show ((digs10 q (lst L i ns)).take (k + 1)).map Value.bool = ((digs10 q (lst L i ns)).take k).map Value.bool ++ [.bool (x.testBit q)] by rw [List.take_add_one, digs10, List.getElem?_map, hx]; simp)
              clear hx
              have hp1 : ¬ (p : Int) = 0 := by omega
              have hx1 : (x : Int).tdiv (p : Int) = ((x / p : Nat) : Int) := by rw [← Int.ofNat_tdiv]
              have hub : x / p ≤ 2097152 := Nat.le_trans (Nat.div_le_self _ _) hxb
              have hbit : (((x / p % 2 : Nat) : Int) == 1) = x.testBit q := by
                rw [Nat.testBit_eq_decide_div_mod_eq, HPq.out]
                have := Nat.mod_two_eq_zero_or_one (x / 2 ^ q)
                rcases this with h | h <;> rw [h] <;> rfl
              generalize x.testBit q = bb at *
              generalize x / p = u at *
              have hu1 : (u : Int).tmod 2 = ((u % 2 : Nat) : Int) := by rw [show (2 : Int) = ((2 : Nat) : Int) from rfl, ← Int.ofNat_tmod]
              generalize u % 2 = t at *
              simp only [List.getElem?_cons_zero] at hcp
              go_wp2_with (at_builtin; go_loud (refine append_one _ rfl (.tmp 62) (.tmp 68) 68 rfl (wo.heap.size + 1) 4 (.bool false) 1 Try.underlying68 bool_inf10 rfl u12 k _ rfl (hownb.alloc _) _ 1 (.bool bb) rfl (by simp) rfl (by simp only [maxLen]; omega) (by omega) (by first | omega | (simp; done) | (simp; omega)) ?_))
              intro v4 w4 hown4 hg4
              go_wp2_with fail
              go_roundw
              case rel => exact ⟨k + 1, by omega, by go_num, by rw [HSn.out, List.map_take]; exact hown4, (hbl.alloc hsb _).grown hg4 (by first | omega | (simp; done) | (simp; omega)) (fun y hy => (hownb.lt y hy).1)⟩
              case measure => simp [intOf]; omega
            · obtain rfl : k = n := by omega
              have hdl : (digs10 q (lst L i ns)).length = k := by unfold digs10; rw [List.length_map, HLs.out]
              rw [List.take_of_length_le (by rw [hdl]; exact Nat.le_refl _)] at hownb
              obtain ⟨Ab, cb, rfl, _, _, hlb, _, _⟩ := own_slice hownb
              have HLb := Lib.hid hlb
              have HBw := Lib.hid hbl
              have hX1 : Below wo.heap.size wo wr := (bnew wo (.cells #[.int .i64 p] 3)).trans (hbl.mono (by omega))
              have HX1 := Lib.hid hX1
              have HXp := Lib.hid (hX0.below hbl (by omega))
              have HBi := Lib.hid (HB.out Ab i cb wr hlt (by rw [← HQ.out]; exact HLb.out))
              rw [← HQ.out] at HBi
              clear hownb hlb hbl hX0 hX1 q9' hdl
              go_wp2_with fail
              refine HBi.out.mono ?_
              rintro e w5 ⟨A1, c1, rfl, hw1', hnew1, hb5⟩
              have HW5 := Lib.hid hw1'
              have HN5 := Lib.hid hnew1
              have HX5 := Lib.hid (HX1.out.trans (hb5.mono (by omega)))
              have HXp5 := Lib.hid (HXp.out.below hb5 HXp.out.lt)
              have hs5 := hb5.size
              clear hw1' hnew1 hb5
              have hn300 : k ≤ 300 := hn
              obtain ⟨Av, cv, rfl⟩ := own_form HAT.out.tab
              obtain ⟨ct, cr, cb1, cb2⟩ := HAT.out.carry HX5.out
              have g8 : w5.cell? ⟨w.heap.size + 1, 0, none⟩ = some (.slice Av i cv) := cb1.cell 0
              have l8 : w.heap.size + 1 < w5.heap.size := cb1.lt
              have hrl : (rowOf (digs10 q (lst L i ns))).length = (k + 63) / 64 := by rw [rowOf_length]; unfold digs10; rw [List.length_map, HLs.out]
              obtain ⟨ws, hws⟩ : ∃ ws, rowOf (digs10 q (lst L i ns)) = ws := ⟨_, rfl⟩
              rw [hws] at HW5 hrl
              have HWs := Lib.hid hws
              obtain ⟨wl, hwl⟩ : ∃ wl, ws.length = wl := ⟨_, rfl⟩
              have HWl := Lib.hid hwl
              rw [hws, hwl]
              have hwl6 : wl ≤ 100 := by omega
              have HXX := Lib.hid (HX5.out.trans (((bnew w5 (.cells #[.int .i64 k, .slice A1 wl c1] 32)).trans ((bnew _ (.cells #[.int .i64 k, .slice A1 wl c1] 32)).mono (by simp))).mono (by have := HX5.out.size; omega)))
              have HWX := Lib.hid ((HW5.out.alloc (.cells #[.int .i64 k, .slice A1 wl c1] 32)).alloc (.cells #[.int .i64 k, .slice A1 wl c1] 32))
              have HUs := Lib.hid ((Blk.new (w5.alloc (.cells #[.int .i64 k, .slice A1 wl c1] 32)) 32 [.int .i64 k, .slice A1 wl c1]))
              have HUc := Lib.hid (show ∀ (j : Nat) (u : Value), [Value.int .i64 k, .slice A1 wl c1][j]? = some u → ((w5.alloc (.cells #[.int .i64 k, .slice A1 wl c1] 32)).alloc (.cells #[.int .i64 k, .slice A1 wl c1] 32)).cell? ⟨w5.heap.size + 1, j, none⟩ = some u from fun j u hu => by
                have h := HUs.out.cell j
                rw [World.size_alloc] at h
                rw [← hu]
                exact h)
              have HOne := Lib.hid (show ∀ u ∈ [Value.int .i64 k, .slice A1 wl c1], u.oneCell' = true from fun u hu => by
                rcases List.mem_cons.1 hu with e | hu2
                · rw [e]; rfl
                · rw [List.mem_singleton.1 hu2]; rfl)
              have HXpX := Lib.hid ((HXp5.out.alloc (.cells #[.int .i64 k, .slice A1 wl c1] 32)).alloc (.cells #[.int .i64 k, .slice A1 wl c1] 32))
              obtain ⟨dt, dr, db1, db2⟩ := HAT.out.carry HXX.out
              have HDt := Lib.hid dt
              have HDr := Lib.hid dr
              have HDb1 := Lib.hid db1
              have HDb2 := Lib.hid db2
              have hbase5 : w.heap.size + 2 ≤ w5.heap.size + 1 + 1 := by omega
              clear ct cr cb1 cb2 dt dr db1 db2 hrl hws hwl
              go_wp2_with (at_builtin; go_loud (refine append_rec_at _ rfl (.tmp 77) (.tmp 79) 23 rfl (w.heap.size + 2) 32 (.agg #[.int .i64 0, .slice none 0 0]) 2 32 Try.underlying23 bits_inf10 rfl (by decide) (.slice Av i cv) i (levC done) rfl HDt.out (w5.heap.size + 1) 1 [.int .i64 k, .slice A1 wl c1] rfl rfl HUc.out HOne.out (by simp only [maxLen]; omega) (by omega) (by first | omega | (simp; omega)) ?_))
              intro v' Y hownY hgY hlocY
              obtain ⟨Av', cv', rfl⟩ := own_form hownY
              have hvtn : ∀ z, z ≤ T → (Value.slice Av i cv).ownBlock ≠ some z := fun z hz e => by have := HAT.out.vt z e; omega
              have hvlt : ∀ z, (Value.slice Av i cv).ownBlock = some z → z < wo.heap.size := fun z hz => (HAT.out.tab.lt z hz).2
              have hTT := HAT.out.hT
              have hnbq := HAT.out.nb
              have hnlo : ∀ z, (Value.slice A2 k c2).ownBlock = some z → w.heap.size + 2 ≤ z := fun z hz => (HAT.out.row.lt z hz).1
              have hTl : T < wo.heap.size := HAT.out.bn.lt
              have y1 : Blk Y (w.heap.size + 1) 25 [.slice Av i cv] := (hgY.block _ HDb1.out.lt (fun e => hvtn _ (by omega) e.symm)).trans HDb1.out
              have y2 : Blk Y T 22 [.slice A2 k c2] := (hgY.block _ HDb2.out.lt (fun e => hvtn _ (by omega) e.symm)).trans HDb2.out
              have y3 : Blk Y wo.heap.size 3 [.int .i64 p] := (hgY.block _ HXpX.out.lt (fun e => by have := hvlt _ e.symm; omega)).trans HXpX.out
              have y4 : Y.ownsRow (w.heap.size + 2) 3 1 (.slice A2 k c2) k (natC (lst L i ns)) := own_keep HDr.out fun z hz => hgY.block z (HDr.out.lt z hz).2 (fun e => by have := HAT.out.vt z e.symm; have := hnbq z hz; omega)
              have yf := y1.frozen 0
              have yc : Y.cell? ⟨w.heap.size + 1, 0, none⟩ = some (.slice Av i cv) := y1.cell 0
              have Z2 := y2.far (p := ⟨w.heap.size + 1, 0, none⟩) (by show T ≠ w.heap.size + 1; omega) (.slice Av' (i + 1) cv')
              have Z3 := y3.far (p := ⟨w.heap.size + 1, 0, none⟩) (by show wo.heap.size ≠ w.heap.size + 1; omega) (.slice Av' (i + 1) cv')
              have Z4 := own_keep (w' := Y.setCell ⟨w.heap.size + 1, 0, none⟩ (.slice Av' (i + 1) cv')) y4 fun z hz => Below.heap_setCell Y ⟨w.heap.size + 1, 0, none⟩ _ z (by show z ≠ w.heap.size + 1; have := hnlo z hz; omega)
              have zc : (Y.setCell ⟨w.heap.size + 1, 0, none⟩ (.slice Av' (i + 1) cv')).cell? ⟨T, 0, none⟩ = some (.slice A2 k c2) := Z2.cell 0
              have HSt2 := Lib.hid (HSt (w.heap.size + 2) (.slice A2 k c2) i p T wo.heap.size _ Z4 (by rw [HPq.out, HQ.out]) hlt zc (Z3.cell 0) Z2.lt Z3.lt (fun e => by have := hnbq _ e; omega) (fun e => by have := hnbq _ e; omega))
              have HStep := Lib.hid (fun Z (hr : Z.ownsRow (w.heap.size + 2) 3 1 (.slice A2 k c2) k (natC (nxt (L - 1 - i) (lst L i ns)))) hg2 => HAT.out.step (Z := Z) hlt HXX.out (A1 := A1) (c1 := c1) (by rw [← HQ.out, HWs.out]; exact HWX.out) (HN5.out.mono (by have := HX1.out.size; omega)) (by rw [← HQ.out, HWs.out, HWl.out]; exact hownY) hgY (by rw [World.size_alloc, World.size_alloc]; exact hlocY) hr hg2)
              clear hownY hgY hlocY y1 y2 y3 y4 Z2 Z3 Z4 hvtn hvlt hnbq hnlo g8
              go_wp2_with fail
              refine HSt2.out.mono ?_
              rintro e w9 ⟨rfl, hr9, hg9⟩
              have HFin := Lib.hid (HStep.out w9 (by rw [← HQ.out, nxt_bitP, ← HPq.out]; exact hr9) hg9)
              clear hr9 hg9 zc yc yf
              go_wp2_with fail
              go_roundw
              case rel => exact ⟨i + 1, _, _, by go_num, by omega, HFin.out⟩
              case measure => simp [intOf]; omega
        · obtain rfl : L = i := by omega
          obtain ⟨Av, cv, rfl⟩ := own_form HAT.out.tab
          have HMt := Lib.hid (fun u => mat_end (u := u) HAT.out)
          have HMd : Hid (MadeOf ns.length (levs L ns) done) := by
            have h := HAT.out.dn
            rw [List.take_of_length_le (by rw [levs_length]; exact Nat.le_refl _), ← HN.out] at h
            exact h
          have r0 := HAT.out.res.cell 0
          have rf := HAT.out.res.frozen 0
          simp only [List.getElem?_cons_zero] at r0
          go_wp2_with fail
          exact bodyPost_ret (v := .tuple #[.agg #[.slice Av L cv], .int .i64 0]) (by simp [results, Try.results15, go_sem, r0]) rfl ⟨Av, done, cv, rfl, HMd.out, HMt.out _, HAT.out.bel.setCell (Nat.le_refl _) _⟩
end Go.Proofs.Ytjgibbccjijpaaa
