/-
  What math/bits.Len64 and math/bits.Len return: contracts, walked over the translated text. No condition but what each theorem names.
-/
import Derived.Test.YtpkclmfadlkbeaaJ02
import Derived.Lib.BitFns
import Derived.IntWalk
namespace Go.Proofs.Ytpkclmfadlkbeaa
open Go.RowKit Words

theorem len8_val (x : Int) (h0 : 0 ≤ x) (h1 : x < 256) (h : x.toNat < Lib.len8tab.size) : ((Lib.len8tab[x.toNat]'h).toNat : Int) = (Lib.bitLen x.toNat : Int) ∧ Lib.bitLen x.toNat ≤ 8 := by
  have e := Lib.len8_of x h0 (by omega)
  refine ⟨?_, Lib.bitLen_le8' x h0 (by omega)⟩
  rw [← e]
  unfold Lib.len8
  rw [ByteArray.getElem?_lt' _ _ h]
  rfl

theorem wrap64_small (n : Nat) (h : n < 1000) : wrap64 (n : Int) = (n : Int) := by unfold wrap64; omega

theorem len_end (x Y : Int) (K N : Nat) (hN : N = 2 ^ K) (hK : K ≤ 56) (h0 : 0 ≤ x) (h1 : x ≤ 18446744073709551615) (hY : Y = x / (N : Int)) (hlt : Y < 256) (hge : (N : Int) ≤ x) (h : Y.toNat < Lib.len8tab.size) :
    wrap64 ((K : Int) + wrap64 ((Lib.len8tab[Y.toNat]'h).toNat : Int)) = (Lib.bitLen x.toNat : Int) := by
  obtain ⟨n, rfl⟩ := Int.eq_ofNat_of_zero_le h0
  have hYn : Y = ((n / N : Nat) : Int) := by rw [hY]; simp
  have hYt : Y.toNat = n / N := by rw [hYn]; rfl
  have hpos : 0 ≤ Y := by rw [hYn]; exact Int.natCast_nonneg _
  obtain ⟨e1, e2⟩ := len8_val Y hpos hlt h
  rw [e1]
  rw [hYt] at e2 ⊢
  have s := Lib.bitLen_shift K n (by rw [← hN]; omega) (by omega)
  rw [← hN] at s
  rw [show (((n : Nat) : Int)).toNat = n from rfl, s]
  generalize Lib.bitLen (n / N) = b at *
  rw [wrap64_small b (by omega)]
  exact wrap64_small (K + b) (by omega)

theorem len_end0 (x : Int) (h0 : 0 ≤ x) (hlt : x < 256) (h : x.toNat < Lib.len8tab.size) :
    wrap64 (wrap64 ((Lib.len8tab[x.toNat]'h).toNat : Int)) = (Lib.bitLen x.toNat : Int) := by
  obtain ⟨e1, e2⟩ := len8_val x h0 hlt h
  rw [e1, wrap64_small _ (by omega), wrap64_small _ (by omega)]

set_option maxHeartbeats 4000000 in
set_option maxRecDepth 100000 in
/-- math/bits.Len64: how many bits a number needs. -/
theorem len64_any (x : Int) (w : World) (h0 : 0 ≤ x) (h1 : x ≤ 18446744073709551615) :
    Calls Try.prog 78 #[.int .u64 x] w fun e w' => e = .returned (.int .i64 (Lib.bitLen x.toNat)) ∧ w' = w := by
  have hsz : (Lib.len8tab.size : Int) = 256 := by rw [Lib.len8tab_size]; rfl
  go_enter Try.func78, Try.ntmps78
  go_wp2
  all_goals (go_ret; refine ⟨congrArg Ending.returned (congrArg (Value.int IntKind.i64) ?_), rfl⟩)
  · exact len_end x _ 56 72057594037927936 (by decide) (by decide) h0 h1 (by omega) (by omega) (by omega) _
  · exact len_end x _ 48 281474976710656 (by decide) (by decide) h0 h1 (by omega) (by omega) (by omega) _
  · exact len_end x _ 40 1099511627776 (by decide) (by decide) h0 h1 (by omega) (by omega) (by omega) _
  · exact len_end x _ 32 4294967296 (by decide) (by decide) h0 h1 (by omega) (by omega) (by omega) _
  · exact len_end x _ 24 16777216 (by decide) (by decide) h0 h1 (by omega) (by omega) (by omega) _
  · exact len_end x _ 16 65536 (by decide) (by decide) h0 h1 (by omega) (by omega) (by omega) _
  · exact len_end x _ 8 256 (by decide) (by decide) h0 h1 (by omega) (by omega) (by omega) _
  · exact len_end0 x h0 (by omega) _

/-- math/bits.Len. -/
theorem len_any (x : Int) (w : World) (h0 : 0 ≤ x) (h1 : x ≤ 18446744073709551615) :
    Calls Try.prog 66 #[.int .u64 x] w fun e w' => e = .returned (.int .i64 (Lib.bitLen x.toNat)) ∧ w' = w := by
  have HL := Lib.hid (len64_any x · h0 h1)
  go_enter Try.func66, Try.ntmps66
  go_wp2_with (go_at_call 78; refine (HL.out _).mono ?_; rintro e w' ⟨rfl, rfl⟩)
  go_ret
  exact ⟨rfl, rfl⟩
end Go.Proofs.Ytpkclmfadlkbeaa
