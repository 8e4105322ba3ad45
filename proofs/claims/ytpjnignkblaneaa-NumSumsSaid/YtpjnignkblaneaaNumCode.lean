/- What the calls of math/bits that layer 1 makes answer, and num's own calls but the quotients of two words: for every input of their kinds. -/
import Derived.Test.YtpjnignkblaneaaNumBits
import Derived.Lib.BitFns
import Derived.Lib.ItoaNum
namespace Go.Proofs.Ytpjnignkblaneaa
open Go.RowKit NumMath
set_option linter.unusedVariables false

theorem size_any (n : Int) (w : World) (h0 : -9223372036854775808 ≤ n) (h1 : n ≤ 9223372036854775807) :
    Calls Try.prog 19 #[.int .i64 n] w fun e w' => e = .returned (.int .u64 (sz n)) ∧ w = w' := by
  by_cases h : n < 0
  · have e : sz n = -n := by simp [sz, h]
    have H := Lib.hid e; clear e
    go_enter Try.func19, Try.ntmps19
    go_wp2
    go_ret
    exact ⟨ret_int (by rw [H.out]; simp only [wrapu]; omega), rfl⟩
  · have e : sz n = n := by simp [sz, h]
    have H := Lib.hid e; clear e
    go_enter Try.func19, Try.ntmps19
    go_wp2
    go_ret
    exact ⟨ret_int H.out.symm, rfl⟩

theorem signed_any (m : Int) (below : Bool) (w : World) (h0 : 0 ≤ m) (h1 : m < 18446744073709551616) :
    Calls Try.prog 20 #[.int .u64 m, .bool below] w fun e w' => e = .returned (.tuple #[.int .i64 (sg m below).1, .bool (sg m below).2]) ∧ w = w' := by
  cases below
  · by_cases h : 9223372036854775807 < m
    · have H := Lib.hid (sg_plus_no m h)
      go_enter Try.func20, Try.ntmps20
      go_wp2
      go_ret2
      exact ⟨ret_pair H.out, rfl⟩
    · have H := Lib.hid (sg_plus m h0 (by omega))
      go_enter Try.func20, Try.ntmps20
      go_wp2
      go_ret2
      exact ⟨ret_pair H.out, rfl⟩
  · by_cases h : 9223372036854775808 < m
    · have H := Lib.hid (sg_minus_no m h)
      go_enter Try.func20, Try.ntmps20
      go_wp2
      go_ret2
      exact ⟨ret_pair H.out, rfl⟩
    · have H := Lib.hid (sg_minus m h0 (by omega))
      go_enter Try.func20, Try.ntmps20
      go_wp2
      go_ret2
      exact ⟨ret_pair (pair_eq H.out (by simp only [wrapu, wrap64]; omega)), rfl⟩

/-! ### math/bits -/
theorem mulN (x y : Nat) : (x : Int) * (y : Int) = ((x * y : Nat) : Int) := (Int.natCast_mul x y).symm
theorem addN (x y : Nat) : (x : Int) + (y : Int) = ((x + y : Nat) : Int) := (Int.natCast_add x y).symm
theorem divN (x : Nat) : (x : Int) / 4294967296 = ((x / 4294967296 : Nat) : Int) := by omega
theorem wrapN (x : Nat) (h : x < 18446744073709551616) : IntKind.u64.wrap (x : Int) = (x : Int) := by rw [wrapu]; omega
theorem wrapM (x : Nat) : IntKind.u64.wrap (x : Int) = ((x % 18446744073709551616 : Nat) : Int) := by rw [wrapu]; omega
theorem maskN (x : Nat) (h : x < 18446744073709551616) : bits .and .u64 (x : Int) 4294967295 = ((x % 4294967296 : Nat) : Int) := by rw [and_low _ (by omega) (by omega)]; omega
set_option maxHeartbeats 1000000 in
theorem mul64_nat (x y : Nat) (hx : x < 18446744073709551616) (hy : y < 18446744073709551616) (w : World) :
    Calls Try.prog 18 #[.int .u64 x, .int .u64 y] w fun e w' => e = .returned (.tuple #[.int .u64 ((x * y / 18446744073709551616 : Nat) : Int), .int .u64 ((x * y % 18446744073709551616 : Nat) : Int)]) ∧ w = w' := by
  obtain ⟨bd, bt, bw, hhi⟩ := Lib.mul64_hi x y hx hy
  have ba := Lib.half_mul_le (a := x / 4294967296) (b := y / 4294967296) (by omega) (by omega)
  have bb := Lib.half_mul_le (a := x / 4294967296) (b := y % 4294967296) (by omega) (by omega)
  have bc := Lib.half_mul_le (a := x % 4294967296) (b := y / 4294967296) (by omega) (by omega)
  have ba' : x / 4294967296 * (y / 4294967296) < 18446744073709551616 := by omega
  have bb' : x / 4294967296 * (y % 4294967296) < 18446744073709551616 := by omega
  have bc' : x % 4294967296 * (y / 4294967296) < 18446744073709551616 := by omega
  have bh1 : x / 4294967296 * (y / 4294967296) + (x / 4294967296 * (y % 4294967296) + x % 4294967296 * (y % 4294967296) / 4294967296) / 4294967296 < 18446744073709551616 := by omega
  have bh : x / 4294967296 * (y / 4294967296) + (x / 4294967296 * (y % 4294967296) + x % 4294967296 * (y % 4294967296) / 4294967296) / 4294967296 + ((x / 4294967296 * (y % 4294967296) + x % 4294967296 * (y % 4294967296) / 4294967296) % 4294967296 + x % 4294967296 * (y / 4294967296)) / 4294967296 < 18446744073709551616 := by omega
  go_enter Try.func18, Try.ntmps18
  go_wp2
  simp only [maskN x hx, maskN y hy, divN, mulN, addN, wrapN _ bd, wrapN _ bb', wrapN _ bt, maskN _ bt, wrapN _ bc', wrapN _ bw, wrapN _ ba', wrapN _ bh1, wrapN _ bh, wrapM (x * y)]
  rw [hhi]
  go_ret2
  exact ⟨rfl, rfl⟩
theorem mul64_any (x y hi lo : Int) (w : World) (x0 : 0 ≤ x) (x1 : x < 18446744073709551616) (y0 : 0 ≤ y) (y1 : y < 18446744073709551616) (h1 : hi = x * y / 18446744073709551616) (h2 : lo = x * y % 18446744073709551616) :
    Calls Try.prog 18 #[.int .u64 x, .int .u64 y] w fun e w' => e = .returned (.tuple #[.int .u64 hi, .int .u64 lo]) ∧ w = w' := by
  obtain ⟨x, rfl⟩ := Int.eq_ofNat_of_zero_le x0
  obtain ⟨y, rfl⟩ := Int.eq_ofNat_of_zero_le y0
  refine (mul64_nat x y (by omega) (by omega) w).mono ?_
  rintro e w' ⟨rfl, rfl⟩
  refine ⟨ret_ii ?_ ?_, rfl⟩
  · rw [h1, mulN]; omega
  · rw [h2, mulN]; omega

/-- The last step of each way. -/
theorem len_end (k n m : Nat) (z : Int) (hk : k ≤ 56) (z0 : 0 ≤ z) (z1 : z ≤ 255) (e : z.toNat = m) (s : Lib.bitLen n = k + Lib.bitLen m) :
    wrap64 ((k : Int) + wrap64 (Lib.len8 z)) = (Lib.bitLen n : Int) := by
  have l := Lib.bitLen_le8' z z0 z1
  rw [Lib.len8_of z z0 z1, s, ← e]
  generalize Lib.bitLen z.toNat = q at *
  unfold wrap64
  omega
set_option maxHeartbeats 1000000 in
set_option maxRecDepth 100000 in
theorem len64_0 (x : Int) (w : World) (x0 : 1 ≤ x) (x1 : x < 256) :
    Calls Try.prog 26 #[.int .u64 x] w fun e w' => e = .returned (.int .i64 (Lib.bitLen x.toNat)) ∧ w = w' := by
  have s : Lib.bitLen x.toNat = 0 + Lib.bitLen x.toNat := (Nat.zero_add _).symm
  have H := Lib.hid (len_end 0 x.toNat x.toNat (x) (by decide) (by omega) (by omega) rfl s)
  clear s
  have hix := fun w => Lib.run_index_len8tab (P := Try.prog) w 9 .u8 (x) Try.underlying9 (by omega) (by omega)
  go_enter Try.func26, Try.ntmps26
  go_wp2
  go_ret
  exact ⟨ret_int (by have := H.out; simpa using this), rfl⟩
set_option maxHeartbeats 1000000 in
set_option maxRecDepth 100000 in
theorem len64_8 (x : Int) (w : World) (x0 : 256 ≤ x) (x1 : x < 65536) :
    Calls Try.prog 26 #[.int .u64 x] w fun e w' => e = .returned (.int .i64 (Lib.bitLen x.toNat)) ∧ w = w' := by
  have s : Lib.bitLen x.toNat = 8 + Lib.bitLen (x.toNat / 256) := Lib.bitLen_shift8 x.toNat (by omega) (by omega)
  have H := Lib.hid (len_end 8 x.toNat (x.toNat / 256) (x / 256) (by decide) (by omega) (by omega) (by omega) s)
  clear s
  have hix := fun w => Lib.run_index_len8tab (P := Try.prog) w 9 .u8 (x / 256) Try.underlying9 (by omega) (by omega)
  go_enter Try.func26, Try.ntmps26
  go_wp2
  go_ret
  exact ⟨ret_int H.out, rfl⟩
set_option maxHeartbeats 1000000 in
set_option maxRecDepth 100000 in
theorem len64_16 (x : Int) (w : World) (x0 : 65536 ≤ x) (x1 : x < 16777216) :
    Calls Try.prog 26 #[.int .u64 x] w fun e w' => e = .returned (.int .i64 (Lib.bitLen x.toNat)) ∧ w = w' := by
  have s : Lib.bitLen x.toNat = 16 + Lib.bitLen (x.toNat / 65536) := Lib.bitLen_shift16 x.toNat (by omega) (by omega)
  have H := Lib.hid (len_end 16 x.toNat (x.toNat / 65536) (x / 65536) (by decide) (by omega) (by omega) (by omega) s)
  clear s
  have hix := fun w => Lib.run_index_len8tab (P := Try.prog) w 9 .u8 (x / 65536) Try.underlying9 (by omega) (by omega)
  go_enter Try.func26, Try.ntmps26
  go_wp2
  go_ret
  exact ⟨ret_int H.out, rfl⟩
set_option maxHeartbeats 1000000 in
set_option maxRecDepth 100000 in
theorem len64_24 (x : Int) (w : World) (x0 : 16777216 ≤ x) (x1 : x < 4294967296) :
    Calls Try.prog 26 #[.int .u64 x] w fun e w' => e = .returned (.int .i64 (Lib.bitLen x.toNat)) ∧ w = w' := by
  have s : Lib.bitLen x.toNat = 24 + Lib.bitLen (x.toNat / 16777216) := Lib.bitLen_shift24 x.toNat (by omega) (by omega)
  have H := Lib.hid (len_end 24 x.toNat (x.toNat / 16777216) (x / 65536 / 256) (by decide) (by omega) (by omega) (by omega) s)
  clear s
  have hix := fun w => Lib.run_index_len8tab (P := Try.prog) w 9 .u8 (x / 65536 / 256) Try.underlying9 (by omega) (by omega)
  go_enter Try.func26, Try.ntmps26
  go_wp2
  go_ret
  exact ⟨ret_int H.out, rfl⟩
set_option maxHeartbeats 1000000 in
set_option maxRecDepth 100000 in
theorem len64_32 (x : Int) (w : World) (x0 : 4294967296 ≤ x) (x1 : x < 1099511627776) :
    Calls Try.prog 26 #[.int .u64 x] w fun e w' => e = .returned (.int .i64 (Lib.bitLen x.toNat)) ∧ w = w' := by
  have s : Lib.bitLen x.toNat = 32 + Lib.bitLen (x.toNat / 4294967296) := Lib.bitLen_shift32 x.toNat (by omega) (by omega)
  have H := Lib.hid (len_end 32 x.toNat (x.toNat / 4294967296) (x / 4294967296) (by decide) (by omega) (by omega) (by omega) s)
  clear s
  have hix := fun w => Lib.run_index_len8tab (P := Try.prog) w 9 .u8 (x / 4294967296) Try.underlying9 (by omega) (by omega)
  go_enter Try.func26, Try.ntmps26
  go_wp2
  go_ret
  exact ⟨ret_int H.out, rfl⟩
set_option maxHeartbeats 1000000 in
set_option maxRecDepth 100000 in
theorem len64_40 (x : Int) (w : World) (x0 : 1099511627776 ≤ x) (x1 : x < 281474976710656) :
    Calls Try.prog 26 #[.int .u64 x] w fun e w' => e = .returned (.int .i64 (Lib.bitLen x.toNat)) ∧ w = w' := by
  have s : Lib.bitLen x.toNat = 40 + Lib.bitLen (x.toNat / 1099511627776) := Lib.bitLen_shift40 x.toNat (by omega) (by omega)
  have H := Lib.hid (len_end 40 x.toNat (x.toNat / 1099511627776) (x / 4294967296 / 256) (by decide) (by omega) (by omega) (by omega) s)
  clear s
  have hix := fun w => Lib.run_index_len8tab (P := Try.prog) w 9 .u8 (x / 4294967296 / 256) Try.underlying9 (by omega) (by omega)
  go_enter Try.func26, Try.ntmps26
  go_wp2
  go_ret
  exact ⟨ret_int H.out, rfl⟩
set_option maxHeartbeats 1000000 in
set_option maxRecDepth 100000 in
theorem len64_48 (x : Int) (w : World) (x0 : 281474976710656 ≤ x) (x1 : x < 72057594037927936) :
    Calls Try.prog 26 #[.int .u64 x] w fun e w' => e = .returned (.int .i64 (Lib.bitLen x.toNat)) ∧ w = w' := by
  have s : Lib.bitLen x.toNat = 48 + Lib.bitLen (x.toNat / 281474976710656) := Lib.bitLen_shift48 x.toNat (by omega) (by omega)
  have H := Lib.hid (len_end 48 x.toNat (x.toNat / 281474976710656) (x / 4294967296 / 65536) (by decide) (by omega) (by omega) (by omega) s)
  clear s
  have hix := fun w => Lib.run_index_len8tab (P := Try.prog) w 9 .u8 (x / 4294967296 / 65536) Try.underlying9 (by omega) (by omega)
  go_enter Try.func26, Try.ntmps26
  go_wp2
  go_ret
  exact ⟨ret_int H.out, rfl⟩
set_option maxHeartbeats 1000000 in
set_option maxRecDepth 100000 in
theorem len64_56 (x : Int) (w : World) (x0 : 72057594037927936 ≤ x) (x1 : x < 18446744073709551616) :
    Calls Try.prog 26 #[.int .u64 x] w fun e w' => e = .returned (.int .i64 (Lib.bitLen x.toNat)) ∧ w = w' := by
  have s : Lib.bitLen x.toNat = 56 + Lib.bitLen (x.toNat / 72057594037927936) := Lib.bitLen_shift56 x.toNat (by omega) (by omega)
  have H := Lib.hid (len_end 56 x.toNat (x.toNat / 72057594037927936) (x / 4294967296 / 65536 / 256) (by decide) (by omega) (by omega) (by omega) s)
  clear s
  have hix := fun w => Lib.run_index_len8tab (P := Try.prog) w 9 .u8 (x / 4294967296 / 65536 / 256) Try.underlying9 (by omega) (by omega)
  go_enter Try.func26, Try.ntmps26
  go_wp2
  go_ret
  exact ⟨ret_int H.out, rfl⟩
end Go.Proofs.Ytpjnignkblaneaa
