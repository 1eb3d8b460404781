/-
The code of the seat's functions, as the abstract machine has it (printed by a tool of ours off the dump), and that each is what the compilation gives.
-/
import Derived.Test.YtaeijjfgfenfhaaAmY
import Derived.Test.YtaeijjfgfenfhaaMo
import Derived.Test.YtaeijjfgfenfhaaRows
import Derived.Test.YtaeijjfgfenfhaaTabA
import Derived.Test.YtaeijjfgfenfhaaTabB
namespace Go.Proofs.Ytaeijjfgfenfhaa.T
open Go Go.Am
def mode (f h : Nat) : Nat :=
  let g := if h < 2000000 then h else h - 2000000
  if g = 1000003 ∨ g = 1000002 then 0 else
  if g = 1000001 then 1 else
  if g = 1000000 then (if f ∈ [115, 114] then 0 else 3)
  else if g ∈ [66, 97, 98, 99, 100] then 0
  else if (g ∈ [18] ∧ f ∈ [12, 87]) ∨ (g ∈ [37] ∧ f ∈ [11]) ∨ g ∈ [65, 71, 118] then 2
  else if (g ∈ [47] ∧ f ∈ [12]) ∨ (g ∈ [38, 40] ∧ f ∈ [11]) then 3
  else if g ∈ [93, 96, 79, 73, 108, 110, 103, 119, 120, 116] then 3
  else 1

def tab : Nat → Option AFn
  | 2 => some f2
  | 3 => some f3
  | 4 => some f4
  | 5 => some f5
  | 6 => some f6
  | 7 => some f7
  | 8 => some f8
  | 9 => some f9
  | 10 => some f10
  | 11 => some f11
  | 12 => some f12
  | 13 => some f13
  | 14 => some f14
  | 15 => some f15
  | 16 => some f16
  | 17 => some f17
  | 18 => some f18
  | 19 => some f19
  | 20 => some f20
  | 21 => some f21
  | 22 => some f22
  | 23 => some f23
  | 24 => some f24
  | 25 => some f25
  | 26 => some f26
  | 27 => some f27
  | 28 => some f28
  | 29 => some f29
  | 30 => some f30
  | 31 => some f31
  | 32 => some f32
  | 33 => some f33
  | 34 => some f34
  | 35 => some f35
  | 36 => some f36
  | 37 => some f37
  | 38 => some f38
  | 39 => some f39
  | 40 => some f40
  | 41 => some f41
  | 42 => some f42
  | 43 => some f43
  | 44 => some f44
  | 45 => some f45
  | 46 => some f46
  | 47 => some f47
  | 48 => some f48
  | 49 => some f49
  | 50 => some f50
  | 51 => some f51
  | 52 => some f52
  | 53 => some f53
  | 54 => some f54
  | 55 => some f55
  | 56 => some f56
  | 57 => some f57
  | 58 => some f58
  | 59 => some f59
  | 60 => some f60
  | 61 => some f61
  | 62 => some f62
  | 63 => some f63
  | 64 => some f64
  | 65 => some f65
  | 66 => some f66
  | 67 => some f67
  | 68 => some f68
  | 69 => some f69
  | 70 => some f70
  | 71 => some f71
  | 72 => some f72
  | 73 => some f73
  | 74 => some f74
  | 75 => some f75
  | 76 => some f76
  | 77 => some f77
  | 78 => some f78
  | 79 => some f79
  | 80 => some f80
  | 81 => some f81
  | 82 => some f82
  | 83 => some f83
  | 84 => some f84
  | 85 => some f85
  | 86 => some f86
  | 87 => some f87
  | 88 => some f88
  | 89 => some f89
  | 90 => some f90
  | 91 => some f91
  | 92 => some f92
  | 93 => some f93
  | 94 => some f94
  | 95 => some f95
  | 96 => some f96
  | 99 => some f99
  | 100 => some f100
  | 101 => some f101
  | 102 => some f102
  | 103 => some f103
  | 104 => some f104
  | 105 => some f105
  | 106 => some f106
  | 107 => some f107
  | 108 => some f108
  | 109 => some f109
  | 110 => some f110
  | 111 => some f111
  | 115 => some f115
  | 116 => some f116
  | 117 => some f117
  | 118 => some f118
  | 119 => some f119
  | 120 => some f120
  | 140 => some f140
  | 141 => some f141
  | _ => none
def E : Env := { fn := tab, spec := mspec 97 98 114 }
theorem c2 : cFn Try.prog (mode 2) 2 = some f2 := by kernel_rfl
theorem c3 : cFn Try.prog (mode 3) 3 = some f3 := by kernel_rfl
theorem c4 : cFn Try.prog (mode 4) 4 = some f4 := by kernel_rfl
theorem c5 : cFn Try.prog (mode 5) 5 = some f5 := by kernel_rfl
theorem c6 : cFn Try.prog (mode 6) 6 = some f6 := by kernel_rfl
theorem c7 : cFn Try.prog (mode 7) 7 = some f7 := by kernel_rfl
theorem c8 : cFn Try.prog (mode 8) 8 = some f8 := by kernel_rfl
theorem c9 : cFn Try.prog (mode 9) 9 = some f9 := by kernel_rfl
theorem c10 : cFn Try.prog (mode 10) 10 = some f10 := by kernel_rfl
theorem c11 : cFn Try.prog (mode 11) 11 = some f11 := by kernel_rfl
theorem c12 : cFn Try.prog (mode 12) 12 = some f12 := by kernel_rfl
theorem c13 : cFn Try.prog (mode 13) 13 = some f13 := by kernel_rfl
theorem c14 : cFn Try.prog (mode 14) 14 = some f14 := by kernel_rfl
theorem c15 : cFn Try.prog (mode 15) 15 = some f15 := by kernel_rfl
theorem c16 : cFn Try.prog (mode 16) 16 = some f16 := by kernel_rfl
theorem c17 : cFn Try.prog (mode 17) 17 = some f17 := by kernel_rfl
theorem c18 : cFn Try.prog (mode 18) 18 = some f18 := by kernel_rfl
theorem c19 : cFn Try.prog (mode 19) 19 = some f19 := by kernel_rfl
theorem c20 : cFn Try.prog (mode 20) 20 = some f20 := by kernel_rfl
theorem c21 : cFn Try.prog (mode 21) 21 = some f21 := by kernel_rfl
theorem c22 : cFn Try.prog (mode 22) 22 = some f22 := by kernel_rfl
theorem c23 : cFn Try.prog (mode 23) 23 = some f23 := by kernel_rfl
theorem c24 : cFn Try.prog (mode 24) 24 = some f24 := by kernel_rfl
theorem c25 : cFn Try.prog (mode 25) 25 = some f25 := by kernel_rfl
theorem c26 : cFn Try.prog (mode 26) 26 = some f26 := by kernel_rfl
theorem c27 : cFn Try.prog (mode 27) 27 = some f27 := by kernel_rfl
theorem c28 : cFn Try.prog (mode 28) 28 = some f28 := by kernel_rfl
theorem c29 : cFn Try.prog (mode 29) 29 = some f29 := by kernel_rfl
theorem c30 : cFn Try.prog (mode 30) 30 = some f30 := by kernel_rfl
theorem c31 : cFn Try.prog (mode 31) 31 = some f31 := by kernel_rfl
theorem c32 : cFn Try.prog (mode 32) 32 = some f32 := by kernel_rfl
theorem c33 : cFn Try.prog (mode 33) 33 = some f33 := by kernel_rfl
theorem c34 : cFn Try.prog (mode 34) 34 = some f34 := by kernel_rfl
theorem c35 : cFn Try.prog (mode 35) 35 = some f35 := by kernel_rfl
theorem c36 : cFn Try.prog (mode 36) 36 = some f36 := by kernel_rfl
theorem c37 : cFn Try.prog (mode 37) 37 = some f37 := by kernel_rfl
theorem c38 : cFn Try.prog (mode 38) 38 = some f38 := by kernel_rfl
theorem c39 : cFn Try.prog (mode 39) 39 = some f39 := by kernel_rfl
theorem c40 : cFn Try.prog (mode 40) 40 = some f40 := by kernel_rfl
theorem c41 : cFn Try.prog (mode 41) 41 = some f41 := by kernel_rfl
theorem c42 : cFn Try.prog (mode 42) 42 = some f42 := by kernel_rfl
theorem c43 : cFn Try.prog (mode 43) 43 = some f43 := by kernel_rfl
theorem c44 : cFn Try.prog (mode 44) 44 = some f44 := by kernel_rfl
theorem c45 : cFn Try.prog (mode 45) 45 = some f45 := by kernel_rfl
theorem c46 : cFn Try.prog (mode 46) 46 = some f46 := by kernel_rfl
theorem c47 : cFn Try.prog (mode 47) 47 = some f47 := by kernel_rfl
theorem c48 : cFn Try.prog (mode 48) 48 = some f48 := by kernel_rfl
theorem c49 : cFn Try.prog (mode 49) 49 = some f49 := by kernel_rfl
theorem c50 : cFn Try.prog (mode 50) 50 = some f50 := by kernel_rfl
theorem c51 : cFn Try.prog (mode 51) 51 = some f51 := by kernel_rfl
theorem c52 : cFn Try.prog (mode 52) 52 = some f52 := by kernel_rfl
theorem c53 : cFn Try.prog (mode 53) 53 = some f53 := by kernel_rfl
theorem c54 : cFn Try.prog (mode 54) 54 = some f54 := by kernel_rfl
theorem c55 : cFn Try.prog (mode 55) 55 = some f55 := by kernel_rfl
theorem c56 : cFn Try.prog (mode 56) 56 = some f56 := by kernel_rfl
theorem c57 : cFn Try.prog (mode 57) 57 = some f57 := by kernel_rfl
theorem c58 : cFn Try.prog (mode 58) 58 = some f58 := by kernel_rfl
theorem c59 : cFn Try.prog (mode 59) 59 = some f59 := by kernel_rfl
theorem c60 : cFn Try.prog (mode 60) 60 = some f60 := by kernel_rfl
theorem c61 : cFn Try.prog (mode 61) 61 = some f61 := by kernel_rfl
theorem c62 : cFn Try.prog (mode 62) 62 = some f62 := by kernel_rfl
theorem c63 : cFn Try.prog (mode 63) 63 = some f63 := by kernel_rfl
theorem c64 : cFn Try.prog (mode 64) 64 = some f64 := by kernel_rfl
theorem c65 : cFn Try.prog (mode 65) 65 = some f65 := by kernel_rfl
theorem c66 : cFn Try.prog (mode 66) 66 = some f66 := by kernel_rfl
theorem c67 : cFn Try.prog (mode 67) 67 = some f67 := by kernel_rfl
theorem c68 : cFn Try.prog (mode 68) 68 = some f68 := by kernel_rfl
theorem c69 : cFn Try.prog (mode 69) 69 = some f69 := by kernel_rfl
theorem c70 : cFn Try.prog (mode 70) 70 = some f70 := by kernel_rfl
theorem c71 : cFn Try.prog (mode 71) 71 = some f71 := by kernel_rfl
theorem c72 : cFn Try.prog (mode 72) 72 = some f72 := by kernel_rfl
theorem c73 : cFn Try.prog (mode 73) 73 = some f73 := by kernel_rfl
theorem c74 : cFn Try.prog (mode 74) 74 = some f74 := by kernel_rfl
theorem c75 : cFn Try.prog (mode 75) 75 = some f75 := by kernel_rfl
theorem c76 : cFn Try.prog (mode 76) 76 = some f76 := by kernel_rfl
theorem c77 : cFn Try.prog (mode 77) 77 = some f77 := by kernel_rfl
theorem c78 : cFn Try.prog (mode 78) 78 = some f78 := by kernel_rfl
theorem c79 : cFn Try.prog (mode 79) 79 = some f79 := by kernel_rfl
theorem c80 : cFn Try.prog (mode 80) 80 = some f80 := by kernel_rfl
theorem c81 : cFn Try.prog (mode 81) 81 = some f81 := by kernel_rfl
theorem c82 : cFn Try.prog (mode 82) 82 = some f82 := by kernel_rfl
theorem c83 : cFn Try.prog (mode 83) 83 = some f83 := by kernel_rfl
theorem c84 : cFn Try.prog (mode 84) 84 = some f84 := by kernel_rfl
theorem c85 : cFn Try.prog (mode 85) 85 = some f85 := by kernel_rfl
theorem c86 : cFn Try.prog (mode 86) 86 = some f86 := by kernel_rfl
theorem c87 : cFn Try.prog (mode 87) 87 = some f87 := by kernel_rfl
theorem c88 : cFn Try.prog (mode 88) 88 = some f88 := by kernel_rfl
theorem c89 : cFn Try.prog (mode 89) 89 = some f89 := by kernel_rfl
theorem c90 : cFn Try.prog (mode 90) 90 = some f90 := by kernel_rfl
theorem c91 : cFn Try.prog (mode 91) 91 = some f91 := by kernel_rfl
theorem c92 : cFn Try.prog (mode 92) 92 = some f92 := by kernel_rfl
theorem c93 : cFn Try.prog (mode 93) 93 = some f93 := by kernel_rfl
theorem c94 : cFn Try.prog (mode 94) 94 = some f94 := by kernel_rfl
theorem c95 : cFn Try.prog (mode 95) 95 = some f95 := by kernel_rfl
theorem c96 : cFn Try.prog (mode 96) 96 = some f96 := by kernel_rfl
theorem c99 : cFn Try.prog (mode 99) 99 = some f99 := by kernel_rfl
theorem c100 : cFn Try.prog (mode 100) 100 = some f100 := by kernel_rfl
theorem c101 : cFn Try.prog (mode 101) 101 = some f101 := by kernel_rfl
theorem c102 : cFn Try.prog (mode 102) 102 = some f102 := by kernel_rfl
theorem c103 : cFn Try.prog (mode 103) 103 = some f103 := by kernel_rfl
theorem c104 : cFn Try.prog (mode 104) 104 = some f104 := by kernel_rfl
theorem c105 : cFn Try.prog (mode 105) 105 = some f105 := by kernel_rfl
theorem c106 : cFn Try.prog (mode 106) 106 = some f106 := by kernel_rfl
theorem c107 : cFn Try.prog (mode 107) 107 = some f107 := by kernel_rfl
theorem c108 : cFn Try.prog (mode 108) 108 = some f108 := by kernel_rfl
theorem c109 : cFn Try.prog (mode 109) 109 = some f109 := by kernel_rfl
theorem c110 : cFn Try.prog (mode 110) 110 = some f110 := by kernel_rfl
theorem c111 : cFn Try.prog (mode 111) 111 = some f111 := by kernel_rfl
theorem c115 : cFn Try.prog (mode 115) 115 = some f115 := by kernel_rfl
theorem c116 : cFn Try.prog (mode 116) 116 = some f116 := by kernel_rfl
theorem c117 : cFn Try.prog (mode 117) 117 = some f117 := by kernel_rfl
theorem c118 : cFn Try.prog (mode 118) 118 = some f118 := by kernel_rfl
theorem c119 : cFn Try.prog (mode 119) 119 = some f119 := by kernel_rfl
theorem c120 : cFn Try.prog (mode 120) 120 = some f120 := by kernel_rfl
theorem c140 : cFn Try.prog (mode 140) 140 = some f140 := by kernel_rfl
theorem c141 : cFn Try.prog (mode 141) 141 = some f141 := by kernel_rfl
theorem tab_ok : ∀ f fn, tab f = some fn → cFn Try.prog (mode f) f = some fn := by
  intro f fn h
  unfold tab at h
  split at h
  · cases h; exact c2
  · cases h; exact c3
  · cases h; exact c4
  · cases h; exact c5
  · cases h; exact c6
  · cases h; exact c7
  · cases h; exact c8
  · cases h; exact c9
  · cases h; exact c10
  · cases h; exact c11
  · cases h; exact c12
  · cases h; exact c13
  · cases h; exact c14
  · cases h; exact c15
  · cases h; exact c16
  · cases h; exact c17
  · cases h; exact c18
  · cases h; exact c19
  · cases h; exact c20
  · cases h; exact c21
  · cases h; exact c22
  · cases h; exact c23
  · cases h; exact c24
  · cases h; exact c25
  · cases h; exact c26
  · cases h; exact c27
  · cases h; exact c28
  · cases h; exact c29
  · cases h; exact c30
  · cases h; exact c31
  · cases h; exact c32
  · cases h; exact c33
  · cases h; exact c34
  · cases h; exact c35
  · cases h; exact c36
  · cases h; exact c37
  · cases h; exact c38
  · cases h; exact c39
  · cases h; exact c40
  · cases h; exact c41
  · cases h; exact c42
  · cases h; exact c43
  · cases h; exact c44
  · cases h; exact c45
  · cases h; exact c46
  · cases h; exact c47
  · cases h; exact c48
  · cases h; exact c49
  · cases h; exact c50
  · cases h; exact c51
  · cases h; exact c52
  · cases h; exact c53
  · cases h; exact c54
  · cases h; exact c55
  · cases h; exact c56
  · cases h; exact c57
  · cases h; exact c58
  · cases h; exact c59
  · cases h; exact c60
  · cases h; exact c61
  · cases h; exact c62
  · cases h; exact c63
  · cases h; exact c64
  · cases h; exact c65
  · cases h; exact c66
  · cases h; exact c67
  · cases h; exact c68
  · cases h; exact c69
  · cases h; exact c70
  · cases h; exact c71
  · cases h; exact c72
  · cases h; exact c73
  · cases h; exact c74
  · cases h; exact c75
  · cases h; exact c76
  · cases h; exact c77
  · cases h; exact c78
  · cases h; exact c79
  · cases h; exact c80
  · cases h; exact c81
  · cases h; exact c82
  · cases h; exact c83
  · cases h; exact c84
  · cases h; exact c85
  · cases h; exact c86
  · cases h; exact c87
  · cases h; exact c88
  · cases h; exact c89
  · cases h; exact c90
  · cases h; exact c91
  · cases h; exact c92
  · cases h; exact c93
  · cases h; exact c94
  · cases h; exact c95
  · cases h; exact c96
  · cases h; exact c99
  · cases h; exact c100
  · cases h; exact c101
  · cases h; exact c102
  · cases h; exact c103
  · cases h; exact c104
  · cases h; exact c105
  · cases h; exact c106
  · cases h; exact c107
  · cases h; exact c108
  · cases h; exact c109
  · cases h; exact c110
  · cases h; exact c111
  · cases h; exact c115
  · cases h; exact c116
  · cases h; exact c117
  · cases h; exact c118
  · cases h; exact c119
  · cases h; exact c120
  · cases h; exact c140
  · cases h; exact c141
  · cases h
theorem ok : EnvOk Try.prog mode E where
  fn := tab_ok
  spec := mspec_ok mapOk (by decide)
  frame := mspec_frame
  no := by
    intro f fn hf args h lim
    show mspec _ _ _ f args h lim = none
    unfold mspec
    rw [if_neg (by rintro rfl; cases hf), if_neg (by rintro rfl; cases hf)]
  len := mspec_len
theorem e2 : E.fn 2 = some f2 := rfl
theorem e3 : E.fn 3 = some f3 := rfl
theorem e4 : E.fn 4 = some f4 := rfl
theorem e5 : E.fn 5 = some f5 := rfl
theorem e6 : E.fn 6 = some f6 := rfl
theorem e7 : E.fn 7 = some f7 := rfl
theorem e8 : E.fn 8 = some f8 := rfl
theorem e9 : E.fn 9 = some f9 := rfl
theorem e10 : E.fn 10 = some f10 := rfl
theorem e11 : E.fn 11 = some f11 := rfl
theorem e12 : E.fn 12 = some f12 := rfl
theorem e13 : E.fn 13 = some f13 := rfl
theorem e14 : E.fn 14 = some f14 := rfl
theorem e15 : E.fn 15 = some f15 := rfl
theorem e16 : E.fn 16 = some f16 := rfl
theorem e17 : E.fn 17 = some f17 := rfl
theorem e18 : E.fn 18 = some f18 := rfl
theorem e19 : E.fn 19 = some f19 := rfl
theorem e20 : E.fn 20 = some f20 := rfl
theorem e21 : E.fn 21 = some f21 := rfl
theorem e22 : E.fn 22 = some f22 := rfl
theorem e23 : E.fn 23 = some f23 := rfl
theorem e24 : E.fn 24 = some f24 := rfl
theorem e25 : E.fn 25 = some f25 := rfl
theorem e26 : E.fn 26 = some f26 := rfl
theorem e27 : E.fn 27 = some f27 := rfl
theorem e28 : E.fn 28 = some f28 := rfl
theorem e29 : E.fn 29 = some f29 := rfl
theorem e30 : E.fn 30 = some f30 := rfl
theorem e31 : E.fn 31 = some f31 := rfl
theorem e32 : E.fn 32 = some f32 := rfl
theorem e33 : E.fn 33 = some f33 := rfl
theorem e34 : E.fn 34 = some f34 := rfl
theorem e35 : E.fn 35 = some f35 := rfl
theorem e36 : E.fn 36 = some f36 := rfl
theorem e37 : E.fn 37 = some f37 := rfl
theorem e38 : E.fn 38 = some f38 := rfl
theorem e39 : E.fn 39 = some f39 := rfl
theorem e40 : E.fn 40 = some f40 := rfl
theorem e41 : E.fn 41 = some f41 := rfl
theorem e42 : E.fn 42 = some f42 := rfl
theorem e43 : E.fn 43 = some f43 := rfl
theorem e44 : E.fn 44 = some f44 := rfl
theorem e45 : E.fn 45 = some f45 := rfl
theorem e46 : E.fn 46 = some f46 := rfl
theorem e47 : E.fn 47 = some f47 := rfl
theorem e48 : E.fn 48 = some f48 := rfl
theorem e49 : E.fn 49 = some f49 := rfl
theorem e50 : E.fn 50 = some f50 := rfl
theorem e51 : E.fn 51 = some f51 := rfl
theorem e52 : E.fn 52 = some f52 := rfl
theorem e53 : E.fn 53 = some f53 := rfl
theorem e54 : E.fn 54 = some f54 := rfl
theorem e55 : E.fn 55 = some f55 := rfl
theorem e56 : E.fn 56 = some f56 := rfl
theorem e57 : E.fn 57 = some f57 := rfl
theorem e58 : E.fn 58 = some f58 := rfl
theorem e59 : E.fn 59 = some f59 := rfl
theorem e60 : E.fn 60 = some f60 := rfl
theorem e61 : E.fn 61 = some f61 := rfl
theorem e62 : E.fn 62 = some f62 := rfl
theorem e63 : E.fn 63 = some f63 := rfl
theorem e64 : E.fn 64 = some f64 := rfl
theorem e65 : E.fn 65 = some f65 := rfl
theorem e66 : E.fn 66 = some f66 := rfl
theorem e67 : E.fn 67 = some f67 := rfl
theorem e68 : E.fn 68 = some f68 := rfl
theorem e69 : E.fn 69 = some f69 := rfl
theorem e70 : E.fn 70 = some f70 := rfl
theorem e71 : E.fn 71 = some f71 := rfl
theorem e72 : E.fn 72 = some f72 := rfl
theorem e73 : E.fn 73 = some f73 := rfl
theorem e74 : E.fn 74 = some f74 := rfl
theorem e75 : E.fn 75 = some f75 := rfl
theorem e76 : E.fn 76 = some f76 := rfl
theorem e77 : E.fn 77 = some f77 := rfl
theorem e78 : E.fn 78 = some f78 := rfl
theorem e79 : E.fn 79 = some f79 := rfl
theorem e80 : E.fn 80 = some f80 := rfl
theorem e81 : E.fn 81 = some f81 := rfl
theorem e82 : E.fn 82 = some f82 := rfl
theorem e83 : E.fn 83 = some f83 := rfl
theorem e84 : E.fn 84 = some f84 := rfl
theorem e85 : E.fn 85 = some f85 := rfl
theorem e86 : E.fn 86 = some f86 := rfl
theorem e87 : E.fn 87 = some f87 := rfl
theorem e88 : E.fn 88 = some f88 := rfl
theorem e89 : E.fn 89 = some f89 := rfl
theorem e90 : E.fn 90 = some f90 := rfl
theorem e91 : E.fn 91 = some f91 := rfl
theorem e92 : E.fn 92 = some f92 := rfl
theorem e93 : E.fn 93 = some f93 := rfl
theorem e94 : E.fn 94 = some f94 := rfl
theorem e95 : E.fn 95 = some f95 := rfl
theorem e96 : E.fn 96 = some f96 := rfl
theorem e99 : E.fn 99 = some f99 := rfl
theorem e100 : E.fn 100 = some f100 := rfl
theorem e101 : E.fn 101 = some f101 := rfl
theorem e102 : E.fn 102 = some f102 := rfl
theorem e103 : E.fn 103 = some f103 := rfl
theorem e104 : E.fn 104 = some f104 := rfl
theorem e105 : E.fn 105 = some f105 := rfl
theorem e106 : E.fn 106 = some f106 := rfl
theorem e107 : E.fn 107 = some f107 := rfl
theorem e108 : E.fn 108 = some f108 := rfl
theorem e109 : E.fn 109 = some f109 := rfl
theorem e110 : E.fn 110 = some f110 := rfl
theorem e111 : E.fn 111 = some f111 := rfl
theorem e115 : E.fn 115 = some f115 := rfl
theorem e116 : E.fn 116 = some f116 := rfl
theorem e117 : E.fn 117 = some f117 := rfl
theorem e118 : E.fn 118 = some f118 := rfl
theorem e119 : E.fn 119 = some f119 := rfl
theorem e120 : E.fn 120 = some f120 := rfl
theorem e140 : E.fn 140 = some f140 := rfl
theorem e141 : E.fn 141 = some f141 := rfl
/-- a function that has no specification of its own -/
class NoSp (f : Nat) : Prop where
  h : f ≠ 97 ∧ f ≠ 98
instance : NoSp 2 := ⟨by decide⟩
instance : NoSp 3 := ⟨by decide⟩
instance : NoSp 4 := ⟨by decide⟩
instance : NoSp 5 := ⟨by decide⟩
instance : NoSp 6 := ⟨by decide⟩
instance : NoSp 7 := ⟨by decide⟩
instance : NoSp 8 := ⟨by decide⟩
instance : NoSp 9 := ⟨by decide⟩
instance : NoSp 10 := ⟨by decide⟩
instance : NoSp 11 := ⟨by decide⟩
instance : NoSp 12 := ⟨by decide⟩
instance : NoSp 13 := ⟨by decide⟩
instance : NoSp 14 := ⟨by decide⟩
instance : NoSp 15 := ⟨by decide⟩
instance : NoSp 16 := ⟨by decide⟩
instance : NoSp 17 := ⟨by decide⟩
instance : NoSp 18 := ⟨by decide⟩
instance : NoSp 19 := ⟨by decide⟩
instance : NoSp 20 := ⟨by decide⟩
instance : NoSp 21 := ⟨by decide⟩
instance : NoSp 22 := ⟨by decide⟩
instance : NoSp 23 := ⟨by decide⟩
instance : NoSp 24 := ⟨by decide⟩
instance : NoSp 25 := ⟨by decide⟩
instance : NoSp 26 := ⟨by decide⟩
instance : NoSp 27 := ⟨by decide⟩
instance : NoSp 28 := ⟨by decide⟩
instance : NoSp 29 := ⟨by decide⟩
instance : NoSp 30 := ⟨by decide⟩
instance : NoSp 31 := ⟨by decide⟩
instance : NoSp 32 := ⟨by decide⟩
instance : NoSp 33 := ⟨by decide⟩
instance : NoSp 34 := ⟨by decide⟩
instance : NoSp 35 := ⟨by decide⟩
instance : NoSp 36 := ⟨by decide⟩
instance : NoSp 37 := ⟨by decide⟩
instance : NoSp 38 := ⟨by decide⟩
instance : NoSp 39 := ⟨by decide⟩
instance : NoSp 40 := ⟨by decide⟩
instance : NoSp 41 := ⟨by decide⟩
instance : NoSp 42 := ⟨by decide⟩
instance : NoSp 43 := ⟨by decide⟩
instance : NoSp 44 := ⟨by decide⟩
instance : NoSp 45 := ⟨by decide⟩
instance : NoSp 46 := ⟨by decide⟩
instance : NoSp 47 := ⟨by decide⟩
instance : NoSp 48 := ⟨by decide⟩
instance : NoSp 49 := ⟨by decide⟩
instance : NoSp 50 := ⟨by decide⟩
instance : NoSp 51 := ⟨by decide⟩
instance : NoSp 52 := ⟨by decide⟩
instance : NoSp 53 := ⟨by decide⟩
instance : NoSp 54 := ⟨by decide⟩
instance : NoSp 55 := ⟨by decide⟩
instance : NoSp 56 := ⟨by decide⟩
instance : NoSp 57 := ⟨by decide⟩
instance : NoSp 58 := ⟨by decide⟩
instance : NoSp 59 := ⟨by decide⟩
instance : NoSp 60 := ⟨by decide⟩
instance : NoSp 61 := ⟨by decide⟩
instance : NoSp 62 := ⟨by decide⟩
instance : NoSp 63 := ⟨by decide⟩
instance : NoSp 64 := ⟨by decide⟩
instance : NoSp 65 := ⟨by decide⟩
instance : NoSp 66 := ⟨by decide⟩
instance : NoSp 67 := ⟨by decide⟩
instance : NoSp 68 := ⟨by decide⟩
instance : NoSp 69 := ⟨by decide⟩
instance : NoSp 70 := ⟨by decide⟩
instance : NoSp 71 := ⟨by decide⟩
instance : NoSp 72 := ⟨by decide⟩
instance : NoSp 73 := ⟨by decide⟩
instance : NoSp 74 := ⟨by decide⟩
instance : NoSp 75 := ⟨by decide⟩
instance : NoSp 76 := ⟨by decide⟩
instance : NoSp 77 := ⟨by decide⟩
instance : NoSp 78 := ⟨by decide⟩
instance : NoSp 79 := ⟨by decide⟩
instance : NoSp 80 := ⟨by decide⟩
instance : NoSp 81 := ⟨by decide⟩
instance : NoSp 82 := ⟨by decide⟩
instance : NoSp 83 := ⟨by decide⟩
instance : NoSp 84 := ⟨by decide⟩
instance : NoSp 85 := ⟨by decide⟩
instance : NoSp 86 := ⟨by decide⟩
instance : NoSp 87 := ⟨by decide⟩
instance : NoSp 88 := ⟨by decide⟩
instance : NoSp 89 := ⟨by decide⟩
instance : NoSp 90 := ⟨by decide⟩
instance : NoSp 91 := ⟨by decide⟩
instance : NoSp 92 := ⟨by decide⟩
instance : NoSp 93 := ⟨by decide⟩
instance : NoSp 94 := ⟨by decide⟩
instance : NoSp 95 := ⟨by decide⟩
instance : NoSp 96 := ⟨by decide⟩
instance : NoSp 99 := ⟨by decide⟩
instance : NoSp 100 := ⟨by decide⟩
instance : NoSp 101 := ⟨by decide⟩
instance : NoSp 102 := ⟨by decide⟩
instance : NoSp 103 := ⟨by decide⟩
instance : NoSp 104 := ⟨by decide⟩
instance : NoSp 105 := ⟨by decide⟩
instance : NoSp 106 := ⟨by decide⟩
instance : NoSp 107 := ⟨by decide⟩
instance : NoSp 108 := ⟨by decide⟩
instance : NoSp 109 := ⟨by decide⟩
instance : NoSp 110 := ⟨by decide⟩
instance : NoSp 111 := ⟨by decide⟩
instance : NoSp 115 := ⟨by decide⟩
instance : NoSp 116 := ⟨by decide⟩
instance : NoSp 117 := ⟨by decide⟩
instance : NoSp 118 := ⟨by decide⟩
instance : NoSp 119 := ⟨by decide⟩
instance : NoSp 120 := ⟨by decide⟩
instance : NoSp 140 := ⟨by decide⟩
instance : NoSp 141 := ⟨by decide⟩
theorem es (f : Nat) (a : List AV) (h : List AO) (l : Nat) [n : NoSp f] : E.spec f a h l = none := by
  show mspec _ _ _ f a h l = none
  unfold mspec
  rw [if_neg n.h.1, if_neg n.h.2]
end Go.Proofs.Ytaeijjfgfenfhaa.T
