/-
The code of the seat's functions, as the abstract machine has it (printed by a tool of ours off the dump), and that each is what the compilation gives.
-/
import Derived.Test.YteonklnjchefiaaAmY
import Derived.Test.YteonklnjchefiaaRows
import Derived.Test.YteonklnjchefiaaTabA
import Derived.Test.YteonklnjchefiaaTabB
namespace Go.Proofs.Yteonklnjchefiaa.T
open Go Go.Am
def mode (f h : Nat) : Nat :=
  let g := if h < 2000000 then h else h - 2000000
  if g = 1000002 ∨ g = 1000003 then 0 else
  if g = 1000001 then (if f ∈ [116, 124] then 0 else 1) else
  if g = 124 ∧ f = 124 then 0 else
  if g = 1000000 then (if f ∈ [137, 138] then 0 else 3)
  else if g ∈ [103, 117, 119, 126, 120, 137] then 0
  else if g ∈ [102, 127, 109, 132] then 3
  else if g = 42 ∧ f ∈ [36, 93, 100, 10, 11, 37] then 2
  else if g ∈ [121, 105] then 2
  else if g = 85 ∧ f = 46 then 2
  else if g ∈ [97, 116] then 0
  else if g ∈ [80, 96] ∧ f ∈ [94, 59, 60] then 0
  else if g = 75 ∧ f = 62 then 2 else 1

def tab : Nat → Option AFn
  | 2 => some f2
  | 3 => some f3
  | 13 => some f13
  | 15 => some f15
  | 18 => some f18
  | 24 => some f24
  | 27 => some f27
  | 28 => some f28
  | 30 => some f30
  | 31 => some f31
  | 32 => some f32
  | 34 => some f34
  | 39 => some f39
  | 42 => some f42
  | 43 => some f43
  | 45 => some f45
  | 46 => some f46
  | 47 => some f47
  | 48 => some f48
  | 50 => some f50
  | 52 => some f52
  | 53 => some f53
  | 57 => some f57
  | 58 => some f58
  | 59 => some f59
  | 60 => some f60
  | 63 => some f63
  | 64 => some f64
  | 65 => some f65
  | 66 => some f66
  | 69 => some f69
  | 70 => some f70
  | 72 => some f72
  | 73 => some f73
  | 74 => some f74
  | 75 => some f75
  | 76 => some f76
  | 77 => some f77
  | 78 => some f78
  | 79 => some f79
  | 80 => some f80
  | 81 => some f81
  | 82 => some f82
  | 83 => some f83
  | 84 => some f84
  | 85 => some f85
  | 86 => some f86
  | 87 => some f87
  | 88 => some f88
  | 89 => some f89
  | 90 => some f90
  | 91 => some f91
  | 94 => some f94
  | 95 => some f95
  | 96 => some f96
  | 97 => some f97
  | 99 => some f99
  | 100 => some f100
  | 101 => some f101
  | 102 => some f102
  | 103 => some f103
  | 104 => some f104
  | 106 => some f106
  | 107 => some f107
  | 108 => some f108
  | 109 => some f109
  | 110 => some f110
  | 111 => some f111
  | 112 => some f112
  | 113 => some f113
  | 114 => some f114
  | 115 => some f115
  | 116 => some f116
  | 117 => some f117
  | 118 => some f118
  | 119 => some f119
  | 120 => some f120
  | 121 => some f121
  | 122 => some f122
  | 123 => some f123
  | 124 => some f124
  | 125 => some f125
  | 126 => some f126
  | 127 => some f127
  | 128 => some f128
  | 129 => some f129
  | 130 => some f130
  | 131 => some f131
  | 132 => some f132
  | 133 => some f133
  | 134 => some f134
  | 135 => some f135
  | 136 => some f136
  | 137 => some f137
  | 138 => some f138
  | _ => none
def E : Env := { fn := tab, spec := fun _ _ _ _ => none }
theorem c2 : cFn Try.prog (mode 2) 2 = some f2 := by kernel_rfl
theorem c3 : cFn Try.prog (mode 3) 3 = some f3 := by kernel_rfl
theorem c13 : cFn Try.prog (mode 13) 13 = some f13 := by kernel_rfl
theorem c15 : cFn Try.prog (mode 15) 15 = some f15 := by kernel_rfl
theorem c18 : cFn Try.prog (mode 18) 18 = some f18 := by kernel_rfl
theorem c24 : cFn Try.prog (mode 24) 24 = some f24 := by kernel_rfl
theorem c27 : cFn Try.prog (mode 27) 27 = some f27 := by kernel_rfl
theorem c28 : cFn Try.prog (mode 28) 28 = some f28 := by kernel_rfl
theorem c30 : cFn Try.prog (mode 30) 30 = some f30 := by kernel_rfl
theorem c31 : cFn Try.prog (mode 31) 31 = some f31 := by kernel_rfl
theorem c32 : cFn Try.prog (mode 32) 32 = some f32 := by kernel_rfl
theorem c34 : cFn Try.prog (mode 34) 34 = some f34 := by kernel_rfl
theorem c39 : cFn Try.prog (mode 39) 39 = some f39 := by kernel_rfl
theorem c42 : cFn Try.prog (mode 42) 42 = some f42 := by kernel_rfl
theorem c43 : cFn Try.prog (mode 43) 43 = some f43 := by kernel_rfl
theorem c45 : cFn Try.prog (mode 45) 45 = some f45 := by kernel_rfl
theorem c46 : cFn Try.prog (mode 46) 46 = some f46 := by kernel_rfl
theorem c47 : cFn Try.prog (mode 47) 47 = some f47 := by kernel_rfl
theorem c48 : cFn Try.prog (mode 48) 48 = some f48 := by kernel_rfl
theorem c50 : cFn Try.prog (mode 50) 50 = some f50 := by kernel_rfl
theorem c52 : cFn Try.prog (mode 52) 52 = some f52 := by kernel_rfl
theorem c53 : cFn Try.prog (mode 53) 53 = some f53 := by kernel_rfl
theorem c57 : cFn Try.prog (mode 57) 57 = some f57 := by kernel_rfl
theorem c58 : cFn Try.prog (mode 58) 58 = some f58 := by kernel_rfl
theorem c59 : cFn Try.prog (mode 59) 59 = some f59 := by kernel_rfl
theorem c60 : cFn Try.prog (mode 60) 60 = some f60 := by kernel_rfl
theorem c63 : cFn Try.prog (mode 63) 63 = some f63 := by kernel_rfl
theorem c64 : cFn Try.prog (mode 64) 64 = some f64 := by kernel_rfl
theorem c65 : cFn Try.prog (mode 65) 65 = some f65 := by kernel_rfl
theorem c66 : cFn Try.prog (mode 66) 66 = some f66 := by kernel_rfl
theorem c69 : cFn Try.prog (mode 69) 69 = some f69 := by kernel_rfl
theorem c70 : cFn Try.prog (mode 70) 70 = some f70 := by kernel_rfl
theorem c72 : cFn Try.prog (mode 72) 72 = some f72 := by kernel_rfl
theorem c73 : cFn Try.prog (mode 73) 73 = some f73 := by kernel_rfl
theorem c74 : cFn Try.prog (mode 74) 74 = some f74 := by kernel_rfl
theorem c75 : cFn Try.prog (mode 75) 75 = some f75 := by kernel_rfl
theorem c76 : cFn Try.prog (mode 76) 76 = some f76 := by kernel_rfl
theorem c77 : cFn Try.prog (mode 77) 77 = some f77 := by kernel_rfl
theorem c78 : cFn Try.prog (mode 78) 78 = some f78 := by kernel_rfl
theorem c79 : cFn Try.prog (mode 79) 79 = some f79 := by kernel_rfl
theorem c80 : cFn Try.prog (mode 80) 80 = some f80 := by kernel_rfl
theorem c81 : cFn Try.prog (mode 81) 81 = some f81 := by kernel_rfl
theorem c82 : cFn Try.prog (mode 82) 82 = some f82 := by kernel_rfl
theorem c83 : cFn Try.prog (mode 83) 83 = some f83 := by kernel_rfl
theorem c84 : cFn Try.prog (mode 84) 84 = some f84 := by kernel_rfl
theorem c85 : cFn Try.prog (mode 85) 85 = some f85 := by kernel_rfl
theorem c86 : cFn Try.prog (mode 86) 86 = some f86 := by kernel_rfl
theorem c87 : cFn Try.prog (mode 87) 87 = some f87 := by kernel_rfl
theorem c88 : cFn Try.prog (mode 88) 88 = some f88 := by kernel_rfl
theorem c89 : cFn Try.prog (mode 89) 89 = some f89 := by kernel_rfl
theorem c90 : cFn Try.prog (mode 90) 90 = some f90 := by kernel_rfl
theorem c91 : cFn Try.prog (mode 91) 91 = some f91 := by kernel_rfl
theorem c94 : cFn Try.prog (mode 94) 94 = some f94 := by kernel_rfl
theorem c95 : cFn Try.prog (mode 95) 95 = some f95 := by kernel_rfl
theorem c96 : cFn Try.prog (mode 96) 96 = some f96 := by kernel_rfl
theorem c97 : cFn Try.prog (mode 97) 97 = some f97 := by kernel_rfl
theorem c99 : cFn Try.prog (mode 99) 99 = some f99 := by kernel_rfl
theorem c100 : cFn Try.prog (mode 100) 100 = some f100 := by kernel_rfl
theorem c101 : cFn Try.prog (mode 101) 101 = some f101 := by kernel_rfl
theorem c102 : cFn Try.prog (mode 102) 102 = some f102 := by kernel_rfl
theorem c103 : cFn Try.prog (mode 103) 103 = some f103 := by kernel_rfl
theorem c104 : cFn Try.prog (mode 104) 104 = some f104 := by kernel_rfl
theorem c106 : cFn Try.prog (mode 106) 106 = some f106 := by kernel_rfl
theorem c107 : cFn Try.prog (mode 107) 107 = some f107 := by kernel_rfl
theorem c108 : cFn Try.prog (mode 108) 108 = some f108 := by kernel_rfl
theorem c109 : cFn Try.prog (mode 109) 109 = some f109 := by kernel_rfl
theorem c110 : cFn Try.prog (mode 110) 110 = some f110 := by kernel_rfl
theorem c111 : cFn Try.prog (mode 111) 111 = some f111 := by kernel_rfl
theorem c112 : cFn Try.prog (mode 112) 112 = some f112 := by kernel_rfl
theorem c113 : cFn Try.prog (mode 113) 113 = some f113 := by kernel_rfl
theorem c114 : cFn Try.prog (mode 114) 114 = some f114 := by kernel_rfl
theorem c115 : cFn Try.prog (mode 115) 115 = some f115 := by kernel_rfl
theorem c116 : cFn Try.prog (mode 116) 116 = some f116 := by kernel_rfl
theorem c117 : cFn Try.prog (mode 117) 117 = some f117 := by kernel_rfl
theorem c118 : cFn Try.prog (mode 118) 118 = some f118 := by kernel_rfl
theorem c119 : cFn Try.prog (mode 119) 119 = some f119 := by kernel_rfl
theorem c120 : cFn Try.prog (mode 120) 120 = some f120 := by kernel_rfl
theorem c121 : cFn Try.prog (mode 121) 121 = some f121 := by kernel_rfl
theorem c122 : cFn Try.prog (mode 122) 122 = some f122 := by kernel_rfl
theorem c123 : cFn Try.prog (mode 123) 123 = some f123 := by kernel_rfl
theorem c124 : cFn Try.prog (mode 124) 124 = some f124 := by kernel_rfl
theorem c125 : cFn Try.prog (mode 125) 125 = some f125 := by kernel_rfl
theorem c126 : cFn Try.prog (mode 126) 126 = some f126 := by kernel_rfl
theorem c127 : cFn Try.prog (mode 127) 127 = some f127 := by kernel_rfl
theorem c128 : cFn Try.prog (mode 128) 128 = some f128 := by kernel_rfl
theorem c129 : cFn Try.prog (mode 129) 129 = some f129 := by kernel_rfl
theorem c130 : cFn Try.prog (mode 130) 130 = some f130 := by kernel_rfl
theorem c131 : cFn Try.prog (mode 131) 131 = some f131 := by kernel_rfl
theorem c132 : cFn Try.prog (mode 132) 132 = some f132 := by kernel_rfl
theorem c133 : cFn Try.prog (mode 133) 133 = some f133 := by kernel_rfl
theorem c134 : cFn Try.prog (mode 134) 134 = some f134 := by kernel_rfl
theorem c135 : cFn Try.prog (mode 135) 135 = some f135 := by kernel_rfl
theorem c136 : cFn Try.prog (mode 136) 136 = some f136 := by kernel_rfl
theorem c137 : cFn Try.prog (mode 137) 137 = some f137 := by kernel_rfl
theorem c138 : cFn Try.prog (mode 138) 138 = some f138 := by kernel_rfl
theorem tab_ok : ∀ f fn, tab f = some fn → cFn Try.prog (mode f) f = some fn := by
  intro f fn h
  unfold tab at h
  split at h
  · cases h; exact c2
  · cases h; exact c3
  · cases h; exact c13
  · cases h; exact c15
  · cases h; exact c18
  · cases h; exact c24
  · cases h; exact c27
  · cases h; exact c28
  · cases h; exact c30
  · cases h; exact c31
  · cases h; exact c32
  · cases h; exact c34
  · cases h; exact c39
  · cases h; exact c42
  · cases h; exact c43
  · cases h; exact c45
  · cases h; exact c46
  · cases h; exact c47
  · cases h; exact c48
  · cases h; exact c50
  · cases h; exact c52
  · cases h; exact c53
  · cases h; exact c57
  · cases h; exact c58
  · cases h; exact c59
  · cases h; exact c60
  · cases h; exact c63
  · cases h; exact c64
  · cases h; exact c65
  · cases h; exact c66
  · cases h; exact c69
  · cases h; exact c70
  · cases h; exact c72
  · cases h; exact c73
  · cases h; exact c74
  · cases h; exact c75
  · cases h; exact c76
  · cases h; exact c77
  · cases h; exact c78
  · cases h; exact c79
  · cases h; exact c80
  · cases h; exact c81
  · cases h; exact c82
  · cases h; exact c83
  · cases h; exact c84
  · cases h; exact c85
  · cases h; exact c86
  · cases h; exact c87
  · cases h; exact c88
  · cases h; exact c89
  · cases h; exact c90
  · cases h; exact c91
  · cases h; exact c94
  · cases h; exact c95
  · cases h; exact c96
  · cases h; exact c97
  · cases h; exact c99
  · cases h; exact c100
  · cases h; exact c101
  · cases h; exact c102
  · cases h; exact c103
  · cases h; exact c104
  · cases h; exact c106
  · cases h; exact c107
  · cases h; exact c108
  · cases h; exact c109
  · cases h; exact c110
  · cases h; exact c111
  · cases h; exact c112
  · cases h; exact c113
  · cases h; exact c114
  · cases h; exact c115
  · cases h; exact c116
  · cases h; exact c117
  · cases h; exact c118
  · cases h; exact c119
  · cases h; exact c120
  · cases h; exact c121
  · cases h; exact c122
  · cases h; exact c123
  · cases h; exact c124
  · cases h; exact c125
  · cases h; exact c126
  · cases h; exact c127
  · cases h; exact c128
  · cases h; exact c129
  · cases h; exact c130
  · cases h; exact c131
  · cases h; exact c132
  · cases h; exact c133
  · cases h; exact c134
  · cases h; exact c135
  · cases h; exact c136
  · cases h; exact c137
  · cases h; exact c138
  · cases h
theorem ok : EnvOk Try.prog mode E where
  fn := tab_ok
  spec := by intro f args h lim r h' hx; cases hx
  frame := by intro f args h lim r h' hx; cases hx
  no := fun _ _ _ _ _ _ _ _ => rfl
  len := by intro f args h lim r h' hx; cases hx
theorem e2 : E.fn 2 = some f2 := rfl
theorem e3 : E.fn 3 = some f3 := rfl
theorem e13 : E.fn 13 = some f13 := rfl
theorem e15 : E.fn 15 = some f15 := rfl
theorem e18 : E.fn 18 = some f18 := rfl
theorem e24 : E.fn 24 = some f24 := rfl
theorem e27 : E.fn 27 = some f27 := rfl
theorem e28 : E.fn 28 = some f28 := rfl
theorem e30 : E.fn 30 = some f30 := rfl
theorem e31 : E.fn 31 = some f31 := rfl
theorem e32 : E.fn 32 = some f32 := rfl
theorem e34 : E.fn 34 = some f34 := rfl
theorem e39 : E.fn 39 = some f39 := rfl
theorem e42 : E.fn 42 = some f42 := rfl
theorem e43 : E.fn 43 = some f43 := rfl
theorem e45 : E.fn 45 = some f45 := rfl
theorem e46 : E.fn 46 = some f46 := rfl
theorem e47 : E.fn 47 = some f47 := rfl
theorem e48 : E.fn 48 = some f48 := rfl
theorem e50 : E.fn 50 = some f50 := rfl
theorem e52 : E.fn 52 = some f52 := rfl
theorem e53 : E.fn 53 = some f53 := rfl
theorem e57 : E.fn 57 = some f57 := rfl
theorem e58 : E.fn 58 = some f58 := rfl
theorem e59 : E.fn 59 = some f59 := rfl
theorem e60 : E.fn 60 = some f60 := rfl
theorem e63 : E.fn 63 = some f63 := rfl
theorem e64 : E.fn 64 = some f64 := rfl
theorem e65 : E.fn 65 = some f65 := rfl
theorem e66 : E.fn 66 = some f66 := rfl
theorem e69 : E.fn 69 = some f69 := rfl
theorem e70 : E.fn 70 = some f70 := rfl
theorem e72 : E.fn 72 = some f72 := rfl
theorem e73 : E.fn 73 = some f73 := rfl
theorem e74 : E.fn 74 = some f74 := rfl
theorem e75 : E.fn 75 = some f75 := rfl
theorem e76 : E.fn 76 = some f76 := rfl
theorem e77 : E.fn 77 = some f77 := rfl
theorem e78 : E.fn 78 = some f78 := rfl
theorem e79 : E.fn 79 = some f79 := rfl
theorem e80 : E.fn 80 = some f80 := rfl
theorem e81 : E.fn 81 = some f81 := rfl
theorem e82 : E.fn 82 = some f82 := rfl
theorem e83 : E.fn 83 = some f83 := rfl
theorem e84 : E.fn 84 = some f84 := rfl
theorem e85 : E.fn 85 = some f85 := rfl
theorem e86 : E.fn 86 = some f86 := rfl
theorem e87 : E.fn 87 = some f87 := rfl
theorem e88 : E.fn 88 = some f88 := rfl
theorem e89 : E.fn 89 = some f89 := rfl
theorem e90 : E.fn 90 = some f90 := rfl
theorem e91 : E.fn 91 = some f91 := rfl
theorem e94 : E.fn 94 = some f94 := rfl
theorem e95 : E.fn 95 = some f95 := rfl
theorem e96 : E.fn 96 = some f96 := rfl
theorem e97 : E.fn 97 = some f97 := rfl
theorem e99 : E.fn 99 = some f99 := rfl
theorem e100 : E.fn 100 = some f100 := rfl
theorem e101 : E.fn 101 = some f101 := rfl
theorem e102 : E.fn 102 = some f102 := rfl
theorem e103 : E.fn 103 = some f103 := rfl
theorem e104 : E.fn 104 = some f104 := rfl
theorem e106 : E.fn 106 = some f106 := rfl
theorem e107 : E.fn 107 = some f107 := rfl
theorem e108 : E.fn 108 = some f108 := rfl
theorem e109 : E.fn 109 = some f109 := rfl
theorem e110 : E.fn 110 = some f110 := rfl
theorem e111 : E.fn 111 = some f111 := rfl
theorem e112 : E.fn 112 = some f112 := rfl
theorem e113 : E.fn 113 = some f113 := rfl
theorem e114 : E.fn 114 = some f114 := rfl
theorem e115 : E.fn 115 = some f115 := rfl
theorem e116 : E.fn 116 = some f116 := rfl
theorem e117 : E.fn 117 = some f117 := rfl
theorem e118 : E.fn 118 = some f118 := rfl
theorem e119 : E.fn 119 = some f119 := rfl
theorem e120 : E.fn 120 = some f120 := rfl
theorem e121 : E.fn 121 = some f121 := rfl
theorem e122 : E.fn 122 = some f122 := rfl
theorem e123 : E.fn 123 = some f123 := rfl
theorem e124 : E.fn 124 = some f124 := rfl
theorem e125 : E.fn 125 = some f125 := rfl
theorem e126 : E.fn 126 = some f126 := rfl
theorem e127 : E.fn 127 = some f127 := rfl
theorem e128 : E.fn 128 = some f128 := rfl
theorem e129 : E.fn 129 = some f129 := rfl
theorem e130 : E.fn 130 = some f130 := rfl
theorem e131 : E.fn 131 = some f131 := rfl
theorem e132 : E.fn 132 = some f132 := rfl
theorem e133 : E.fn 133 = some f133 := rfl
theorem e134 : E.fn 134 = some f134 := rfl
theorem e135 : E.fn 135 = some f135 := rfl
theorem e136 : E.fn 136 = some f136 := rfl
theorem e137 : E.fn 137 = some f137 := rfl
theorem e138 : E.fn 138 = some f138 := rfl
theorem es (f : Nat) (a : List AV) (h : List AO) (l : Nat) : E.spec f a h l = none := rfl
end Go.Proofs.Yteonklnjchefiaa.T
