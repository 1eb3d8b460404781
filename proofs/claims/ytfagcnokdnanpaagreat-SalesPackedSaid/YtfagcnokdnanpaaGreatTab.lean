/-
The code of the seat's functions, as the abstract machine has it (printed by a tool of ours off the dump), and that each is what the compilation gives.
-/
import Derived.Test.YtfagcnokdnanpaaGreatAmY
import Derived.Test.YtfagcnokdnanpaaGreatRows
import Derived.Test.YtfagcnokdnanpaaGreatTabA
import Derived.Test.YtfagcnokdnanpaaGreatTabB
namespace Go.Proofs.YtfagcnokdnanpaaGreat.T
open Go Go.Am
def mode (f h : Nat) : Nat :=
  let g := if h < 2000000 then h else h - 2000000
  if g = 1000003 then (if f ∈ [134] then 1 else 0) else
  if g = 1000002 then (if f ∈ [116] then 1 else 0) else
  if g = 1000001 then (if f ∈ [120, 95, 87] then 0 else 1) else
  if g = 1000000 then (if f ∈ [134, 143, 110] then 0 else 3)
  else if g ∈ [134, 79, 110, 94, 71, 77, 138] then 0
  else if (g ∈ [120, 95] ∧ f = g) then 0
  else if (g ∈ [33] ∧ f ∈ [7, 28]) ∨ g ∈ [118, 61, 65] then 2
  else if g ∈ [81, 100, 62, 88, 66, 117, 64, 91, 114, 124, 147, 148, 149, 132, 152, 154, 107, 141, 157, 158, 105] then 3
  else 1
def tab : Nat → Option AFn
  | 6 => some f6
  | 13 => some f13
  | 15 => some f15
  | 16 => some f16
  | 20 => some f20
  | 23 => some f23
  | 25 => some f25
  | 27 => some f27
  | 29 => some f29
  | 30 => some f30
  | 31 => some f31
  | 32 => some f32
  | 33 => some f33
  | 34 => some f34
  | 35 => some f35
  | 37 => some f37
  | 38 => some f38
  | 39 => some f39
  | 40 => some f40
  | 44 => some f44
  | 46 => some f46
  | 49 => some f49
  | 55 => some f55
  | 60 => some f60
  | 61 => some f61
  | 63 => some f63
  | 64 => some f64
  | 65 => some f65
  | 66 => some f66
  | 67 => some f67
  | 68 => some f68
  | 69 => some f69
  | 70 => some f70
  | 71 => some f71
  | 72 => some f72
  | 73 => some f73
  | 74 => some f74
  | 75 => some f75
  | 76 => some f76
  | 77 => some f77
  | 79 => some f79
  | 81 => some f81
  | 82 => some f82
  | 88 => some f88
  | 90 => some f90
  | 91 => some f91
  | 93 => some f93
  | 94 => some f94
  | 97 => some f97
  | 99 => some f99
  | 100 => some f100
  | 101 => some f101
  | 102 => some f102
  | 103 => some f103
  | 104 => some f104
  | 105 => some f105
  | 106 => some f106
  | 107 => some f107
  | 108 => some f108
  | 109 => some f109
  | 110 => some f110
  | 111 => some f111
  | 112 => some f112
  | 113 => some f113
  | 114 => some f114
  | 115 => some f115
  | 116 => some f116
  | 117 => some f117
  | 118 => some f118
  | 121 => some f121
  | 122 => some f122
  | 123 => some f123
  | 124 => some f124
  | 125 => some f125
  | 126 => some f126
  | 127 => some f127
  | 128 => some f128
  | 129 => some f129
  | 130 => some f130
  | 131 => some f131
  | 132 => some f132
  | 133 => some f133
  | 134 => some f134
  | 135 => some f135
  | 136 => some f136
  | 137 => some f137
  | 138 => some f138
  | 139 => some f139
  | 140 => some f140
  | 141 => some f141
  | 142 => some f142
  | 143 => some f143
  | 144 => some f144
  | 145 => some f145
  | 146 => some f146
  | 147 => some f147
  | 148 => some f148
  | 149 => some f149
  | 150 => some f150
  | 151 => some f151
  | 152 => some f152
  | 153 => some f153
  | 154 => some f154
  | 155 => some f155
  | 156 => some f156
  | 157 => some f157
  | 158 => some f158
  | _ => none
def E : Env := { fn := tab, spec := fun _ _ _ _ => none }
theorem c6 : cFn Tryz.prog (mode 6) 6 = some f6 := by kernel_rfl
theorem c13 : cFn Tryz.prog (mode 13) 13 = some f13 := by kernel_rfl
theorem c15 : cFn Tryz.prog (mode 15) 15 = some f15 := by kernel_rfl
theorem c16 : cFn Tryz.prog (mode 16) 16 = some f16 := by kernel_rfl
theorem c20 : cFn Tryz.prog (mode 20) 20 = some f20 := by kernel_rfl
theorem c23 : cFn Tryz.prog (mode 23) 23 = some f23 := by kernel_rfl
theorem c25 : cFn Tryz.prog (mode 25) 25 = some f25 := by kernel_rfl
theorem c27 : cFn Tryz.prog (mode 27) 27 = some f27 := by kernel_rfl
theorem c29 : cFn Tryz.prog (mode 29) 29 = some f29 := by kernel_rfl
theorem c30 : cFn Tryz.prog (mode 30) 30 = some f30 := by kernel_rfl
theorem c31 : cFn Tryz.prog (mode 31) 31 = some f31 := by kernel_rfl
theorem c32 : cFn Tryz.prog (mode 32) 32 = some f32 := by kernel_rfl
theorem c33 : cFn Tryz.prog (mode 33) 33 = some f33 := by kernel_rfl
theorem c34 : cFn Tryz.prog (mode 34) 34 = some f34 := by kernel_rfl
theorem c35 : cFn Tryz.prog (mode 35) 35 = some f35 := by kernel_rfl
theorem c37 : cFn Tryz.prog (mode 37) 37 = some f37 := by kernel_rfl
theorem c38 : cFn Tryz.prog (mode 38) 38 = some f38 := by kernel_rfl
theorem c39 : cFn Tryz.prog (mode 39) 39 = some f39 := by kernel_rfl
theorem c40 : cFn Tryz.prog (mode 40) 40 = some f40 := by kernel_rfl
theorem c44 : cFn Tryz.prog (mode 44) 44 = some f44 := by kernel_rfl
theorem c46 : cFn Tryz.prog (mode 46) 46 = some f46 := by kernel_rfl
theorem c49 : cFn Tryz.prog (mode 49) 49 = some f49 := by kernel_rfl
theorem c55 : cFn Tryz.prog (mode 55) 55 = some f55 := by kernel_rfl
theorem c60 : cFn Tryz.prog (mode 60) 60 = some f60 := by kernel_rfl
theorem c61 : cFn Tryz.prog (mode 61) 61 = some f61 := by kernel_rfl
theorem c63 : cFn Tryz.prog (mode 63) 63 = some f63 := by kernel_rfl
theorem c64 : cFn Tryz.prog (mode 64) 64 = some f64 := by kernel_rfl
theorem c65 : cFn Tryz.prog (mode 65) 65 = some f65 := by kernel_rfl
theorem c66 : cFn Tryz.prog (mode 66) 66 = some f66 := by kernel_rfl
theorem c67 : cFn Tryz.prog (mode 67) 67 = some f67 := by kernel_rfl
theorem c68 : cFn Tryz.prog (mode 68) 68 = some f68 := by kernel_rfl
theorem c69 : cFn Tryz.prog (mode 69) 69 = some f69 := by kernel_rfl
theorem c70 : cFn Tryz.prog (mode 70) 70 = some f70 := by kernel_rfl
theorem c71 : cFn Tryz.prog (mode 71) 71 = some f71 := by kernel_rfl
theorem c72 : cFn Tryz.prog (mode 72) 72 = some f72 := by kernel_rfl
theorem c73 : cFn Tryz.prog (mode 73) 73 = some f73 := by kernel_rfl
theorem c74 : cFn Tryz.prog (mode 74) 74 = some f74 := by kernel_rfl
theorem c75 : cFn Tryz.prog (mode 75) 75 = some f75 := by kernel_rfl
theorem c76 : cFn Tryz.prog (mode 76) 76 = some f76 := by kernel_rfl
theorem c77 : cFn Tryz.prog (mode 77) 77 = some f77 := by kernel_rfl
theorem c79 : cFn Tryz.prog (mode 79) 79 = some f79 := by kernel_rfl
theorem c81 : cFn Tryz.prog (mode 81) 81 = some f81 := by kernel_rfl
theorem c82 : cFn Tryz.prog (mode 82) 82 = some f82 := by kernel_rfl
theorem c88 : cFn Tryz.prog (mode 88) 88 = some f88 := by kernel_rfl
theorem c90 : cFn Tryz.prog (mode 90) 90 = some f90 := by kernel_rfl
theorem c91 : cFn Tryz.prog (mode 91) 91 = some f91 := by kernel_rfl
theorem c93 : cFn Tryz.prog (mode 93) 93 = some f93 := by kernel_rfl
theorem c94 : cFn Tryz.prog (mode 94) 94 = some f94 := by kernel_rfl
theorem c97 : cFn Tryz.prog (mode 97) 97 = some f97 := by kernel_rfl
theorem c99 : cFn Tryz.prog (mode 99) 99 = some f99 := by kernel_rfl
theorem c100 : cFn Tryz.prog (mode 100) 100 = some f100 := by kernel_rfl
theorem c101 : cFn Tryz.prog (mode 101) 101 = some f101 := by kernel_rfl
theorem c102 : cFn Tryz.prog (mode 102) 102 = some f102 := by kernel_rfl
theorem c103 : cFn Tryz.prog (mode 103) 103 = some f103 := by kernel_rfl
theorem c104 : cFn Tryz.prog (mode 104) 104 = some f104 := by kernel_rfl
theorem c105 : cFn Tryz.prog (mode 105) 105 = some f105 := by kernel_rfl
theorem c106 : cFn Tryz.prog (mode 106) 106 = some f106 := by kernel_rfl
theorem c107 : cFn Tryz.prog (mode 107) 107 = some f107 := by kernel_rfl
theorem c108 : cFn Tryz.prog (mode 108) 108 = some f108 := by kernel_rfl
theorem c109 : cFn Tryz.prog (mode 109) 109 = some f109 := by kernel_rfl
theorem c110 : cFn Tryz.prog (mode 110) 110 = some f110 := by kernel_rfl
theorem c111 : cFn Tryz.prog (mode 111) 111 = some f111 := by kernel_rfl
theorem c112 : cFn Tryz.prog (mode 112) 112 = some f112 := by kernel_rfl
theorem c113 : cFn Tryz.prog (mode 113) 113 = some f113 := by kernel_rfl
theorem c114 : cFn Tryz.prog (mode 114) 114 = some f114 := by kernel_rfl
theorem c115 : cFn Tryz.prog (mode 115) 115 = some f115 := by kernel_rfl
theorem c116 : cFn Tryz.prog (mode 116) 116 = some f116 := by kernel_rfl
theorem c117 : cFn Tryz.prog (mode 117) 117 = some f117 := by kernel_rfl
theorem c118 : cFn Tryz.prog (mode 118) 118 = some f118 := by kernel_rfl
theorem c121 : cFn Tryz.prog (mode 121) 121 = some f121 := by kernel_rfl
theorem c122 : cFn Tryz.prog (mode 122) 122 = some f122 := by kernel_rfl
theorem c123 : cFn Tryz.prog (mode 123) 123 = some f123 := by kernel_rfl
theorem c124 : cFn Tryz.prog (mode 124) 124 = some f124 := by kernel_rfl
theorem c125 : cFn Tryz.prog (mode 125) 125 = some f125 := by kernel_rfl
theorem c126 : cFn Tryz.prog (mode 126) 126 = some f126 := by kernel_rfl
theorem c127 : cFn Tryz.prog (mode 127) 127 = some f127 := by kernel_rfl
theorem c128 : cFn Tryz.prog (mode 128) 128 = some f128 := by kernel_rfl
theorem c129 : cFn Tryz.prog (mode 129) 129 = some f129 := by kernel_rfl
theorem c130 : cFn Tryz.prog (mode 130) 130 = some f130 := by kernel_rfl
theorem c131 : cFn Tryz.prog (mode 131) 131 = some f131 := by kernel_rfl
theorem c132 : cFn Tryz.prog (mode 132) 132 = some f132 := by kernel_rfl
theorem c133 : cFn Tryz.prog (mode 133) 133 = some f133 := by kernel_rfl
theorem c134 : cFn Tryz.prog (mode 134) 134 = some f134 := by kernel_rfl
theorem c135 : cFn Tryz.prog (mode 135) 135 = some f135 := by kernel_rfl
theorem c136 : cFn Tryz.prog (mode 136) 136 = some f136 := by kernel_rfl
theorem c137 : cFn Tryz.prog (mode 137) 137 = some f137 := by kernel_rfl
theorem c138 : cFn Tryz.prog (mode 138) 138 = some f138 := by kernel_rfl
theorem c139 : cFn Tryz.prog (mode 139) 139 = some f139 := by kernel_rfl
theorem c140 : cFn Tryz.prog (mode 140) 140 = some f140 := by kernel_rfl
theorem c141 : cFn Tryz.prog (mode 141) 141 = some f141 := by kernel_rfl
theorem c142 : cFn Tryz.prog (mode 142) 142 = some f142 := by kernel_rfl
theorem c143 : cFn Tryz.prog (mode 143) 143 = some f143 := by kernel_rfl
theorem c144 : cFn Tryz.prog (mode 144) 144 = some f144 := by kernel_rfl
theorem c145 : cFn Tryz.prog (mode 145) 145 = some f145 := by kernel_rfl
theorem c146 : cFn Tryz.prog (mode 146) 146 = some f146 := by kernel_rfl
theorem c147 : cFn Tryz.prog (mode 147) 147 = some f147 := by kernel_rfl
theorem c148 : cFn Tryz.prog (mode 148) 148 = some f148 := by kernel_rfl
theorem c149 : cFn Tryz.prog (mode 149) 149 = some f149 := by kernel_rfl
theorem c150 : cFn Tryz.prog (mode 150) 150 = some f150 := by kernel_rfl
theorem c151 : cFn Tryz.prog (mode 151) 151 = some f151 := by kernel_rfl
theorem c152 : cFn Tryz.prog (mode 152) 152 = some f152 := by kernel_rfl
theorem c153 : cFn Tryz.prog (mode 153) 153 = some f153 := by kernel_rfl
theorem c154 : cFn Tryz.prog (mode 154) 154 = some f154 := by kernel_rfl
theorem c155 : cFn Tryz.prog (mode 155) 155 = some f155 := by kernel_rfl
theorem c156 : cFn Tryz.prog (mode 156) 156 = some f156 := by kernel_rfl
theorem c157 : cFn Tryz.prog (mode 157) 157 = some f157 := by kernel_rfl
theorem c158 : cFn Tryz.prog (mode 158) 158 = some f158 := by kernel_rfl
theorem tab_ok : ∀ f fn, tab f = some fn → cFn Tryz.prog (mode f) f = some fn := by
  intro f fn h
  unfold tab at h
  split at h
  · cases h; exact c6
  · cases h; exact c13
  · cases h; exact c15
  · cases h; exact c16
  · cases h; exact c20
  · cases h; exact c23
  · cases h; exact c25
  · cases h; exact c27
  · cases h; exact c29
  · cases h; exact c30
  · cases h; exact c31
  · cases h; exact c32
  · cases h; exact c33
  · cases h; exact c34
  · cases h; exact c35
  · cases h; exact c37
  · cases h; exact c38
  · cases h; exact c39
  · cases h; exact c40
  · cases h; exact c44
  · cases h; exact c46
  · cases h; exact c49
  · cases h; exact c55
  · cases h; exact c60
  · cases h; exact c61
  · cases h; exact c63
  · cases h; exact c64
  · cases h; exact c65
  · cases h; exact c66
  · cases h; exact c67
  · cases h; exact c68
  · cases h; exact c69
  · cases h; exact c70
  · cases h; exact c71
  · cases h; exact c72
  · cases h; exact c73
  · cases h; exact c74
  · cases h; exact c75
  · cases h; exact c76
  · cases h; exact c77
  · cases h; exact c79
  · cases h; exact c81
  · cases h; exact c82
  · cases h; exact c88
  · cases h; exact c90
  · cases h; exact c91
  · cases h; exact c93
  · cases h; exact c94
  · cases h; exact c97
  · cases h; exact c99
  · cases h; exact c100
  · cases h; exact c101
  · cases h; exact c102
  · cases h; exact c103
  · cases h; exact c104
  · cases h; exact c105
  · cases h; exact c106
  · cases h; exact c107
  · cases h; exact c108
  · cases h; exact c109
  · cases h; exact c110
  · cases h; exact c111
  · cases h; exact c112
  · cases h; exact c113
  · cases h; exact c114
  · cases h; exact c115
  · cases h; exact c116
  · cases h; exact c117
  · cases h; exact c118
  · cases h; exact c121
  · cases h; exact c122
  · cases h; exact c123
  · cases h; exact c124
  · cases h; exact c125
  · cases h; exact c126
  · cases h; exact c127
  · cases h; exact c128
  · cases h; exact c129
  · cases h; exact c130
  · cases h; exact c131
  · cases h; exact c132
  · cases h; exact c133
  · cases h; exact c134
  · cases h; exact c135
  · cases h; exact c136
  · cases h; exact c137
  · cases h; exact c138
  · cases h; exact c139
  · cases h; exact c140
  · cases h; exact c141
  · cases h; exact c142
  · cases h; exact c143
  · cases h; exact c144
  · cases h; exact c145
  · cases h; exact c146
  · cases h; exact c147
  · cases h; exact c148
  · cases h; exact c149
  · cases h; exact c150
  · cases h; exact c151
  · cases h; exact c152
  · cases h; exact c153
  · cases h; exact c154
  · cases h; exact c155
  · cases h; exact c156
  · cases h; exact c157
  · cases h; exact c158
  · cases h
theorem ok : EnvOk Tryz.prog mode E where
  fn := tab_ok
  spec := by intro f args h lim r h' hx; cases hx
  frame := by intro f args h lim r h' hx; cases hx
  no := fun _ _ _ _ _ _ _ _ => rfl
  len := by intro f args h lim r h' hx; cases hx
theorem e6 : E.fn 6 = some f6 := rfl
theorem e13 : E.fn 13 = some f13 := rfl
theorem e15 : E.fn 15 = some f15 := rfl
theorem e16 : E.fn 16 = some f16 := rfl
theorem e20 : E.fn 20 = some f20 := rfl
theorem e23 : E.fn 23 = some f23 := rfl
theorem e25 : E.fn 25 = some f25 := rfl
theorem e27 : E.fn 27 = some f27 := rfl
theorem e29 : E.fn 29 = some f29 := rfl
theorem e30 : E.fn 30 = some f30 := rfl
theorem e31 : E.fn 31 = some f31 := rfl
theorem e32 : E.fn 32 = some f32 := rfl
theorem e33 : E.fn 33 = some f33 := rfl
theorem e34 : E.fn 34 = some f34 := rfl
theorem e35 : E.fn 35 = some f35 := rfl
theorem e37 : E.fn 37 = some f37 := rfl
theorem e38 : E.fn 38 = some f38 := rfl
theorem e39 : E.fn 39 = some f39 := rfl
theorem e40 : E.fn 40 = some f40 := rfl
theorem e44 : E.fn 44 = some f44 := rfl
theorem e46 : E.fn 46 = some f46 := rfl
theorem e49 : E.fn 49 = some f49 := rfl
theorem e55 : E.fn 55 = some f55 := rfl
theorem e60 : E.fn 60 = some f60 := rfl
theorem e61 : E.fn 61 = some f61 := rfl
theorem e63 : E.fn 63 = some f63 := rfl
theorem e64 : E.fn 64 = some f64 := rfl
theorem e65 : E.fn 65 = some f65 := rfl
theorem e66 : E.fn 66 = some f66 := rfl
theorem e67 : E.fn 67 = some f67 := rfl
theorem e68 : E.fn 68 = some f68 := rfl
theorem e69 : E.fn 69 = some f69 := rfl
theorem e70 : E.fn 70 = some f70 := rfl
theorem e71 : E.fn 71 = some f71 := rfl
theorem e72 : E.fn 72 = some f72 := rfl
theorem e73 : E.fn 73 = some f73 := rfl
theorem e74 : E.fn 74 = some f74 := rfl
theorem e75 : E.fn 75 = some f75 := rfl
theorem e76 : E.fn 76 = some f76 := rfl
theorem e77 : E.fn 77 = some f77 := rfl
theorem e79 : E.fn 79 = some f79 := rfl
theorem e81 : E.fn 81 = some f81 := rfl
theorem e82 : E.fn 82 = some f82 := rfl
theorem e88 : E.fn 88 = some f88 := rfl
theorem e90 : E.fn 90 = some f90 := rfl
theorem e91 : E.fn 91 = some f91 := rfl
theorem e93 : E.fn 93 = some f93 := rfl
theorem e94 : E.fn 94 = some f94 := rfl
theorem e97 : E.fn 97 = some f97 := rfl
theorem e99 : E.fn 99 = some f99 := rfl
theorem e100 : E.fn 100 = some f100 := rfl
theorem e101 : E.fn 101 = some f101 := rfl
theorem e102 : E.fn 102 = some f102 := rfl
theorem e103 : E.fn 103 = some f103 := rfl
theorem e104 : E.fn 104 = some f104 := rfl
theorem e105 : E.fn 105 = some f105 := rfl
theorem e106 : E.fn 106 = some f106 := rfl
theorem e107 : E.fn 107 = some f107 := rfl
theorem e108 : E.fn 108 = some f108 := rfl
theorem e109 : E.fn 109 = some f109 := rfl
theorem e110 : E.fn 110 = some f110 := rfl
theorem e111 : E.fn 111 = some f111 := rfl
theorem e112 : E.fn 112 = some f112 := rfl
theorem e113 : E.fn 113 = some f113 := rfl
theorem e114 : E.fn 114 = some f114 := rfl
theorem e115 : E.fn 115 = some f115 := rfl
theorem e116 : E.fn 116 = some f116 := rfl
theorem e117 : E.fn 117 = some f117 := rfl
theorem e118 : E.fn 118 = some f118 := rfl
theorem e121 : E.fn 121 = some f121 := rfl
theorem e122 : E.fn 122 = some f122 := rfl
theorem e123 : E.fn 123 = some f123 := rfl
theorem e124 : E.fn 124 = some f124 := rfl
theorem e125 : E.fn 125 = some f125 := rfl
theorem e126 : E.fn 126 = some f126 := rfl
theorem e127 : E.fn 127 = some f127 := rfl
theorem e128 : E.fn 128 = some f128 := rfl
theorem e129 : E.fn 129 = some f129 := rfl
theorem e130 : E.fn 130 = some f130 := rfl
theorem e131 : E.fn 131 = some f131 := rfl
theorem e132 : E.fn 132 = some f132 := rfl
theorem e133 : E.fn 133 = some f133 := rfl
theorem e134 : E.fn 134 = some f134 := rfl
theorem e135 : E.fn 135 = some f135 := rfl
theorem e136 : E.fn 136 = some f136 := rfl
theorem e137 : E.fn 137 = some f137 := rfl
theorem e138 : E.fn 138 = some f138 := rfl
theorem e139 : E.fn 139 = some f139 := rfl
theorem e140 : E.fn 140 = some f140 := rfl
theorem e141 : E.fn 141 = some f141 := rfl
theorem e142 : E.fn 142 = some f142 := rfl
theorem e143 : E.fn 143 = some f143 := rfl
theorem e144 : E.fn 144 = some f144 := rfl
theorem e145 : E.fn 145 = some f145 := rfl
theorem e146 : E.fn 146 = some f146 := rfl
theorem e147 : E.fn 147 = some f147 := rfl
theorem e148 : E.fn 148 = some f148 := rfl
theorem e149 : E.fn 149 = some f149 := rfl
theorem e150 : E.fn 150 = some f150 := rfl
theorem e151 : E.fn 151 = some f151 := rfl
theorem e152 : E.fn 152 = some f152 := rfl
theorem e153 : E.fn 153 = some f153 := rfl
theorem e154 : E.fn 154 = some f154 := rfl
theorem e155 : E.fn 155 = some f155 := rfl
theorem e156 : E.fn 156 = some f156 := rfl
theorem e157 : E.fn 157 = some f157 := rfl
theorem e158 : E.fn 158 = some f158 := rfl
theorem es (f : Nat) (a : List AV) (h : List AO) (l : Nat) : E.spec f a h l = none := rfl
end Go.Proofs.YtfagcnokdnanpaaGreat.T
