/-
The code of the seat's functions, as the abstract machine has it (printed by a tool of ours off the dump), and that each is what the compilation gives.
-/
import Derived.Test.YtfknojncfbahpaaGreatAmY
import Derived.Test.YtfknojncfbahpaaGreatRows
import Derived.Test.YtfknojncfbahpaaGreatTabA
import Derived.Test.YtfknojncfbahpaaGreatTabB
namespace Go.Proofs.YtfknojncfbahpaaGreat.T
open Go Go.Am
def mode (f h : Nat) : Nat :=
 let g:=if h < 2000000 then h else h - 2000000
 if g = 1000003 ∨ g = 1000002 then (if f ∈ [148] then 1 else 0) else
 if g = 1000001 then (if f ∈ [83,81,99,122,93] then 0 else 1) else
 if g = 1000000 then (if f ∈ [163] then 0 else 3)
 else if g ∈ [144,145,135,142,119,162,114,112,139,153,76] then 3
 else if g ∈ [154,80,121,164,163,156,157,158,165,177,70,109,93,147,159,166,148] then 0
 else if g ∈ [117,81,143] ∨ (g ∈ [83] ∧ f ∈ [132,45]) then 2
 else if g ∈ [99] ∧ f = g then 0
 else 1
def tab : Nat → Option AFn
 | 2 => some f2
 | 3 => some f3
 | 4 => some f4
 | 5 => some f5
 | 7 => some f7
 | 15 => some f15
 | 16 => some f16
 | 17 => some f17
 | 18 => some f18
 | 19 => some f19
 | 20 => some f20
 | 21 => some f21
 | 22 => some f22
 | 23 => some f23
 | 24 => some f24
 | 25 => some f25
 | 26 => some f26
 | 27 => some f27
 | 28 => some f28
 | 29 => some f29
 | 30 => some f30
 | 31 => some f31
 | 32 => some f32
 | 33 => some f33
 | 34 => some f34
 | 35 => some f35
 | 42 => some f42
 | 46 => some f46
 | 48 => some f48
 | 49 => some f49
 | 50 => some f50
 | 51 => some f51
 | 58 => some f58
 | 60 => some f60
 | 66 => some f66
 | 67 => some f67
 | 68 => some f68
 | 69 => some f69
 | 70 => some f70
 | 71 => some f71
 | 72 => some f72
 | 73 => some f73
 | 74 => some f74
 | 75 => some f75
 | 76 => some f76
 | 77 => some f77
 | 78 => some f78
 | 79 => some f79
 | 80 => some f80
 | 81 => some f81
 | 82 => some f82
 | 83 => some f83
 | 85 => some f85
 | 89 => some f89
 | 90 => some f90
 | 91 => some f91
 | 92 => some f92
 | 93 => some f93
 | 100 => some f100
 | 106 => some f106
 | 107 => some f107
 | 108 => some f108
 | 109 => some f109
 | 110 => some f110
 | 111 => some f111
 | 112 => some f112
 | 113 => some f113
 | 114 => some f114
 | 115 => some f115
 | 116 => some f116
 | 117 => some f117
 | 118 => some f118
 | 119 => some f119
 | 120 => some f120
 | 121 => some f121
 | 122 => some f122
 | 123 => some f123
 | 124 => some f124
 | 125 => some f125
 | 127 => some f127
 | 128 => some f128
 | 129 => some f129
 | 134 => some f134
 | 136 => some f136
 | 137 => some f137
 | 138 => some f138
 | 139 => some f139
 | 140 => some f140
 | 141 => some f141
 | 142 => some f142
 | 143 => some f143
 | 144 => some f144
 | 145 => some f145
 | 146 => some f146
 | 147 => some f147
 | 148 => some f148
 | 149 => some f149
 | 150 => some f150
 | 152 => some f152
 | 153 => some f153
 | 154 => some f154
 | 155 => some f155
 | 156 => some f156
 | 157 => some f157
 | 158 => some f158
 | 159 => some f159
 | 160 => some f160
 | 161 => some f161
 | 162 => some f162
 | 163 => some f163
 | 164 => some f164
 | 165 => some f165
 | 166 => some f166
 | 172 => some f172
 | 176 => some f176
 | 177 => some f177
 | 183 => some f183
 | _ => none
def E : Env:={ fn:=tab,spec:=fun _ _ _ _ => none }
theorem c2 : cFn Tryz.prog (mode 2) 2 = some f2:=by kernel_rfl
theorem c3 : cFn Tryz.prog (mode 3) 3 = some f3:=by kernel_rfl
theorem c4 : cFn Tryz.prog (mode 4) 4 = some f4:=by kernel_rfl
theorem c5 : cFn Tryz.prog (mode 5) 5 = some f5:=by kernel_rfl
theorem c7 : cFn Tryz.prog (mode 7) 7 = some f7:=by kernel_rfl
theorem c15 : cFn Tryz.prog (mode 15) 15 = some f15:=by kernel_rfl
theorem c16 : cFn Tryz.prog (mode 16) 16 = some f16:=by kernel_rfl
theorem c17 : cFn Tryz.prog (mode 17) 17 = some f17:=by kernel_rfl
theorem c18 : cFn Tryz.prog (mode 18) 18 = some f18:=by kernel_rfl
theorem c19 : cFn Tryz.prog (mode 19) 19 = some f19:=by kernel_rfl
theorem c20 : cFn Tryz.prog (mode 20) 20 = some f20:=by kernel_rfl
theorem c21 : cFn Tryz.prog (mode 21) 21 = some f21:=by kernel_rfl
theorem c22 : cFn Tryz.prog (mode 22) 22 = some f22:=by kernel_rfl
theorem c23 : cFn Tryz.prog (mode 23) 23 = some f23:=by kernel_rfl
theorem c24 : cFn Tryz.prog (mode 24) 24 = some f24:=by kernel_rfl
theorem c25 : cFn Tryz.prog (mode 25) 25 = some f25:=by kernel_rfl
theorem c26 : cFn Tryz.prog (mode 26) 26 = some f26:=by kernel_rfl
theorem c27 : cFn Tryz.prog (mode 27) 27 = some f27:=by kernel_rfl
theorem c28 : cFn Tryz.prog (mode 28) 28 = some f28:=by kernel_rfl
theorem c29 : cFn Tryz.prog (mode 29) 29 = some f29:=by kernel_rfl
theorem c30 : cFn Tryz.prog (mode 30) 30 = some f30:=by kernel_rfl
theorem c31 : cFn Tryz.prog (mode 31) 31 = some f31:=by kernel_rfl
theorem c32 : cFn Tryz.prog (mode 32) 32 = some f32:=by kernel_rfl
theorem c33 : cFn Tryz.prog (mode 33) 33 = some f33:=by kernel_rfl
theorem c34 : cFn Tryz.prog (mode 34) 34 = some f34:=by kernel_rfl
theorem c35 : cFn Tryz.prog (mode 35) 35 = some f35:=by kernel_rfl
theorem c42 : cFn Tryz.prog (mode 42) 42 = some f42:=by kernel_rfl
theorem c46 : cFn Tryz.prog (mode 46) 46 = some f46:=by kernel_rfl
theorem c48 : cFn Tryz.prog (mode 48) 48 = some f48:=by kernel_rfl
theorem c49 : cFn Tryz.prog (mode 49) 49 = some f49:=by kernel_rfl
theorem c50 : cFn Tryz.prog (mode 50) 50 = some f50:=by kernel_rfl
theorem c51 : cFn Tryz.prog (mode 51) 51 = some f51:=by kernel_rfl
theorem c58 : cFn Tryz.prog (mode 58) 58 = some f58:=by kernel_rfl
theorem c60 : cFn Tryz.prog (mode 60) 60 = some f60:=by kernel_rfl
theorem c66 : cFn Tryz.prog (mode 66) 66 = some f66:=by kernel_rfl
theorem c67 : cFn Tryz.prog (mode 67) 67 = some f67:=by kernel_rfl
theorem c68 : cFn Tryz.prog (mode 68) 68 = some f68:=by kernel_rfl
theorem c69 : cFn Tryz.prog (mode 69) 69 = some f69:=by kernel_rfl
theorem c70 : cFn Tryz.prog (mode 70) 70 = some f70:=by kernel_rfl
theorem c71 : cFn Tryz.prog (mode 71) 71 = some f71:=by kernel_rfl
theorem c72 : cFn Tryz.prog (mode 72) 72 = some f72:=by kernel_rfl
theorem c73 : cFn Tryz.prog (mode 73) 73 = some f73:=by kernel_rfl
theorem c74 : cFn Tryz.prog (mode 74) 74 = some f74:=by kernel_rfl
theorem c75 : cFn Tryz.prog (mode 75) 75 = some f75:=by kernel_rfl
theorem c76 : cFn Tryz.prog (mode 76) 76 = some f76:=by kernel_rfl
theorem c77 : cFn Tryz.prog (mode 77) 77 = some f77:=by kernel_rfl
theorem c78 : cFn Tryz.prog (mode 78) 78 = some f78:=by kernel_rfl
theorem c79 : cFn Tryz.prog (mode 79) 79 = some f79:=by kernel_rfl
theorem c80 : cFn Tryz.prog (mode 80) 80 = some f80:=by kernel_rfl
theorem c81 : cFn Tryz.prog (mode 81) 81 = some f81:=by kernel_rfl
theorem c82 : cFn Tryz.prog (mode 82) 82 = some f82:=by kernel_rfl
theorem c83 : cFn Tryz.prog (mode 83) 83 = some f83:=by kernel_rfl
theorem c85 : cFn Tryz.prog (mode 85) 85 = some f85:=by kernel_rfl
theorem c89 : cFn Tryz.prog (mode 89) 89 = some f89:=by kernel_rfl
theorem c90 : cFn Tryz.prog (mode 90) 90 = some f90:=by kernel_rfl
theorem c91 : cFn Tryz.prog (mode 91) 91 = some f91:=by kernel_rfl
theorem c92 : cFn Tryz.prog (mode 92) 92 = some f92:=by kernel_rfl
theorem c93 : cFn Tryz.prog (mode 93) 93 = some f93:=by kernel_rfl
theorem c100 : cFn Tryz.prog (mode 100) 100 = some f100:=by kernel_rfl
theorem c106 : cFn Tryz.prog (mode 106) 106 = some f106:=by kernel_rfl
theorem c107 : cFn Tryz.prog (mode 107) 107 = some f107:=by kernel_rfl
theorem c108 : cFn Tryz.prog (mode 108) 108 = some f108:=by kernel_rfl
theorem c109 : cFn Tryz.prog (mode 109) 109 = some f109:=by kernel_rfl
theorem c110 : cFn Tryz.prog (mode 110) 110 = some f110:=by kernel_rfl
theorem c111 : cFn Tryz.prog (mode 111) 111 = some f111:=by kernel_rfl
theorem c112 : cFn Tryz.prog (mode 112) 112 = some f112:=by kernel_rfl
theorem c113 : cFn Tryz.prog (mode 113) 113 = some f113:=by kernel_rfl
theorem c114 : cFn Tryz.prog (mode 114) 114 = some f114:=by kernel_rfl
theorem c115 : cFn Tryz.prog (mode 115) 115 = some f115:=by kernel_rfl
theorem c116 : cFn Tryz.prog (mode 116) 116 = some f116:=by kernel_rfl
theorem c117 : cFn Tryz.prog (mode 117) 117 = some f117:=by kernel_rfl
theorem c118 : cFn Tryz.prog (mode 118) 118 = some f118:=by kernel_rfl
theorem c119 : cFn Tryz.prog (mode 119) 119 = some f119:=by kernel_rfl
theorem c120 : cFn Tryz.prog (mode 120) 120 = some f120:=by kernel_rfl
theorem c121 : cFn Tryz.prog (mode 121) 121 = some f121:=by kernel_rfl
theorem c122 : cFn Tryz.prog (mode 122) 122 = some f122:=by kernel_rfl
theorem c123 : cFn Tryz.prog (mode 123) 123 = some f123:=by kernel_rfl
theorem c124 : cFn Tryz.prog (mode 124) 124 = some f124:=by kernel_rfl
theorem c125 : cFn Tryz.prog (mode 125) 125 = some f125:=by kernel_rfl
theorem c127 : cFn Tryz.prog (mode 127) 127 = some f127:=by kernel_rfl
theorem c128 : cFn Tryz.prog (mode 128) 128 = some f128:=by kernel_rfl
theorem c129 : cFn Tryz.prog (mode 129) 129 = some f129:=by kernel_rfl
theorem c134 : cFn Tryz.prog (mode 134) 134 = some f134:=by kernel_rfl
theorem c136 : cFn Tryz.prog (mode 136) 136 = some f136:=by kernel_rfl
theorem c137 : cFn Tryz.prog (mode 137) 137 = some f137:=by kernel_rfl
theorem c138 : cFn Tryz.prog (mode 138) 138 = some f138:=by kernel_rfl
theorem c139 : cFn Tryz.prog (mode 139) 139 = some f139:=by kernel_rfl
theorem c140 : cFn Tryz.prog (mode 140) 140 = some f140:=by kernel_rfl
theorem c141 : cFn Tryz.prog (mode 141) 141 = some f141:=by kernel_rfl
theorem c142 : cFn Tryz.prog (mode 142) 142 = some f142:=by kernel_rfl
theorem c143 : cFn Tryz.prog (mode 143) 143 = some f143:=by kernel_rfl
theorem c144 : cFn Tryz.prog (mode 144) 144 = some f144:=by kernel_rfl
theorem c145 : cFn Tryz.prog (mode 145) 145 = some f145:=by kernel_rfl
theorem c146 : cFn Tryz.prog (mode 146) 146 = some f146:=by kernel_rfl
theorem c147 : cFn Tryz.prog (mode 147) 147 = some f147:=by kernel_rfl
theorem c148 : cFn Tryz.prog (mode 148) 148 = some f148:=by kernel_rfl
theorem c149 : cFn Tryz.prog (mode 149) 149 = some f149:=by kernel_rfl
theorem c150 : cFn Tryz.prog (mode 150) 150 = some f150:=by kernel_rfl
theorem c152 : cFn Tryz.prog (mode 152) 152 = some f152:=by kernel_rfl
theorem c153 : cFn Tryz.prog (mode 153) 153 = some f153:=by kernel_rfl
theorem c154 : cFn Tryz.prog (mode 154) 154 = some f154:=by kernel_rfl
theorem c155 : cFn Tryz.prog (mode 155) 155 = some f155:=by kernel_rfl
theorem c156 : cFn Tryz.prog (mode 156) 156 = some f156:=by kernel_rfl
theorem c157 : cFn Tryz.prog (mode 157) 157 = some f157:=by kernel_rfl
theorem c158 : cFn Tryz.prog (mode 158) 158 = some f158:=by kernel_rfl
theorem c159 : cFn Tryz.prog (mode 159) 159 = some f159:=by kernel_rfl
theorem c160 : cFn Tryz.prog (mode 160) 160 = some f160:=by kernel_rfl
theorem c161 : cFn Tryz.prog (mode 161) 161 = some f161:=by kernel_rfl
theorem c162 : cFn Tryz.prog (mode 162) 162 = some f162:=by kernel_rfl
theorem c163 : cFn Tryz.prog (mode 163) 163 = some f163:=by kernel_rfl
theorem c164 : cFn Tryz.prog (mode 164) 164 = some f164:=by kernel_rfl
theorem c165 : cFn Tryz.prog (mode 165) 165 = some f165:=by kernel_rfl
theorem c166 : cFn Tryz.prog (mode 166) 166 = some f166:=by kernel_rfl
theorem c172 : cFn Tryz.prog (mode 172) 172 = some f172:=by kernel_rfl
theorem c176 : cFn Tryz.prog (mode 176) 176 = some f176:=by kernel_rfl
theorem c177 : cFn Tryz.prog (mode 177) 177 = some f177:=by kernel_rfl
theorem c183 : cFn Tryz.prog (mode 183) 183 = some f183:=by kernel_rfl
set_option maxRecDepth 100000 in
theorem tab_ok : ∀ f fn,tab f = some fn → cFn Tryz.prog (mode f) f = some fn:=by
 intro f fn h
 unfold tab at h
 split at h
 ·cases h; exact c2
 ·cases h; exact c3
 ·cases h; exact c4
 ·cases h; exact c5
 ·cases h; exact c7
 ·cases h; exact c15
 ·cases h; exact c16
 ·cases h; exact c17
 ·cases h; exact c18
 ·cases h; exact c19
 ·cases h; exact c20
 ·cases h; exact c21
 ·cases h; exact c22
 ·cases h; exact c23
 ·cases h; exact c24
 ·cases h; exact c25
 ·cases h; exact c26
 ·cases h; exact c27
 ·cases h; exact c28
 ·cases h; exact c29
 ·cases h; exact c30
 ·cases h; exact c31
 ·cases h; exact c32
 ·cases h; exact c33
 ·cases h; exact c34
 ·cases h; exact c35
 ·cases h; exact c42
 ·cases h; exact c46
 ·cases h; exact c48
 ·cases h; exact c49
 ·cases h; exact c50
 ·cases h; exact c51
 ·cases h; exact c58
 ·cases h; exact c60
 ·cases h; exact c66
 ·cases h; exact c67
 ·cases h; exact c68
 ·cases h; exact c69
 ·cases h; exact c70
 ·cases h; exact c71
 ·cases h; exact c72
 ·cases h; exact c73
 ·cases h; exact c74
 ·cases h; exact c75
 ·cases h; exact c76
 ·cases h; exact c77
 ·cases h; exact c78
 ·cases h; exact c79
 ·cases h; exact c80
 ·cases h; exact c81
 ·cases h; exact c82
 ·cases h; exact c83
 ·cases h; exact c85
 ·cases h; exact c89
 ·cases h; exact c90
 ·cases h; exact c91
 ·cases h; exact c92
 ·cases h; exact c93
 ·cases h; exact c100
 ·cases h; exact c106
 ·cases h; exact c107
 ·cases h; exact c108
 ·cases h; exact c109
 ·cases h; exact c110
 ·cases h; exact c111
 ·cases h; exact c112
 ·cases h; exact c113
 ·cases h; exact c114
 ·cases h; exact c115
 ·cases h; exact c116
 ·cases h; exact c117
 ·cases h; exact c118
 ·cases h; exact c119
 ·cases h; exact c120
 ·cases h; exact c121
 ·cases h; exact c122
 ·cases h; exact c123
 ·cases h; exact c124
 ·cases h; exact c125
 ·cases h; exact c127
 ·cases h; exact c128
 ·cases h; exact c129
 ·cases h; exact c134
 ·cases h; exact c136
 ·cases h; exact c137
 ·cases h; exact c138
 ·cases h; exact c139
 ·cases h; exact c140
 ·cases h; exact c141
 ·cases h; exact c142
 ·cases h; exact c143
 ·cases h; exact c144
 ·cases h; exact c145
 ·cases h; exact c146
 ·cases h; exact c147
 ·cases h; exact c148
 ·cases h; exact c149
 ·cases h; exact c150
 ·cases h; exact c152
 ·cases h; exact c153
 ·cases h; exact c154
 ·cases h; exact c155
 ·cases h; exact c156
 ·cases h; exact c157
 ·cases h; exact c158
 ·cases h; exact c159
 ·cases h; exact c160
 ·cases h; exact c161
 ·cases h; exact c162
 ·cases h; exact c163
 ·cases h; exact c164
 ·cases h; exact c165
 ·cases h; exact c166
 ·cases h; exact c172
 ·cases h; exact c176
 ·cases h; exact c177
 ·cases h; exact c183
 ·cases h
theorem ok : EnvOk Tryz.prog mode E where
 fn:=tab_ok
 spec:=by intro f args h lim r h' hx; cases hx
 frame:=by intro f args h lim r h' hx; cases hx
 no:=fun _ _ _ _ _ _ => rfl
 len:=by intro f args h lim r h' hx; cases hx
theorem e2 : E.fn 2 = some f2:=rfl
theorem e3 : E.fn 3 = some f3:=rfl
theorem e4 : E.fn 4 = some f4:=rfl
theorem e5 : E.fn 5 = some f5:=rfl
theorem e7 : E.fn 7 = some f7:=rfl
theorem e15 : E.fn 15 = some f15:=rfl
theorem e16 : E.fn 16 = some f16:=rfl
theorem e17 : E.fn 17 = some f17:=rfl
theorem e18 : E.fn 18 = some f18:=rfl
theorem e19 : E.fn 19 = some f19:=rfl
theorem e20 : E.fn 20 = some f20:=rfl
theorem e21 : E.fn 21 = some f21:=rfl
theorem e22 : E.fn 22 = some f22:=rfl
theorem e23 : E.fn 23 = some f23:=rfl
theorem e24 : E.fn 24 = some f24:=rfl
theorem e25 : E.fn 25 = some f25:=rfl
theorem e26 : E.fn 26 = some f26:=rfl
theorem e27 : E.fn 27 = some f27:=rfl
theorem e28 : E.fn 28 = some f28:=rfl
theorem e29 : E.fn 29 = some f29:=rfl
theorem e30 : E.fn 30 = some f30:=rfl
theorem e31 : E.fn 31 = some f31:=rfl
theorem e32 : E.fn 32 = some f32:=rfl
theorem e33 : E.fn 33 = some f33:=rfl
theorem e34 : E.fn 34 = some f34:=rfl
theorem e35 : E.fn 35 = some f35:=rfl
theorem e42 : E.fn 42 = some f42:=rfl
theorem e46 : E.fn 46 = some f46:=rfl
theorem e48 : E.fn 48 = some f48:=rfl
theorem e49 : E.fn 49 = some f49:=rfl
theorem e50 : E.fn 50 = some f50:=rfl
theorem e51 : E.fn 51 = some f51:=rfl
theorem e58 : E.fn 58 = some f58:=rfl
theorem e60 : E.fn 60 = some f60:=rfl
theorem e66 : E.fn 66 = some f66:=rfl
theorem e67 : E.fn 67 = some f67:=rfl
theorem e68 : E.fn 68 = some f68:=rfl
theorem e69 : E.fn 69 = some f69:=rfl
theorem e70 : E.fn 70 = some f70:=rfl
theorem e71 : E.fn 71 = some f71:=rfl
theorem e72 : E.fn 72 = some f72:=rfl
theorem e73 : E.fn 73 = some f73:=rfl
theorem e74 : E.fn 74 = some f74:=rfl
theorem e75 : E.fn 75 = some f75:=rfl
theorem e76 : E.fn 76 = some f76:=rfl
theorem e77 : E.fn 77 = some f77:=rfl
theorem e78 : E.fn 78 = some f78:=rfl
theorem e79 : E.fn 79 = some f79:=rfl
theorem e80 : E.fn 80 = some f80:=rfl
theorem e81 : E.fn 81 = some f81:=rfl
theorem e82 : E.fn 82 = some f82:=rfl
theorem e83 : E.fn 83 = some f83:=rfl
theorem e85 : E.fn 85 = some f85:=rfl
theorem e89 : E.fn 89 = some f89:=rfl
theorem e90 : E.fn 90 = some f90:=rfl
theorem e91 : E.fn 91 = some f91:=rfl
theorem e92 : E.fn 92 = some f92:=rfl
theorem e93 : E.fn 93 = some f93:=rfl
theorem e100 : E.fn 100 = some f100:=rfl
theorem e106 : E.fn 106 = some f106:=rfl
theorem e107 : E.fn 107 = some f107:=rfl
theorem e108 : E.fn 108 = some f108:=rfl
theorem e109 : E.fn 109 = some f109:=rfl
theorem e110 : E.fn 110 = some f110:=rfl
theorem e111 : E.fn 111 = some f111:=rfl
theorem e112 : E.fn 112 = some f112:=rfl
theorem e113 : E.fn 113 = some f113:=rfl
theorem e114 : E.fn 114 = some f114:=rfl
theorem e115 : E.fn 115 = some f115:=rfl
theorem e116 : E.fn 116 = some f116:=rfl
theorem e117 : E.fn 117 = some f117:=rfl
theorem e118 : E.fn 118 = some f118:=rfl
theorem e119 : E.fn 119 = some f119:=rfl
theorem e120 : E.fn 120 = some f120:=rfl
theorem e121 : E.fn 121 = some f121:=rfl
theorem e122 : E.fn 122 = some f122:=rfl
theorem e123 : E.fn 123 = some f123:=rfl
theorem e124 : E.fn 124 = some f124:=rfl
theorem e125 : E.fn 125 = some f125:=rfl
theorem e127 : E.fn 127 = some f127:=rfl
theorem e128 : E.fn 128 = some f128:=rfl
theorem e129 : E.fn 129 = some f129:=rfl
theorem e134 : E.fn 134 = some f134:=rfl
theorem e136 : E.fn 136 = some f136:=rfl
theorem e137 : E.fn 137 = some f137:=rfl
theorem e138 : E.fn 138 = some f138:=rfl
theorem e139 : E.fn 139 = some f139:=rfl
theorem e140 : E.fn 140 = some f140:=rfl
theorem e141 : E.fn 141 = some f141:=rfl
theorem e142 : E.fn 142 = some f142:=rfl
theorem e143 : E.fn 143 = some f143:=rfl
theorem e144 : E.fn 144 = some f144:=rfl
theorem e145 : E.fn 145 = some f145:=rfl
theorem e146 : E.fn 146 = some f146:=rfl
theorem e147 : E.fn 147 = some f147:=rfl
theorem e148 : E.fn 148 = some f148:=rfl
theorem e149 : E.fn 149 = some f149:=rfl
theorem e150 : E.fn 150 = some f150:=rfl
theorem e152 : E.fn 152 = some f152:=rfl
theorem e153 : E.fn 153 = some f153:=rfl
theorem e154 : E.fn 154 = some f154:=rfl
theorem e155 : E.fn 155 = some f155:=rfl
theorem e156 : E.fn 156 = some f156:=rfl
theorem e157 : E.fn 157 = some f157:=rfl
theorem e158 : E.fn 158 = some f158:=rfl
theorem e159 : E.fn 159 = some f159:=rfl
theorem e160 : E.fn 160 = some f160:=rfl
theorem e161 : E.fn 161 = some f161:=rfl
theorem e162 : E.fn 162 = some f162:=rfl
theorem e163 : E.fn 163 = some f163:=rfl
theorem e164 : E.fn 164 = some f164:=rfl
theorem e165 : E.fn 165 = some f165:=rfl
theorem e166 : E.fn 166 = some f166:=rfl
theorem e172 : E.fn 172 = some f172:=rfl
theorem e176 : E.fn 176 = some f176:=rfl
theorem e177 : E.fn 177 = some f177:=rfl
theorem e183 : E.fn 183 = some f183:=rfl
theorem es (f : Nat) (a : List AV) (h : List AO) (l : Nat) : E.spec f a h l = none:=rfl
end Go.Proofs.YtfknojncfbahpaaGreat.T
