/-
The code of functions of the seat, as the abstract machine has it (printed by a tool of ours off the dump).
-/
import Derived.Test.YteonklnjchefiaaAmX
namespace Go.Proofs.Yteonklnjchefiaa.T
open Go Go.Am
abbrev oP (n : Nat) (p : POp) : AOper := ⟨some n, .p p, none, none, []⟩
abbrev oQ (n : Nat) (p : AOp) : AOper := ⟨some n, p, none, none, []⟩
abbrev oG (n m : Nat) (b : Bool) (p : POp) : AOper := ⟨some n, .p p, some (m, b), none, []⟩
/-- gosem.cut.init -/
def f2 : AFn := ⟨1, [],
 .region 0 [oQ 0 (.call 1 1 [])]⟩
/-- almadraba/almadrabalaw07.CutsEach -/
def f3 : AFn := ⟨197, [.tmp 6],
 .seq (.region 0 [oQ 5 (.box (.t 2)),
 oP 6 (.move (.c (.bool false)))])
 (.seq (.seq (.region 0 [oP 23 (.move (.t 0)),
 oQ 24 (.call 1 16 [(.t 23)]),
 oP 25 (.un .not (.t 24)),
 oP 26 (.move (.t 25)),
 oG 27 26 false (.move (.t 1)),
 oG 28 26 false (.lenS (.t 27)),
 oG 29 26 false (.bin .gtr (.t 28) (.c (.int .i64 40))),
 oP 30 (.pick (.t 26) (.c (.bool true)) (.t 29)),
 oP 31 (.move (.t 30)),
 oG 32 31 false (.move (.t 0)),
 oG 33 31 false (.move (.t 1)),
 ⟨(some 34), .call 1 17 [(.t 32), (.t 33)], (some (31, false)), none, []⟩,
 oG 35 31 false (.un .not (.t 34)),
 oP 36 (.pick (.t 31) (.c (.bool true)) (.t 35))])
 (.cond (.t 36) (.seq (.region 0 [oQ 37 (.call 1 18 []),
 oP 6 (.move (.t 37))])
 (.ret))
 (.skip)))
 (.seq (.region 0 [oP 39 (.move (.t 0)),
 oQ 40 (.call 1 19 [(.t 39)]),
 oP 38 (.move (.t 40)),
 oP 41 (.extract (.t 38) 0),
 oP 42 (.extract (.t 38) 1),
 oP 7 (.move (.t 41)),
 oP 8 (.move (.t 42))])
 (.seq (.region 0 [oP 44 (.move (.t 0)),
 oQ 45 (.call 1 20 [(.t 44)]),
 oP 43 (.move (.t 45)),
 oP 46 (.extract (.t 43) 0),
 oP 47 (.extract (.t 43) 1),
 oQ 9 (.alloc [.int .i64 0, .int .i64 0]),
 ⟨none, .store 2 (.t 9) (.t 46), none, none, []⟩,
 oP 10 (.move (.t 47))])
 (.seq (.region 0 [oP 49 (.move (.t 0)),
 oQ 50 (.buildSlice 1 0 [.int .i64 0] []),
 oP 51 (.move (.t 1)),
 oQ 52 (.append false 1 8 (.t 50) (.t 51)),
 oQ 53 (.call 1 21 [(.t 49), (.t 52)]),
 oP 48 (.move (.t 53)),
 oP 54 (.extract (.t 48) 0),
 oP 55 (.extract (.t 48) 1),
 oP 11 (.move (.t 54)),
 oP 12 (.move (.t 55))])
 (.seq (.seq (.region 0 [oP 56 (.move (.t 8)),
 oP 57 (.un .not (.t 56)),
 oP 58 (.move (.t 57)),
 oG 59 58 false (.move (.t 10)),
 oG 60 58 false (.bin .neq (.t 59) (.c (.int .i64 0))),
 oP 61 (.pick (.t 58) (.c (.bool true)) (.t 60)),
 oP 62 (.move (.t 61)),
 oG 63 62 false (.move (.t 12)),
 oG 64 62 false (.bin .neq (.t 63) (.c (.int .i64 0))),
 oP 65 (.pick (.t 62) (.c (.bool true)) (.t 64)),
 oP 66 (.move (.t 65)),
 oG 67 66 false (.move (.t 11)),
 oG 68 66 false (.un .not (.t 67)),
 oP 69 (.pick (.t 66) (.c (.bool true)) (.t 68))])
 (.cond (.t 69) (.seq (.region 0 [oP 6 (.move (.c (.bool false)))])
 (.ret))
 (.skip)))
 (.seq (.region 0 [oP 13 (.move (.c (.int .i64 0)))])
 (.seq (.seq (.region 0 [oP 14 (.move (.c (.int .i64 0)))])
 (.block 0 (.loop (.seq (.seq (.region 0 [oP 70 (.move (.t 14)),
 oP 71 (.move (.t 0)),
 oP 72 (.lenS (.t 71)),
 oP 73 (.bin .lss (.t 70) (.t 72))])
 (.cond (.t 73) (.skip)
 (.exit 0)))
 (.seq (.block 1 (.seq (.seq (.region 0 [oP 76 (.move (.t 7)),
 oP 77 (.move (.t 14)),
 oP 78 (.idxSl 2 (.t 76) (.t 77)),
 oQ 79 (.load true 2 (.t 78)),
 oP 80 (.move (.t 1)),
 oP 81 (.move (.t 14)),
 oP 82 (.idxSl 1 (.t 80) (.t 81)),
 oQ 83 (.load false 1 (.t 82)),
 oQ 84 (.call 1 22 [(.t 79), (.t 83)]),
 oP 85 (.un .not (.t 84))])
 (.cond (.t 85) (.seq (.region 0 [oP 6 (.move (.c (.bool false)))])
 (.ret))
 (.skip)))
 (.seq (.seq (.region 0 [oP 86 (.move (.t 0)),
 oP 87 (.move (.t 14)),
 oP 88 (.idxSl 6 (.t 86) (.t 87)),
 oP 89 (.fieldAddr 0 (.t 88)),
 oQ 90 (.load false 1 (.t 89)),
 oP 91 (.bin .eql (.t 90) (.c (.int .i64 (-1))))])
 (.cond (.t 91) (.region 0 [oP 92 (.move (.t 13)),
 oP 93 (.move (.t 1)),
 oP 94 (.move (.t 14)),
 oP 95 (.idxSl 1 (.t 93) (.t 94)),
 oQ 96 (.load false 1 (.t 95)),
 oP 97 (.bin .add (.t 92) (.t 96)),
 oP 13 (.move (.t 97))])
 (.skip)))
 (.seq (.region 0 [oP 99 (.move (.t 0)),
 oP 100 (.move (.t 14)),
 oQ 101 (.call 1 23 [(.t 99), (.t 100)]),
 oP 98 (.move (.t 101)),
 oP 102 (.extract (.t 98) 0),
 oP 103 (.extract (.t 98) 1),
 oQ 15 (.alloc [.int .i64 0, .int .i64 0]),
 ⟨none, .store 2 (.t 15) (.t 102), none, none, []⟩,
 oP 16 (.move (.t 103))])
 (.seq (.region 0 [oP 104 (.move (.t 0)),
 oP 105 (.move (.t 14)),
 oQ 106 (.call 1 24 [(.t 104), (.t 105)])])
 (.cond (.t 106) (.seq (.region 0 [oP 107 (.move (.t 16)),
 oP 108 (.bin .neq (.t 107) (.c (.int .i64 0))),
 oP 109 (.move (.t 108)),
 ⟨(some 110), .load true 2 (.t 15), (some (109, false)), none, []⟩,
 oG 111 109 false (.move (.t 0)),
 oG 112 109 false (.move (.t 1)),
 oG 113 109 false (.move (.t 14)),
 ⟨(some 114), .call 1 25 [(.t 111), (.t 112), (.t 113)], (some (109, false)), none, []⟩,
 ⟨(some 115), .call 1 22 [(.t 110), (.t 114)], (some (109, false)), none, []⟩,
 oG 116 109 false (.un .not (.t 115)),
 oP 117 (.pick (.t 109) (.c (.bool true)) (.t 116))])
 (.cond (.t 117) (.seq (.region 0 [oP 6 (.move (.c (.bool false)))])
 (.ret))
 (.skip)))
 (.seq (.region 0 [oP 118 (.move (.t 16)),
 oP 119 (.bin .neq (.t 118) (.c (.int .i64 1)))])
 (.cond (.t 119) (.seq (.region 0 [oP 6 (.move (.c (.bool false)))])
 (.ret))
 (.skip)))))))))
 (.region 0 [oP 74 (.move (.t 14)),
 oP 75 (.bin .add (.t 74) (.c (.int .i64 1))),
 oP 14 (.move (.t 75))]))))))
 (.seq (.seq (.region 0 [oQ 120 (.load true 2 (.t 9)),
 oP 121 (.move (.t 13)),
 oQ 122 (.call 1 22 [(.t 120), (.t 121)]),
 oP 123 (.un .not (.t 122))])
 (.cond (.t 123) (.seq (.region 0 [oP 6 (.move (.c (.bool false)))])
 (.ret))
 (.skip)))
 (.seq (.seq (.region 0 [oP 124 (.move (.t 0)),
 oQ 125 (.load true 2 (.t 5)),
 oQ 126 (.call 1 26 [(.t 124), (.t 125)]),
 oP 127 (.un .not (.t 126))])
 (.cond (.t 127) (.seq (.region 0 [oQ 128 (.call 1 18 []),
 oP 6 (.move (.t 128))])
 (.ret))
 (.skip)))
 (.seq (.region 0 [oP 130 (.move (.t 0)),
 oQ 131 (.buildSlice 1 0 [.int .i64 0] []),
 oP 132 (.fieldAddr 0 (.t 5)),
 oQ 133 (.load false 1 (.t 132)),
 oQ 134 (.append false 1 8 (.t 131) (.t 133)),
 oQ 135 (.call 1 27 [(.t 130), (.t 134)]),
 oP 129 (.move (.t 135)),
 oP 136 (.extract (.t 129) 0),
 oP 137 (.extract (.t 129) 1),
 oQ 17 (.alloc [.int .i64 0, .int .i64 0]),
 ⟨none, .store 2 (.t 17) (.t 136), none, none, []⟩,
 oP 18 (.move (.t 137))])
 (.seq (.region 4 [oP 139 (.move (.t 0)),
 ⟨(some 140), .buildSlice 1 0 [.int .i64 0] [], none, (some 0), []⟩,
 oP 141 (.fieldAddr 0 (.t 5)),
 ⟨(some 142), .load false 1 (.t 141), none, none, [0, 1, 2, 3]⟩,
 ⟨(some 143), .append true 1 8 (.t 140) (.t 142), none, (some 1), [2, 3]⟩,
 ⟨(some 144), .buildSlice 1 0 [.int .i64 0] [], none, (some 2), []⟩,
 oP 145 (.fieldAddr 1 (.t 5)),
 ⟨(some 146), .load false 1 (.t 145), none, none, [0, 1, 2, 3]⟩,
 ⟨(some 147), .append true 1 8 (.t 144) (.t 146), none, (some 3), []⟩,
 oQ 148 (.call 1 28 [(.t 139), (.t 143), (.t 147)]),
 oP 138 (.move (.t 148)),
 oP 149 (.extract (.t 138) 0),
 oP 150 (.extract (.t 138) 1),
 oP 19 (.move (.t 149)),
 oP 20 (.move (.t 150))])
 (.seq (.region 0 [oP 151 (.move (.t 0)),
 oP 152 (.fieldAddr 0 (.t 5)),
 oQ 153 (.load false 1 (.t 152)),
 oP 154 (.move (.t 1)),
 oQ 155 (.call 1 29 [(.t 151), (.t 153), (.t 154)]),
 oP 156 (.move (.t 0)),
 oP 157 (.fieldAddr 1 (.t 5)),
 oQ 158 (.load false 1 (.t 157)),
 oP 159 (.move (.t 1)),
 oQ 160 (.call 1 29 [(.t 156), (.t 158), (.t 159)]),
 oP 21 (.move (.t 155)),
 oP 22 (.move (.t 160))])
 (.seq (.region 0 [oP 161 (.move (.t 18)),
 oP 162 (.bin .eql (.t 161) (.c (.int .i64 0))),
 oP 163 (.move (.t 162)),
 oG 164 163 true (.move (.t 20)),
 oG 165 163 true (.bin .eql (.t 164) (.c (.int .i64 0))),
 oP 166 (.pick (.t 163) (.t 165) (.c (.bool false))),
 oP 167 (.move (.t 166)),
 ⟨(some 168), .load true 2 (.t 17), (some (167, true)), none, []⟩,
 oG 169 167 true (.move (.t 21)),
 ⟨(some 170), .call 1 22 [(.t 168), (.t 169)], (some (167, true)), none, []⟩,
 oP 171 (.pick (.t 167) (.t 170) (.c (.bool false))),
 oP 172 (.move (.t 171)),
 oG 173 172 true (.move (.t 19)),
 ⟨(some 174), .call 1 30 [(.t 173), (.c (.int .i64 1)), (.c (.int .i64 3))], (some (172, true)), none, []⟩,
 oP 175 (.pick (.t 172) (.t 174) (.c (.bool false))),
 oP 176 (.move (.t 175)),
 oG 177 176 true (.move (.t 19)),
 oG 178 176 true (.bin .neq (.t 177) (.c (.int .i64 1))),
 oG 179 176 true (.move (.t 178)),
 oG 180 179 false (.move (.t 21)),
 oG 181 179 false (.move (.t 22)),
 oG 182 179 false (.bin .gtr (.t 180) (.t 181)),
 oG 183 176 true (.pick (.t 179) (.c (.bool true)) (.t 182)),
 oP 184 (.pick (.t 176) (.t 183) (.c (.bool false))),
 oP 185 (.move (.t 184)),
 oG 186 185 true (.move (.t 19)),
 oG 187 185 true (.bin .neq (.t 186) (.c (.int .i64 2))),
 oG 188 185 true (.move (.t 187)),
 oG 189 188 false (.move (.t 21)),
 oG 190 188 false (.move (.t 22)),
 oG 191 188 false (.bin .leq (.t 189) (.t 190)),
 oG 192 185 true (.pick (.t 188) (.c (.bool true)) (.t 191)),
 oP 193 (.pick (.t 185) (.t 192) (.c (.bool false))),
 oP 194 (.move (.t 193)),
 ⟨(some 195), .call 1 18 [], (some (194, true)), none, []⟩,
 oP 196 (.pick (.t 194) (.t 195) (.c (.bool false))),
 oP 6 (.move (.t 196))])
 (.ret))))))))))))))⟩
/-- almadraba/almadrabalaw07.CutsHolds -/
def f12 : AFn := ⟨140, [.tmp 6],
 .seq (.region 0 [oP 6 (.move (.c (.bool false)))])
 (.seq (.seq (.region 0 [oP 23 (.move (.t 0)),
 oP 24 (.lenS (.t 23)),
 oP 25 (.bin .gtr (.t 24) (.c (.int .i64 40))),
 oP 26 (.move (.t 25)),
 oG 27 26 false (.move (.t 1)),
 oG 28 26 false (.lenS (.t 27)),
 oG 29 26 false (.bin .gtr (.t 28) (.c (.int .i64 40))),
 oP 30 (.pick (.t 26) (.c (.bool true)) (.t 29))])
 (.cond (.t 30) (.seq (.region 0 [oQ 31 (.call 1 18 []),
 oP 6 (.move (.t 31))])
 (.ret))
 (.skip)))
 (.seq (.region 0 [oP 32 (.move (.t 0)),
 oQ 33 (.call 1 42 [(.t 32)]),
 oQ 34 (.buildSlice 1 0 [.int .i64 0] []),
 oP 35 (.move (.t 1)),
 oQ 36 (.append false 1 8 (.t 34) (.t 35)),
 oP 7 (.move (.t 33)),
 oP 8 (.move (.t 36))])
 (.seq (.region 0 [oP 38 (.move (.t 7)),
 oP 39 (.move (.t 8)),
 oQ 40 (.call 1 21 [(.t 38), (.t 39)]),
 oP 37 (.move (.t 40)),
 oP 41 (.extract (.t 37) 0),
 oP 42 (.extract (.t 37) 1),
 oP 9 (.move (.t 41)),
 oP 10 (.move (.t 42))])
 (.seq (.region 0 [oP 44 (.move (.t 0)),
 oP 45 (.move (.t 1)),
 oQ 46 (.call 1 51 [(.t 44), (.t 45)]),
 oP 43 (.move (.t 46)),
 oP 47 (.extract (.t 43) 0),
 oP 48 (.extract (.t 43) 1),
 oP 11 (.move (.t 47)),
 oP 12 (.move (.t 48))])
 (.seq (.seq (.region 0 [oP 49 (.move (.t 7)),
 oQ 50 (.call 1 52 [(.t 49)]),
 oP 51 (.move (.t 0)),
 oQ 52 (.call 1 53 [(.t 51)]),
 oP 53 (.bin .neq (.t 50) (.t 52)),
 oP 54 (.move (.t 53)),
 oG 55 54 false (.move (.t 9)),
 oG 56 54 false (.move (.t 11)),
 oG 57 54 false (.eqB true (.t 55) (.t 56)),
 oP 58 (.pick (.t 54) (.c (.bool true)) (.t 57)),
 oP 59 (.move (.t 58)),
 oG 60 59 false (.move (.t 10)),
 oG 61 59 false (.move (.t 12)),
 oG 62 59 false (.bin .neq (.t 60) (.t 61)),
 oP 63 (.pick (.t 59) (.c (.bool true)) (.t 62)),
 oP 64 (.move (.t 63)),
 oG 65 64 false (.move (.t 8)),
 oG 66 64 false (.move (.t 1)),
 ⟨(some 67), .call 1 50 [(.t 65), (.t 66)], (some (64, false)), none, []⟩,
 oG 68 64 false (.un .not (.t 67)),
 oP 69 (.pick (.t 64) (.c (.bool true)) (.t 68))])
 (.cond (.t 69) (.seq (.region 0 [oP 6 (.move (.c (.bool false)))])
 (.ret))
 (.skip)))
 (.seq (.region 0 [oP 71 (.move (.t 7)),
 oP 72 (.move (.t 2)),
 oQ 73 (.call 1 32 [(.t 71), (.t 72)]),
 oP 70 (.move (.t 73)),
 oP 74 (.extract (.t 70) 0),
 oP 75 (.extract (.t 70) 1),
 oQ 13 (.alloc [.int .i64 0, .int .i64 0]),
 ⟨none, .store 2 (.t 13) (.t 74), none, none, []⟩,
 oP 10 (.move (.t 75))])
 (.seq (.region 0 [oP 77 (.move (.t 0)),
 oP 78 (.move (.t 2)),
 oQ 79 (.call 1 54 [(.t 77), (.t 78)]),
 oP 76 (.move (.t 79)),
 oP 80 (.extract (.t 76) 0),
 oP 81 (.extract (.t 76) 1),
 oQ 14 (.alloc [.int .i64 0, .int .i64 0]),
 ⟨none, .store 2 (.t 14) (.t 80), none, none, []⟩,
 oP 12 (.move (.t 81))])
 (.seq (.region 0 [oP 83 (.move (.t 7)),
 oP 84 (.move (.t 2)),
 oQ 85 (.call 1 23 [(.t 83), (.t 84)]),
 oP 82 (.move (.t 85)),
 oP 86 (.extract (.t 82) 0),
 oP 87 (.extract (.t 82) 1),
 oQ 15 (.alloc [.int .i64 0, .int .i64 0]),
 ⟨none, .store 2 (.t 15) (.t 86), none, none, []⟩,
 oP 16 (.move (.t 87))])
 (.seq (.region 0 [oP 89 (.move (.t 0)),
 oP 90 (.move (.t 2)),
 oQ 91 (.call 1 55 [(.t 89), (.t 90)]),
 oP 88 (.move (.t 91)),
 oP 92 (.extract (.t 88) 0),
 oP 93 (.extract (.t 88) 1),
 oQ 17 (.alloc [.int .i64 0, .int .i64 0]),
 ⟨none, .store 2 (.t 17) (.t 92), none, none, []⟩,
 oP 18 (.move (.t 93))])
 (.seq (.region 0 [oP 95 (.move (.t 7)),
 oQ 96 (.call 1 20 [(.t 95)]),
 oP 94 (.move (.t 96)),
 oP 97 (.extract (.t 94) 0),
 oP 98 (.extract (.t 94) 1),
 oQ 19 (.alloc [.int .i64 0, .int .i64 0]),
 ⟨none, .store 2 (.t 19) (.t 97), none, none, []⟩,
 oP 20 (.move (.t 98))])
 (.seq (.region 0 [oP 100 (.move (.t 0)),
 oQ 101 (.call 1 56 [(.t 100)]),
 oP 99 (.move (.t 101)),
 oP 102 (.extract (.t 99) 0),
 oP 103 (.extract (.t 99) 1),
 oQ 21 (.alloc [.int .i64 0, .int .i64 0]),
 ⟨none, .store 2 (.t 21) (.t 102), none, none, []⟩,
 oP 22 (.move (.t 103))])
 (.seq (.region 0 [oQ 104 (.load true 2 (.t 13)),
 oQ 105 (.load true 2 (.t 14)),
 oP 106 (.eqS false [true, true] (.t 104) (.t 105)),
 oP 107 (.move (.t 106)),
 oG 108 107 true (.move (.t 10)),
 oG 109 107 true (.move (.t 12)),
 oG 110 107 true (.bin .eql (.t 108) (.t 109)),
 oP 111 (.pick (.t 107) (.t 110) (.c (.bool false))),
 oP 112 (.move (.t 111)),
 ⟨(some 113), .load true 2 (.t 15), (some (112, true)), none, []⟩,
 ⟨(some 114), .load true 2 (.t 17), (some (112, true)), none, []⟩,
 oG 115 112 true (.eqS false [true, true] (.t 113) (.t 114)),
 oP 116 (.pick (.t 112) (.t 115) (.c (.bool false))),
 oP 117 (.move (.t 116)),
 oG 118 117 true (.move (.t 16)),
 oG 119 117 true (.move (.t 18)),
 oG 120 117 true (.bin .eql (.t 118) (.t 119)),
 oP 121 (.pick (.t 117) (.t 120) (.c (.bool false))),
 oP 122 (.move (.t 121)),
 ⟨(some 123), .load true 2 (.t 19), (some (122, true)), none, []⟩,
 ⟨(some 124), .load true 2 (.t 21), (some (122, true)), none, []⟩,
 oG 125 122 true (.eqS false [true, true] (.t 123) (.t 124)),
 oP 126 (.pick (.t 122) (.t 125) (.c (.bool false))),
 oP 127 (.move (.t 126)),
 oG 128 127 true (.move (.t 20)),
 oG 129 127 true (.move (.t 22)),
 oG 130 127 true (.bin .eql (.t 128) (.t 129)),
 oP 131 (.pick (.t 127) (.t 130) (.c (.bool false))),
 oP 132 (.move (.t 131)),
 oG 133 132 true (.move (.t 7)),
 oG 134 132 true (.move (.t 0)),
 ⟨(some 135), .call 1 57 [(.t 133), (.t 134)], (some (132, true)), none, []⟩,
 oP 136 (.pick (.t 132) (.t 135) (.c (.bool false))),
 oP 137 (.move (.t 136)),
 ⟨(some 138), .call 1 18 [], (some (137, true)), none, []⟩,
 oP 139 (.pick (.t 137) (.t 138) (.c (.bool false))),
 oP 6 (.move (.t 139))])
 (.ret)))))))))))))⟩
/-- almadraba/almadrabalaw07.CutsPrice -/
def f14 : AFn := ⟨102, [.tmp 6],
 .seq (.region 0 [oP 6 (.move (.c (.bool false)))])
 (.seq (.seq (.region 0 [oP 18 (.move (.t 0)),
 oP 19 (.lenS (.t 18)),
 oP 20 (.bin .gtr (.t 19) (.c (.int .i64 40))),
 oP 21 (.move (.t 20)),
 oG 22 21 false (.move (.t 1)),
 oG 23 21 false (.lenS (.t 22)),
 oG 24 21 false (.bin .gtr (.t 23) (.c (.int .i64 40))),
 oP 25 (.pick (.t 21) (.c (.bool true)) (.t 24)),
 oP 26 (.move (.t 25)),
 oG 27 26 false (.move (.t 2)),
 oG 28 26 false (.lenS (.t 27)),
 oG 29 26 false (.bin .gtr (.t 28) (.c (.int .i64 40))),
 oP 30 (.pick (.t 26) (.c (.bool true)) (.t 29))])
 (.cond (.t 30) (.seq (.region 0 [oQ 31 (.call 1 18 []),
 oP 6 (.move (.t 31))])
 (.ret))
 (.skip)))
 (.seq (.region 0 [oP 32 (.move (.t 0)),
 oQ 33 (.call 1 42 [(.t 32)]),
 oQ 34 (.buildSlice 1 0 [.int .i64 0] []),
 oP 35 (.move (.t 1)),
 oQ 36 (.append false 1 8 (.t 34) (.t 35)),
 oQ 37 (.buildSlice 1 0 [.int .i64 0] []),
 oP 38 (.move (.t 2)),
 oQ 39 (.append false 1 8 (.t 37) (.t 38)),
 oP 7 (.move (.t 33)),
 oP 8 (.move (.t 36)),
 oP 9 (.move (.t 39))])
 (.seq (.region 0 [oP 41 (.move (.t 7)),
 oP 42 (.move (.t 8)),
 oQ 43 (.call 1 27 [(.t 41), (.t 42)]),
 oP 40 (.move (.t 43)),
 oP 44 (.extract (.t 40) 0),
 oP 45 (.extract (.t 40) 1),
 oQ 10 (.alloc [.int .i64 0, .int .i64 0]),
 ⟨none, .store 2 (.t 10) (.t 44), none, none, []⟩,
 oP 11 (.move (.t 45))])
 (.seq (.region 0 [oP 47 (.move (.t 0)),
 oP 48 (.move (.t 1)),
 oQ 49 (.call 1 61 [(.t 47), (.t 48)]),
 oP 46 (.move (.t 49)),
 oP 50 (.extract (.t 46) 0),
 oP 51 (.extract (.t 46) 1),
 oQ 12 (.alloc [.int .i64 0, .int .i64 0]),
 ⟨none, .store 2 (.t 12) (.t 50), none, none, []⟩,
 oP 13 (.move (.t 51))])
 (.seq (.region 0 [oP 53 (.move (.t 7)),
 oP 54 (.move (.t 8)),
 oP 55 (.move (.t 9)),
 oQ 56 (.call 1 28 [(.t 53), (.t 54), (.t 55)]),
 oP 52 (.move (.t 56)),
 oP 57 (.extract (.t 52) 0),
 oP 58 (.extract (.t 52) 1),
 oP 14 (.move (.t 57)),
 oP 15 (.move (.t 58))])
 (.seq (.region 0 [oP 60 (.move (.t 0)),
 oP 61 (.move (.t 1)),
 oP 62 (.move (.t 2)),
 oQ 63 (.call 1 62 [(.t 60), (.t 61), (.t 62)]),
 oP 59 (.move (.t 63)),
 oP 64 (.extract (.t 59) 0),
 oP 65 (.extract (.t 59) 1),
 oP 16 (.move (.t 64)),
 oP 17 (.move (.t 65))])
 (.seq (.region 0 [oQ 66 (.load true 2 (.t 10)),
 oQ 67 (.load true 2 (.t 12)),
 oP 68 (.eqS false [true, true] (.t 66) (.t 67)),
 oP 69 (.move (.t 68)),
 oG 70 69 true (.move (.t 11)),
 oG 71 69 true (.move (.t 13)),
 oG 72 69 true (.bin .eql (.t 70) (.t 71)),
 oP 73 (.pick (.t 69) (.t 72) (.c (.bool false))),
 oP 74 (.move (.t 73)),
 oG 75 74 true (.move (.t 14)),
 oG 76 74 true (.move (.t 16)),
 oG 77 74 true (.bin .eql (.t 75) (.t 76)),
 oP 78 (.pick (.t 74) (.t 77) (.c (.bool false))),
 oP 79 (.move (.t 78)),
 oG 80 79 true (.move (.t 15)),
 oG 81 79 true (.move (.t 17)),
 oG 82 79 true (.bin .eql (.t 80) (.t 81)),
 oP 83 (.pick (.t 79) (.t 82) (.c (.bool false))),
 oP 84 (.move (.t 83)),
 oG 85 84 true (.move (.t 7)),
 oG 86 84 true (.move (.t 0)),
 ⟨(some 87), .call 1 57 [(.t 85), (.t 86)], (some (84, true)), none, []⟩,
 oP 88 (.pick (.t 84) (.t 87) (.c (.bool false))),
 oP 89 (.move (.t 88)),
 oG 90 89 true (.move (.t 8)),
 oG 91 89 true (.move (.t 1)),
 ⟨(some 92), .call 1 50 [(.t 90), (.t 91)], (some (89, true)), none, []⟩,
 oP 93 (.pick (.t 89) (.t 92) (.c (.bool false))),
 oP 94 (.move (.t 93)),
 oG 95 94 true (.move (.t 9)),
 oG 96 94 true (.move (.t 2)),
 ⟨(some 97), .call 1 50 [(.t 95), (.t 96)], (some (94, true)), none, []⟩,
 oP 98 (.pick (.t 94) (.t 97) (.c (.bool false))),
 oP 99 (.move (.t 98)),
 ⟨(some 100), .call 1 18 [], (some (99, true)), none, []⟩,
 oP 101 (.pick (.t 99) (.t 100) (.c (.bool false))),
 oP 6 (.move (.t 101))])
 (.ret))))))))⟩
/-- almadraba/almadrabaref07.IsTruth -/
def f17 : AFn := ⟨14, [.tmp 4],
 .seq (.region 0 [oP 4 (.move (.c (.bool false)))])
 (.seq (.region 0 [oP 5 (.move (.t 0)),
 oP 6 (.move (.t 1)),
 oQ 7 (.call 1 40 [(.t 5), (.t 6)]),
 oP 8 (.move (.t 7)),
 oG 9 8 true (.move (.t 0)),
 oG 10 8 true (.move (.t 1)),
 ⟨(some 11), .call 1 41 [(.t 9), (.t 10)], (some (8, true)), none, []⟩,
 oG 12 8 true (.bin .eql (.t 11) (.c (.int .i64 0))),
 oP 13 (.pick (.t 8) (.t 12) (.c (.bool false))),
 oP 4 (.move (.t 13))])
 (.ret))⟩
/-- almadraba/almadrabalaw07.works -/
def f18 : AFn := ⟨101, [.tmp 0],
 .seq (.region 0 [oP 0 (.move (.c (.bool false)))])
 (.seq (.region 0 [oQ 16 (.call 1 65 []),
 oP 15 (.move (.t 16)),
 oP 17 (.extract (.t 15) 0),
 oP 18 (.extract (.t 15) 1),
 oP 1 (.move (.t 17)),
 oP 2 (.move (.t 18))])
 (.seq (.region 0 [oP 20 (.move (.t 1)),
 oQ 21 (.call 1 32 [(.t 20), (.c (.int .i64 4))]),
 oP 19 (.move (.t 21)),
 oP 22 (.extract (.t 19) 0),
 oP 23 (.extract (.t 19) 1),
 oQ 3 (.alloc [.int .i64 0, .int .i64 0]),
 ⟨none, .store 2 (.t 3) (.t 22), none, none, []⟩,
 oP 4 (.move (.t 23))])
 (.seq (.region 0 [oP 25 (.move (.t 1)),
 oQ 26 (.litS 1 2 [.int .i64 0] [(0, (.c (.int .i64 0))), (1, (.c (.int .i64 1)))]),
 oQ 27 (.call 1 27 [(.t 25), (.t 26)]),
 oP 24 (.move (.t 27)),
 oP 28 (.extract (.t 24) 0),
 oP 29 (.extract (.t 24) 1),
 oQ 5 (.alloc [.int .i64 0, .int .i64 0]),
 ⟨none, .store 2 (.t 5) (.t 28), none, none, []⟩,
 oP 6 (.move (.t 29))])
 (.seq (.region 0 [oP 31 (.move (.t 1)),
 oQ 32 (.call 1 46 [(.t 31)]),
 oP 30 (.move (.t 32)),
 oP 33 (.extract (.t 30) 0),
 oP 34 (.extract (.t 30) 1),
 oP 7 (.move (.t 33)),
 oP 8 (.move (.t 34))])
 (.seq (.region 0 [oP 36 (.move (.t 2)),
 oQ 37 (.call 1 43 [(.t 36)]),
 oP 35 (.move (.t 37)),
 oP 38 (.extract (.t 35) 0),
 oP 39 (.extract (.t 35) 1),
 oP 9 (.move (.t 38)),
 oP 10 (.move (.t 39))])
 (.seq (.region 0 [oP 41 (.move (.t 2)),
 oQ 42 (.call 1 39 [(.t 41)]),
 oP 40 (.move (.t 42)),
 oP 43 (.extract (.t 40) 0),
 oP 44 (.extract (.t 40) 1),
 oP 11 (.move (.t 43)),
 oP 12 (.move (.t 44))])
 (.seq (.region 0 [oP 46 (.move (.t 1)),
 oQ 47 (.litS 1 1 [.int .i64 0] [(0, (.c (.int .i64 0)))]),
 oQ 48 (.call 1 28 [(.t 46), (.c (.nils)), (.t 47)]),
 oP 45 (.move (.t 48)),
 oP 49 (.extract (.t 45) 0),
 oP 50 (.extract (.t 45) 1),
 oP 13 (.move (.t 49)),
 oP 14 (.move (.t 50))])
 (.seq (.region 0 [oP 51 (.move (.t 4)),
 oP 52 (.bin .eql (.t 51) (.c (.int .i64 0))),
 oP 53 (.move (.t 52)),
 oG 54 53 true (.move (.t 6)),
 oG 55 53 true (.bin .eql (.t 54) (.c (.int .i64 0))),
 oP 56 (.pick (.t 53) (.t 55) (.c (.bool false))),
 oP 57 (.move (.t 56)),
 oG 58 57 true (.move (.t 8)),
 oG 59 57 true (.bin .eql (.t 58) (.c (.int .i64 0))),
 oP 60 (.pick (.t 57) (.t 59) (.c (.bool false))),
 oP 61 (.move (.t 60)),
 oG 62 61 true (.move (.t 10)),
 oG 63 61 true (.bin .eql (.t 62) (.c (.int .i64 0))),
 oP 64 (.pick (.t 61) (.t 63) (.c (.bool false))),
 oP 65 (.move (.t 64)),
 oG 66 65 true (.move (.t 12)),
 oG 67 65 true (.bin .eql (.t 66) (.c (.int .i64 0))),
 oP 68 (.pick (.t 65) (.t 67) (.c (.bool false))),
 oP 69 (.move (.t 68)),
 oG 70 69 true (.move (.t 14)),
 oG 71 69 true (.bin .eql (.t 70) (.c (.int .i64 0))),
 oP 72 (.pick (.t 69) (.t 71) (.c (.bool false))),
 oP 73 (.move (.t 72)),
 ⟨(some 74), .load true 2 (.t 3), (some (73, true)), none, []⟩,
 oG 75 73 true (.build [.int .i64 0, .int .i64 0] [(0, 1, (.c (.int .i64 0))), (1, 1, (.c (.int .i64 6)))]),
 oG 76 73 true (.eqS false [true, true] (.t 74) (.t 75)),
 oP 77 (.pick (.t 73) (.t 76) (.c (.bool false))),
 oP 78 (.move (.t 77)),
 ⟨(some 79), .load true 2 (.t 5), (some (78, true)), none, []⟩,
 oG 80 78 true (.build [.int .i64 0, .int .i64 0] [(0, 1, (.c (.int .i64 72))), (1, 1, (.c (.int .i64 87)))]),
 oG 81 78 true (.eqS false [true, true] (.t 79) (.t 80)),
 oP 82 (.pick (.t 78) (.t 81) (.c (.bool false))),
 oP 83 (.move (.t 82)),
 oG 84 83 true (.move (.t 7)),
 ⟨(some 85), .litS 1 2 [.int .i64 0] [(0, (.c (.int .i64 0))), (1, (.c (.int .i64 1)))], (some (83, true)), none, []⟩,
 ⟨(some 86), .call 1 50 [(.t 84), (.t 85)], (some (83, true)), none, []⟩,
 oP 87 (.pick (.t 83) (.t 86) (.c (.bool false))),
 oP 88 (.move (.t 87)),
 oG 89 88 true (.move (.t 9)),
 oG 90 88 true (.bin .eql (.t 89) (.c (.int .i64 2))),
 oP 91 (.pick (.t 88) (.t 90) (.c (.bool false))),
 oP 92 (.move (.t 91)),
 oG 93 92 true (.move (.t 11)),
 ⟨(some 94), .litS 1 5 [.int .i64 0] [(0, (.c (.int .i64 19))), (1, (.c (.int .i64 6))), (2, (.c (.int .i64 10))), (3, (.c (.int .i64 6))), (4, (.c (.int .i64 0)))], (some (92, true)), none, []⟩,
 ⟨(some 95), .call 1 50 [(.t 93), (.t 94)], (some (92, true)), none, []⟩,
 oP 96 (.pick (.t 92) (.t 95) (.c (.bool false))),
 oP 97 (.move (.t 96)),
 oG 98 97 true (.move (.t 13)),
 oG 99 97 true (.bin .eql (.t 98) (.c (.int .i64 2))),
 oP 100 (.pick (.t 97) (.t 99) (.c (.bool false))),
 oP 0 (.move (.t 100))])
 (.ret)))))))))⟩
/-- almadraba/cuts.Whole -/
def f20 : AFn := ⟨17, [.cell true 2 2, .tmp 3],
 .seq (.region 0 [oQ 2 (.alloc [.int .i64 0, .int .i64 0]),
 oP 3 (.move (.c (.int .i64 0)))])
 (.seq (.seq (.region 0 [oP 5 (.move (.t 0)),
 oQ 6 (.call 1 52 [(.t 5)]),
 oP 4 (.move (.t 6))])
 (.seq (.region 0 [oP 7 (.move (.t 4)),
 oP 8 (.bin .neq (.t 7) (.c (.int .i64 0)))])
 (.cond (.t 8) (.seq (.region 0 [oP 9 (.build [.int .i64 0, .int .i64 0] []),
 oP 10 (.move (.t 4)),
 ⟨none, .store 2 (.t 2) (.t 9), none, none, []⟩,
 oP 3 (.move (.t 10))])
 (.ret))
 (.skip))))
 (.seq (.region 0 [oP 11 (.move (.t 0)),
 oP 12 (.move (.t 0)),
 oQ 13 (.call 1 67 [(.t 12)]),
 oQ 14 (.call 1 66 [(.t 11), (.t 13)]),
 oP 15 (.extract (.t 14) 0),
 oP 16 (.extract (.t 14) 1),
 ⟨none, .store 2 (.t 2) (.t 15), none, none, []⟩,
 oP 3 (.move (.t 16))])
 (.ret)))⟩
/-- almadraba/cuts.Holds -/
def f21 : AFn := ⟨15, [.tmp 4, .tmp 5],
 .seq (.region 0 [oP 4 (.move (.c (.bool false))),
 oP 5 (.move (.c (.int .i64 0)))])
 (.seq (.seq (.region 0 [oP 7 (.move (.t 0)),
 oQ 8 (.call 1 52 [(.t 7)]),
 oP 6 (.move (.t 8))])
 (.seq (.region 0 [oP 9 (.move (.t 6)),
 oP 10 (.bin .neq (.t 9) (.c (.int .i64 0)))])
 (.cond (.t 10) (.seq (.region 0 [oP 11 (.move (.t 6)),
 oP 4 (.move (.c (.bool false))),
 oP 5 (.move (.t 11))])
 (.ret))
 (.skip))))
 (.seq (.region 0 [oP 12 (.move (.t 0)),
 oP 13 (.move (.t 1)),
 oQ 14 (.call 1 68 [(.t 12), (.t 13)]),
 oP 4 (.move (.t 14)),
 oP 5 (.move (.c (.int .i64 0)))])
 (.ret)))⟩
/-- almadraba/cuts.Lost -/
def f23 : AFn := ⟨26, [.cell true 2 4, .tmp 5],
 .seq (.region 0 [oQ 4 (.alloc [.int .i64 0, .int .i64 0]),
 oP 5 (.move (.c (.int .i64 0)))])
 (.seq (.seq (.region 0 [oP 7 (.move (.t 0)),
 oP 8 (.move (.t 1)),
 oQ 9 (.call 1 69 [(.t 7), (.t 8)]),
 oP 6 (.move (.t 9))])
 (.seq (.region 0 [oP 10 (.move (.t 6)),
 oP 11 (.bin .neq (.t 10) (.c (.int .i64 0)))])
 (.cond (.t 11) (.seq (.region 0 [oP 12 (.build [.int .i64 0, .int .i64 0] []),
 oP 13 (.move (.t 6)),
 ⟨none, .store 2 (.t 4) (.t 12), none, none, []⟩,
 oP 5 (.move (.t 13))])
 (.ret))
 (.skip))))
 (.seq (.seq (.region 0 [oP 14 (.move (.t 0)),
 oP 15 (.move (.t 1)),
 oQ 16 (.call 1 70 [(.t 14), (.t 15)]),
 oP 17 (.un .not (.t 16))])
 (.cond (.t 17) (.seq (.region 0 [oP 18 (.build [.int .i64 0, .int .i64 0] []),
 ⟨none, .store 2 (.t 4) (.t 18), none, none, []⟩,
 oP 5 (.move (.c (.int .i64 1)))])
 (.ret))
 (.skip)))
 (.seq (.region 0 [oP 19 (.move (.t 0)),
 oP 20 (.move (.t 0)),
 oP 21 (.move (.t 1)),
 oQ 22 (.call 1 71 [(.t 20), (.t 21)]),
 oQ 23 (.call 1 66 [(.t 19), (.t 22)]),
 oP 24 (.extract (.t 23) 0),
 oP 25 (.extract (.t 23) 1),
 ⟨none, .store 2 (.t 4) (.t 24), none, none, []⟩,
 oP 5 (.move (.t 25))])
 (.ret))))⟩
/-- almadraba/almadrabaref07.CanCut -/
def f24 : AFn := ⟨19, [.tmp 4],
 .seq (.region 0 [oP 4 (.move (.c (.bool false)))])
 (.seq (.seq (.region 0 [oP 5 (.move (.c (.int .i64 0)))])
 (.block 0 (.loop (.seq (.seq (.region 0 [oP 6 (.move (.t 5)),
 oP 7 (.move (.t 0)),
 oP 8 (.lenS (.t 7)),
 oP 9 (.bin .lss (.t 6) (.t 8))])
 (.cond (.t 9) (.skip)
 (.exit 0)))
 (.seq (.block 1 (.seq (.region 0 [oP 12 (.move (.t 0)),
 oP 13 (.move (.t 5)),
 oP 14 (.idxSl 6 (.t 12) (.t 13)),
 oP 15 (.fieldAddr 0 (.t 14)),
 oQ 16 (.load false 1 (.t 15)),
 oP 17 (.move (.t 1)),
 oP 18 (.bin .eql (.t 16) (.t 17))])
 (.cond (.t 18) (.seq (.region 0 [oP 4 (.move (.c (.bool true)))])
 (.ret))
 (.skip))))
 (.region 0 [oP 10 (.move (.t 5)),
 oP 11 (.bin .add (.t 10) (.c (.int .i64 1))),
 oP 5 (.move (.t 11))]))))))
 (.seq (.region 0 [oP 4 (.move (.c (.bool false)))])
 (.ret)))⟩
/-- almadraba/almadrabaref07.LostOf -/
def f25 : AFn := ⟨33, [.tmp 6],
 .seq (.region 0 [oP 6 (.move (.c (.int .i64 0)))])
 (.seq (.region 0 [oP 9 (.move (.t 1)),
 oP 10 (.move (.t 2)),
 oP 11 (.idxSl 1 (.t 9) (.t 10)),
 oQ 12 (.load false 1 (.t 11)),
 oP 7 (.move (.t 12))])
 (.seq (.seq (.region 0 [oP 8 (.move (.c (.int .i64 0)))])
 (.block 0 (.loop (.seq (.seq (.region 0 [oP 13 (.move (.t 8)),
 oP 14 (.move (.t 0)),
 oP 15 (.lenS (.t 14)),
 oP 16 (.bin .lss (.t 13) (.t 15))])
 (.cond (.t 16) (.skip)
 (.exit 0)))
 (.seq (.block 1 (.seq (.region 0 [oP 19 (.move (.t 0)),
 oP 20 (.move (.t 8)),
 oP 21 (.idxSl 6 (.t 19) (.t 20)),
 oP 22 (.fieldAddr 0 (.t 21)),
 oQ 23 (.load false 1 (.t 22)),
 oP 24 (.move (.t 2)),
 oP 25 (.bin .eql (.t 23) (.t 24))])
 (.cond (.t 25) (.region 0 [oP 26 (.move (.t 7)),
 oP 27 (.move (.t 1)),
 oP 28 (.move (.t 8)),
 oP 29 (.idxSl 1 (.t 27) (.t 28)),
 oQ 30 (.load false 1 (.t 29)),
 oP 31 (.bin .sub (.t 26) (.t 30)),
 oP 7 (.move (.t 31))])
 (.skip))))
 (.region 0 [oP 17 (.move (.t 8)),
 oP 18 (.bin .add (.t 17) (.c (.int .i64 1))),
 oP 8 (.move (.t 18))]))))))
 (.seq (.region 0 [oP 32 (.move (.t 7)),
 oP 6 (.move (.t 32))])
 (.ret))))⟩
/-- almadraba/cuts.Price -/
def f27 : AFn := ⟨22, [.cell true 2 4, .tmp 5],
 .seq (.region 0 [oQ 4 (.alloc [.int .i64 0, .int .i64 0]),
 oP 5 (.move (.c (.int .i64 0)))])
 (.seq (.seq (.region 0 [oP 7 (.move (.t 0)),
 oP 8 (.move (.t 1)),
 oQ 9 (.litS 1 1 [.nils] [(0, (.t 8))]),
 oQ 10 (.call 1 72 [(.t 7), (.t 9)]),
 oP 6 (.move (.t 10))])
 (.seq (.region 0 [oP 11 (.move (.t 6)),
 oP 12 (.bin .neq (.t 11) (.c (.int .i64 0)))])
 (.cond (.t 12) (.seq (.region 0 [oP 13 (.build [.int .i64 0, .int .i64 0] []),
 oP 14 (.move (.t 6)),
 ⟨none, .store 2 (.t 4) (.t 13), none, none, []⟩,
 oP 5 (.move (.t 14))])
 (.ret))
 (.skip))))
 (.seq (.region 0 [oP 15 (.move (.t 0)),
 oP 16 (.move (.t 0)),
 oP 17 (.move (.t 1)),
 oQ 18 (.call 1 73 [(.t 16), (.t 17)]),
 oQ 19 (.call 1 66 [(.t 15), (.t 18)]),
 oP 20 (.extract (.t 19) 0),
 oP 21 (.extract (.t 19) 1),
 ⟨none, .store 2 (.t 4) (.t 20), none, none, []⟩,
 oP 5 (.move (.t 21))])
 (.ret)))⟩
/-- almadraba/cuts.Rank -/
def f28 : AFn := ⟨45, [.tmp 6, .tmp 7],
 .seq (.region 0 [oP 6 (.move (.c (.int .i64 0))),
 oP 7 (.move (.c (.int .i64 0)))])
 (.seq (.seq (.region 0 [oP 12 (.move (.t 0)),
 oP 13 (.move (.t 1)),
 oP 14 (.move (.t 2)),
 oQ 15 (.litS 1 2 [.nils] [(0, (.t 13)), (1, (.t 14))]),
 oQ 16 (.call 1 72 [(.t 12), (.t 15)]),
 oP 8 (.move (.t 16))])
 (.seq (.region 0 [oP 17 (.move (.t 8)),
 oP 18 (.bin .neq (.t 17) (.c (.int .i64 0)))])
 (.cond (.t 18) (.seq (.region 0 [oP 19 (.move (.t 8)),
 oP 6 (.move (.c (.int .i64 0))),
 oP 7 (.move (.t 19))])
 (.ret))
 (.skip))))
 (.seq (.region 0 [oP 20 (.move (.t 0)),
 oP 9 (.move (.t 20))])
 (.seq (.region 0 [oP 22 (.move (.t 9)),
 oP 23 (.move (.t 9)),
 oP 24 (.move (.t 1)),
 oQ 25 (.call 1 73 [(.t 23), (.t 24)]),
 oP 26 (.move (.t 9)),
 oP 27 (.move (.t 2)),
 oQ 28 (.call 1 73 [(.t 26), (.t 27)]),
 oQ 29 (.call 1 74 [(.t 25), (.t 28)]),
 oQ 30 (.call 1 66 [(.t 22), (.t 29)]),
 oP 21 (.move (.t 30)),
 oP 31 (.extract (.t 21) 0),
 oP 32 (.extract (.t 21) 1),
 oQ 10 (.alloc [.int .i64 0, .int .i64 0]),
 ⟨none, .store 2 (.t 10) (.t 31), none, none, []⟩,
 oP 11 (.move (.t 32))])
 (.seq (.block 0 (.seq (.region 0 [oP 34 (.move (.t 11)),
 oP 35 (.bin .neq (.t 34) (.c (.int .i64 0))),
 oP 33 (.move (.t 35))])
 (.cond (.t 33) (.seq (.region 0 [oP 36 (.move (.t 11)),
 oP 6 (.move (.c (.int .i64 0))),
 oP 7 (.move (.t 36))])
 (.ret))
 (.seq (.region 0 [oP 38 (.fieldAddr 0 (.t 10)),
 oQ 39 (.load false 1 (.t 38)),
 oP 40 (.bin .gtr (.t 39) (.c (.int .i64 0))),
 oP 37 (.move (.t 40))])
 (.cond (.t 37) (.seq (.region 0 [oP 6 (.move (.c (.int .i64 1))),
 oP 7 (.move (.c (.int .i64 0)))])
 (.ret))
 (.seq (.region 0 [oP 42 (.fieldAddr 1 (.t 10)),
 oQ 43 (.load false 1 (.t 42)),
 oP 44 (.bin .leq (.t 43) (.c (.int .i64 0))),
 oP 41 (.move (.t 44))])
 (.cond (.t 41) (.seq (.region 0 [oP 6 (.move (.c (.int .i64 2))),
 oP 7 (.move (.c (.int .i64 0)))])
 (.ret))
 (.skip))))))))
 (.seq (.region 0 [oP 6 (.move (.c (.int .i64 3))),
 oP 7 (.move (.c (.int .i64 0)))])
 (.ret))))))⟩
/-- almadraba/almadrabaref01.Within -/
def f30 : AFn := ⟨15, [.tmp 6],
 .seq (.region 0 [oP 6 (.move (.c (.bool false)))])
 (.seq (.region 0 [oP 7 (.move (.t 1)),
 oP 8 (.move (.t 0)),
 oP 9 (.bin .leq (.t 7) (.t 8)),
 oP 10 (.move (.t 9)),
 oG 11 10 true (.move (.t 0)),
 oG 12 10 true (.move (.t 2)),
 oG 13 10 true (.bin .leq (.t 11) (.t 12)),
 oP 14 (.pick (.t 10) (.t 13) (.c (.bool false))),
 oP 6 (.move (.t 14))])
 (.ret))⟩
/-- almadraba/almadrabaref07.IsPart -/
def f31 : AFn := ⟨10, [.tmp 4],
 .seq (.region 0 [oP 4 (.move (.c (.bool false)))])
 (.seq (.region 0 [oP 5 (.move (.t 1)),
 oP 6 (.move (.t 0)),
 oP 7 (.lenS (.t 6)),
 oP 8 (.bin .sub (.t 7) (.c (.int .i64 1))),
 oQ 9 (.call 1 76 [(.t 5), (.c (.int .i64 0)), (.t 8)]),
 oP 4 (.move (.t 9))])
 (.ret))⟩
/-- almadraba/cuts.Weight -/
def f32 : AFn := ⟨20, [.cell true 2 4, .tmp 5],
 .seq (.region 0 [oQ 4 (.alloc [.int .i64 0, .int .i64 0]),
 oP 5 (.move (.c (.int .i64 0)))])
 (.seq (.seq (.region 0 [oP 7 (.move (.t 0)),
 oP 8 (.move (.t 1)),
 oQ 9 (.call 1 69 [(.t 7), (.t 8)]),
 oP 6 (.move (.t 9))])
 (.seq (.region 0 [oP 10 (.move (.t 6)),
 oP 11 (.bin .neq (.t 10) (.c (.int .i64 0)))])
 (.cond (.t 11) (.seq (.region 0 [oP 12 (.build [.int .i64 0, .int .i64 0] []),
 oP 13 (.move (.t 6)),
 ⟨none, .store 2 (.t 4) (.t 12), none, none, []⟩,
 oP 5 (.move (.t 13))])
 (.ret))
 (.skip))))
 (.seq (.region 0 [oP 14 (.move (.t 0)),
 oP 15 (.move (.t 1)),
 oQ 16 (.call 1 77 [(.t 15)]),
 oQ 17 (.call 1 66 [(.t 14), (.t 16)]),
 oP 18 (.extract (.t 17) 0),
 oP 19 (.extract (.t 17) 1),
 ⟨none, .store 2 (.t 4) (.t 18), none, none, []⟩,
 oP 5 (.move (.t 19))])
 (.ret)))⟩
/-- almadraba/almadrabaref07.IsOne -/
def f34 : AFn := ⟨8, [.tmp 2],
 .seq (.region 0 [oP 2 (.move (.c (.bool false)))])
 (.seq (.region 0 [oP 3 (.move (.t 0)),
 oP 4 (.move (.t 0)),
 oQ 5 (.call 1 80 [(.t 4)]),
 oQ 6 (.call 1 79 [(.t 3), (.t 5)]),
 oQ 7 (.call 1 78 [(.t 6)]),
 oP 2 (.move (.t 7))])
 (.ret))⟩
/-- almadraba/almadrabaref07.Only -/
def f36 : AFn := ⟨24, [.tmp 6],
 .seq (.region 0 [oP 6 (.move (.c (.nils)))])
 (.seq (.region 0 [oP 9 (.move (.t 0)),
 oQ 10 (.call 2 42 [(.t 9)]),
 oP 7 (.move (.t 10))])
 (.seq (.region 0 [oP 11 (.move (.t 7)),
 oP 12 (.move (.t 1)),
 oP 13 (.idxSl 6 (.t 11) (.t 12)),
 oQ 14 (.load true 6 (.t 13)),
 oQ 8 (.alloc [.int .i64 0, .int .i64 0, .int .i64 0, .int .i64 0, .int .i64 0, .int .i64 0]),
 ⟨none, .store 6 (.t 8) (.t 14), none, none, []⟩])
 (.seq (.region 0 [oP 15 (.move (.t 2)),
 oP 16 (.move (.t 2)),
 oP 17 (.build [.int .i64 0, .int .i64 0] [(0, 1, (.t 15)), (1, 1, (.t 16))]),
 oP 18 (.fieldAddr 1 (.t 8)),
 ⟨none, .store 2 (.t 18) (.t 17), none, none, []⟩])
 (.seq (.region 0 [oP 19 (.move (.t 7)),
 oP 20 (.move (.t 1)),
 oQ 21 (.load true 6 (.t 8)),
 oP 22 (.idxSl 6 (.t 19) (.t 20)),
 ⟨none, .store 6 (.t 22) (.t 21), none, none, []⟩])
 (.seq (.region 0 [oP 23 (.move (.t 7)),
 oP 6 (.move (.t 23))])
 (.ret))))))⟩
/-- almadraba/cuts.Fix -/
def f39 : AFn := ⟨16, [.tmp 2, .tmp 3],
 .seq (.region 0 [oP 2 (.move (.c (.nils))),
 oP 3 (.move (.c (.int .i64 0)))])
 (.seq (.seq (.region 0 [oP 7 (.move (.t 0)),
 oQ 8 (.call 1 43 [(.t 7)]),
 oP 6 (.move (.t 8)),
 oP 9 (.extract (.t 6) 0),
 oP 10 (.extract (.t 6) 1),
 oP 4 (.move (.t 9)),
 oP 5 (.move (.t 10))])
 (.seq (.region 0 [oP 11 (.move (.t 5)),
 oP 12 (.bin .neq (.t 11) (.c (.int .i64 0)))])
 (.cond (.t 12) (.seq (.region 0 [oP 13 (.move (.t 5)),
 oP 2 (.move (.c (.nils))),
 oP 3 (.move (.t 13))])
 (.ret))
 (.skip))))
 (.seq (.region 0 [oP 14 (.move (.t 0)),
 oQ 15 (.call 1 81 [(.t 14)]),
 oP 2 (.move (.t 15)),
 oP 3 (.move (.c (.int .i64 0)))])
 (.ret)))⟩
/-- almadraba/almadrabaref07.IsParting -/
def f40 : AFn := ⟨53, [.tmp 4],
 .seq (.region 0 [oP 4 (.move (.c (.bool false)))])
 (.seq (.seq (.region 0 [oP 7 (.move (.t 1)),
 oP 8 (.lenS (.t 7)),
 oP 9 (.move (.t 0)),
 oP 10 (.lenS (.t 9)),
 oP 11 (.bin .neq (.t 8) (.t 10))])
 (.cond (.t 11) (.seq (.region 0 [oP 4 (.move (.c (.bool false)))])
 (.ret))
 (.skip)))
 (.seq (.seq (.region 0 [oP 5 (.move (.c (.int .i64 0)))])
 (.block 0 (.loop (.seq (.seq (.region 0 [oP 12 (.move (.t 5)),
 oP 13 (.move (.t 1)),
 oP 14 (.lenS (.t 13)),
 oP 15 (.bin .lss (.t 12) (.t 14))])
 (.cond (.t 15) (.skip)
 (.exit 0)))
 (.seq (.block 1 (.seq (.region 0 [oP 18 (.move (.t 1)),
 oP 19 (.move (.t 5)),
 oP 20 (.idxSl 1 (.t 18) (.t 19)),
 oQ 21 (.load false 1 (.t 20)),
 oQ 22 (.call 1 76 [(.t 21), (.c (.int .i64 0)), (.c (.int .i64 30))]),
 oP 23 (.un .not (.t 22))])
 (.cond (.t 23) (.seq (.region 0 [oP 4 (.move (.c (.bool false)))])
 (.ret))
 (.skip))))
 (.region 0 [oP 16 (.move (.t 5)),
 oP 17 (.bin .add (.t 16) (.c (.int .i64 1))),
 oP 5 (.move (.t 17))]))))))
 (.seq (.seq (.region 0 [oP 6 (.move (.c (.int .i64 0)))])
 (.block 2 (.loop (.seq (.seq (.region 0 [oP 24 (.move (.t 6)),
 oP 25 (.move (.t 0)),
 oP 26 (.lenS (.t 25)),
 oP 27 (.bin .lss (.t 24) (.t 26))])
 (.cond (.t 27) (.skip)
 (.exit 2)))
 (.seq (.block 3 (.seq (.region 0 [oP 30 (.move (.t 0)),
 oP 31 (.move (.t 6)),
 oQ 32 (.call 1 24 [(.t 30), (.t 31)]),
 oP 33 (.move (.t 32)),
 oG 34 33 true (.move (.t 0)),
 oG 35 33 true (.move (.t 1)),
 oG 36 33 true (.move (.t 6)),
 ⟨(some 37), .call 1 25 [(.t 34), (.t 35), (.t 36)], (some (33, true)), none, []⟩,
 oG 38 33 true (.move (.t 0)),
 oG 39 33 true (.move (.t 6)),
 oG 40 33 true (.idxSl 6 (.t 38) (.t 39)),
 oG 41 33 true (.fieldAddr 3 (.t 40)),
 oG 42 33 true (.fieldAddr 0 (.t 41)),
 ⟨(some 43), .load false 1 (.t 42), (some (33, true)), none, []⟩,
 oG 44 33 true (.move (.t 0)),
 oG 45 33 true (.move (.t 6)),
 oG 46 33 true (.idxSl 6 (.t 44) (.t 45)),
 oG 47 33 true (.fieldAddr 3 (.t 46)),
 oG 48 33 true (.fieldAddr 1 (.t 47)),
 ⟨(some 49), .load false 1 (.t 48), (some (33, true)), none, []⟩,
 ⟨(some 50), .call 1 76 [(.t 37), (.t 43), (.t 49)], (some (33, true)), none, []⟩,
 oG 51 33 true (.un .not (.t 50)),
 oP 52 (.pick (.t 33) (.t 51) (.c (.bool false)))])
 (.cond (.t 52) (.seq (.region 0 [oP 4 (.move (.c (.bool false)))])
 (.ret))
 (.skip))))
 (.region 0 [oP 28 (.move (.t 6)),
 oP 29 (.bin .add (.t 28) (.c (.int .i64 1))),
 oP 6 (.move (.t 29))]))))))
 (.seq (.region 0 [oP 4 (.move (.c (.bool true)))])
 (.ret)))))⟩
/-- almadraba/almadrabaref07.ChangeOf -/
def f41 : AFn := ⟨26, [.tmp 4],
 .seq (.region 0 [oP 4 (.move (.c (.int .i64 0)))])
 (.seq (.region 0 [oP 5 (.move (.c (.int .i64 0)))])
 (.seq (.seq (.region 0 [oP 6 (.move (.c (.int .i64 0)))])
 (.block 0 (.loop (.seq (.seq (.region 0 [oP 7 (.move (.t 6)),
 oP 8 (.move (.t 0)),
 oP 9 (.lenS (.t 8)),
 oP 10 (.bin .lss (.t 7) (.t 9))])
 (.cond (.t 10) (.skip)
 (.exit 0)))
 (.seq (.block 1 (.region 0 [oP 13 (.move (.t 5)),
 oP 14 (.move (.t 0)),
 oP 15 (.move (.t 6)),
 oP 16 (.idxSl 6 (.t 14) (.t 15)),
 oP 17 (.fieldAddr 1 (.t 16)),
 oQ 18 (.load true 2 (.t 17)),
 oP 19 (.move (.t 1)),
 oP 20 (.move (.t 6)),
 oP 21 (.idxSl 1 (.t 19) (.t 20)),
 oQ 22 (.load false 1 (.t 21)),
 oQ 23 (.call 1 82 [(.t 18), (.t 22)]),
 oP 24 (.bin .add (.t 13) (.t 23)),
 oP 5 (.move (.t 24))]))
 (.region 0 [oP 11 (.move (.t 6)),
 oP 12 (.bin .add (.t 11) (.c (.int .i64 1))),
 oP 6 (.move (.t 12))]))))))
 (.seq (.region 0 [oP 25 (.move (.t 5)),
 oP 4 (.move (.t 25))])
 (.ret))))⟩
/-- almadraba/almadrabaref07.Copy -/
def f42 : AFn := ⟨6, [.tmp 2],
 .seq (.region 0 [oP 2 (.move (.c (.nils)))])
 (.seq (.region 0 [oQ 3 (.buildSlice 6 0 [.int .i64 0, .int .i64 0, .int .i64 0, .int .i64 0, .int .i64 0, .int .i64 0] []),
 oP 4 (.move (.t 0)),
 oQ 5 (.append false 6 48 (.t 3) (.t 4)),
 oP 2 (.move (.t 5))])
 (.ret))⟩
/-- almadraba/cuts.Change -/
def f43 : AFn := ⟨16, [.tmp 2, .tmp 3],
 .seq (.region 0 [oP 2 (.move (.c (.int .i64 0))),
 oP 3 (.move (.c (.int .i64 0)))])
 (.seq (.seq (.region 0 [oP 6 (.move (.t 0)),
 oQ 7 (.call 1 52 [(.t 6)]),
 oP 4 (.move (.t 7))])
 (.seq (.region 0 [oP 8 (.move (.t 4)),
 oP 9 (.bin .neq (.t 8) (.c (.int .i64 0)))])
 (.cond (.t 9) (.seq (.region 0 [oP 10 (.move (.t 4)),
 oP 2 (.move (.c (.int .i64 0))),
 oP 3 (.move (.t 10))])
 (.ret))
 (.skip))))
 (.seq (.region 0 [oP 11 (.move (.t 0)),
 oQ 12 (.call 1 83 [(.t 11)]),
 oP 5 (.move (.t 12))])
 (.seq (.seq (.region 0 [oP 13 (.move (.t 5)),
 oP 14 (.bin .eql (.t 13) (.c (.int .i64 9223372036854775807)))])
 (.cond (.t 14) (.seq (.region 0 [oP 2 (.move (.c (.int .i64 0))),
 oP 3 (.move (.c (.int .i64 3)))])
 (.ret))
 (.skip)))
 (.seq (.region 0 [oP 15 (.move (.t 5)),
 oP 2 (.move (.t 15)),
 oP 3 (.move (.c (.int .i64 0)))])
 (.ret)))))⟩
/-- almadraba/cuts.Cut -/
def f46 : AFn := ⟨21, [.tmp 2, .tmp 3],
 .seq (.region 0 [oP 2 (.move (.c (.nils))),
 oP 3 (.move (.c (.int .i64 0)))])
 (.seq (.seq (.region 0 [oP 8 (.move (.t 0)),
 oQ 9 (.call 1 52 [(.t 8)]),
 oP 4 (.move (.t 9))])
 (.seq (.region 0 [oP 10 (.move (.t 4)),
 oP 11 (.bin .neq (.t 10) (.c (.int .i64 0)))])
 (.cond (.t 11) (.seq (.region 0 [oP 12 (.move (.t 4)),
 oP 2 (.move (.c (.nils))),
 oP 3 (.move (.t 12))])
 (.ret))
 (.skip))))
 (.seq (.region 0 [oP 14 (.move (.t 0)),
 oQ 15 (.call 2 85 [(.t 14)]),
 oP 13 (.move (.t 15)),
 oP 16 (.extract (.t 13) 0),
 oP 17 (.extract (.t 13) 1),
 oP 18 (.extract (.t 13) 2),
 oP 5 (.move (.t 16)),
 oP 6 (.move (.t 17)),
 oP 7 (.move (.t 18))])
 (.seq (.region 0 [oP 19 (.move (.t 5)),
 oP 20 (.move (.t 7)),
 oP 2 (.move (.t 19)),
 oP 3 (.move (.t 20))])
 (.ret))))⟩
/-- almadraba/almadrabaref07.IsCut -/
def f47 : AFn := ⟨44, [.tmp 4],
 .seq (.region 0 [oP 4 (.move (.c (.bool false)))])
 (.seq (.seq (.region 0 [oP 7 (.move (.t 1)),
 oP 8 (.move (.t 0)),
 oP 9 (.lenS (.t 8)),
 oP 10 (.bin .sub (.t 9) (.c (.int .i64 1))),
 oQ 11 (.call 1 86 [(.t 7), (.c (.int .i64 0)), (.t 10)]),
 oP 12 (.un .not (.t 11))])
 (.cond (.t 12) (.seq (.region 0 [oP 4 (.move (.c (.bool false)))])
 (.ret))
 (.skip)))
 (.seq (.seq (.region 0 [oP 5 (.move (.c (.int .i64 0)))])
 (.block 0 (.loop (.seq (.seq (.region 0 [oP 13 (.move (.t 5)),
 oP 14 (.move (.t 1)),
 oP 15 (.lenS (.t 14)),
 oP 16 (.bin .lss (.t 13) (.t 15))])
 (.cond (.t 16) (.skip)
 (.exit 0)))
 (.seq (.block 1 (.seq (.region 0 [oP 19 (.move (.t 0)),
 oP 20 (.move (.t 1)),
 oP 21 (.move (.t 5)),
 oP 22 (.idxSl 1 (.t 20) (.t 21)),
 oQ 23 (.load false 1 (.t 22)),
 oP 24 (.idxSl 6 (.t 19) (.t 23)),
 oP 25 (.fieldAddr 0 (.t 24)),
 oQ 26 (.load false 1 (.t 25)),
 oP 6 (.move (.t 26))])
 (.seq (.region 0 [oP 27 (.move (.t 0)),
 oP 28 (.move (.t 1)),
 oP 29 (.move (.t 5)),
 oP 30 (.idxSl 1 (.t 28) (.t 29)),
 oQ 31 (.load false 1 (.t 30)),
 oQ 32 (.call 1 24 [(.t 27), (.t 31)]),
 oP 33 (.un .not (.t 32)),
 oP 34 (.move (.t 33)),
 oG 35 34 false (.move (.t 6)),
 oG 36 34 false (.bin .neq (.t 35) (.c (.int .i64 (-1)))),
 oG 37 34 false (.move (.t 36)),
 oG 38 37 true (.move (.t 1)),
 oG 39 37 true (.move (.t 6)),
 ⟨(some 40), .call 1 87 [(.t 38), (.t 39)], (some (37, true)), none, []⟩,
 oG 41 37 true (.un .not (.t 40)),
 oG 42 34 false (.pick (.t 37) (.t 41) (.c (.bool false))),
 oP 43 (.pick (.t 34) (.c (.bool true)) (.t 42))])
 (.cond (.t 43) (.seq (.region 0 [oP 4 (.move (.c (.bool false)))])
 (.ret))
 (.skip)))))
 (.region 0 [oP 17 (.move (.t 5)),
 oP 18 (.bin .add (.t 17) (.c (.int .i64 1))),
 oP 5 (.move (.t 18))]))))))
 (.seq (.region 0 [oP 4 (.move (.c (.bool true)))])
 (.ret))))⟩
/-- almadraba/almadrabaref01.SameInts -/
def f50 : AFn := ⟨26, [.tmp 4],
 .seq (.region 0 [oP 4 (.move (.c (.bool false)))])
 (.seq (.seq (.region 0 [oP 6 (.move (.t 0)),
 oP 7 (.lenS (.t 6)),
 oP 8 (.move (.t 1)),
 oP 9 (.lenS (.t 8)),
 oP 10 (.bin .neq (.t 7) (.t 9))])
 (.cond (.t 10) (.seq (.region 0 [oP 4 (.move (.c (.bool false)))])
 (.ret))
 (.skip)))
 (.seq (.seq (.region 0 [oP 5 (.move (.c (.int .i64 0)))])
 (.block 0 (.loop (.seq (.seq (.region 0 [oP 11 (.move (.t 5)),
 oP 12 (.move (.t 0)),
 oP 13 (.lenS (.t 12)),
 oP 14 (.bin .lss (.t 11) (.t 13))])
 (.cond (.t 14) (.skip)
 (.exit 0)))
 (.seq (.block 1 (.seq (.region 0 [oP 17 (.move (.t 0)),
 oP 18 (.move (.t 5)),
 oP 19 (.idxSl 1 (.t 17) (.t 18)),
 oQ 20 (.load false 1 (.t 19)),
 oP 21 (.move (.t 1)),
 oP 22 (.move (.t 5)),
 oP 23 (.idxSl 1 (.t 21) (.t 22)),
 oQ 24 (.load false 1 (.t 23)),
 oP 25 (.bin .neq (.t 20) (.t 24))])
 (.cond (.t 25) (.seq (.region 0 [oP 4 (.move (.c (.bool false)))])
 (.ret))
 (.skip))))
 (.region 0 [oP 15 (.move (.t 5)),
 oP 16 (.bin .add (.t 15) (.c (.int .i64 1))),
 oP 5 (.move (.t 16))]))))))
 (.seq (.region 0 [oP 4 (.move (.c (.bool true)))])
 (.ret))))⟩
/-- almadraba/almadrabaref07.Holds -/
def f51 : AFn := ⟨15, [.tmp 4, .tmp 5],
 .seq (.region 0 [oP 4 (.move (.c (.bool false))),
 oP 5 (.move (.c (.int .i64 0)))])
 (.seq (.seq (.region 0 [oP 7 (.move (.t 0)),
 oQ 8 (.call 1 53 [(.t 7)]),
 oP 6 (.move (.t 8))])
 (.seq (.region 0 [oP 9 (.move (.t 6)),
 oP 10 (.bin .neq (.t 9) (.c (.int .i64 0)))])
 (.cond (.t 10) (.seq (.region 0 [oP 11 (.move (.t 6)),
 oP 4 (.move (.c (.bool false))),
 oP 5 (.move (.t 11))])
 (.ret))
 (.skip))))
 (.seq (.region 0 [oP 12 (.move (.t 0)),
 oP 13 (.move (.t 1)),
 oQ 14 (.call 1 17 [(.t 12), (.t 13)]),
 oP 4 (.move (.t 14)),
 oP 5 (.move (.c (.int .i64 0)))])
 (.ret)))⟩
/-- almadraba/cuts.Check -/
def f52 : AFn := ⟨6, [.tmp 2],
 .seq (.region 0 [oP 2 (.move (.c (.int .i64 0)))])
 (.seq (.seq (.region 0 [oP 3 (.move (.t 0)),
 oQ 4 (.call 1 89 [(.t 3)]),
 oP 5 (.un .not (.t 4))])
 (.cond (.t 5) (.seq (.region 0 [oP 2 (.move (.c (.int .i64 70)))])
 (.ret))
 (.skip)))
 (.seq (.region 0 [oP 2 (.move (.c (.int .i64 0)))])
 (.ret)))⟩
/-- almadraba/almadrabaref07.Check -/
def f53 : AFn := ⟨42, [.tmp 2],
 .seq (.region 0 [oP 2 (.move (.c (.int .i64 0)))])
 (.seq (.seq (.region 0 [oP 5 (.move (.t 0)),
 oP 6 (.lenS (.t 5)),
 oP 7 (.bin .gtr (.t 6) (.c (.int .i64 8)))])
 (.cond (.t 7) (.seq (.region 0 [oP 2 (.move (.c (.int .i64 70)))])
 (.ret))
 (.skip)))
 (.seq (.seq (.region 0 [oP 3 (.move (.c (.int .i64 0)))])
 (.block 0 (.loop (.seq (.seq (.region 0 [oP 8 (.move (.t 3)),
 oP 9 (.move (.t 0)),
 oP 10 (.lenS (.t 9)),
 oP 11 (.bin .lss (.t 8) (.t 10))])
 (.cond (.t 11) (.skip)
 (.exit 0)))
 (.seq (.block 1 (.seq (.region 0 [oP 14 (.move (.t 0)),
 oP 15 (.move (.t 3)),
 oP 16 (.idxSl 6 (.t 14) (.t 15)),
 oQ 17 (.load true 6 (.t 16)),
 oQ 4 (.alloc [.int .i64 0, .int .i64 0, .int .i64 0, .int .i64 0, .int .i64 0, .int .i64 0]),
 ⟨none, .store 6 (.t 4) (.t 17), none, none, []⟩])
 (.seq (.region 0 [oP 18 (.fieldAddr 0 (.t 4)),
 oQ 19 (.load false 1 (.t 18)),
 oP 20 (.move (.t 3)),
 oP 21 (.bin .sub (.t 20) (.c (.int .i64 1))),
 oQ 22 (.call 1 76 [(.t 19), (.c (.int .i64 (-1))), (.t 21)]),
 oP 23 (.un .not (.t 22)),
 oP 24 (.move (.t 23)),
 oG 25 24 false (.fieldAddr 1 (.t 4)),
 ⟨(some 26), .load true 2 (.t 25), (some (24, false)), none, []⟩,
 ⟨(some 27), .call 1 90 [(.t 26)], (some (24, false)), none, []⟩,
 oG 28 24 false (.un .not (.t 27)),
 oP 29 (.pick (.t 24) (.c (.bool true)) (.t 28)),
 oP 30 (.move (.t 29)),
 oG 31 30 false (.fieldAddr 3 (.t 4)),
 ⟨(some 32), .load true 2 (.t 31), (some (30, false)), none, []⟩,
 ⟨(some 33), .call 1 90 [(.t 32)], (some (30, false)), none, []⟩,
 oG 34 30 false (.un .not (.t 33)),
 oP 35 (.pick (.t 30) (.c (.bool true)) (.t 34)),
 oP 36 (.move (.t 35)),
 oG 37 36 false (.fieldAddr 5 (.t 4)),
 ⟨(some 38), .load false 1 (.t 37), (some (36, false)), none, []⟩,
 ⟨(some 39), .call 1 76 [(.t 38), (.c (.int .i64 0)), (.c (.int .i64 99))], (some (36, false)), none, []⟩,
 oG 40 36 false (.un .not (.t 39)),
 oP 41 (.pick (.t 36) (.c (.bool true)) (.t 40))])
 (.cond (.t 41) (.seq (.region 0 [oP 2 (.move (.c (.int .i64 70)))])
 (.ret))
 (.skip)))))
 (.region 0 [oP 12 (.move (.t 3)),
 oP 13 (.bin .add (.t 12) (.c (.int .i64 1))),
 oP 3 (.move (.t 13))]))))))
 (.seq (.region 0 [oP 2 (.move (.c (.int .i64 0)))])
 (.ret))))⟩
/-- almadraba/almadrabaref07.Weight -/
def f54 : AFn := ⟨19, [.cell true 2 4, .tmp 5],
 .seq (.region 0 [oQ 4 (.alloc [.int .i64 0, .int .i64 0]),
 oP 5 (.move (.c (.int .i64 0)))])
 (.seq (.seq (.region 0 [oP 7 (.move (.t 0)),
 oP 8 (.move (.t 0)),
 oP 9 (.move (.t 1)),
 oQ 10 (.call 1 31 [(.t 8), (.t 9)]),
 oQ 11 (.call 1 91 [(.t 7), (.t 10)]),
 oP 6 (.move (.t 11))])
 (.seq (.region 0 [oP 12 (.move (.t 6)),
 oP 13 (.bin .neq (.t 12) (.c (.int .i64 0)))])
 (.cond (.t 13) (.seq (.region 0 [oP 14 (.build [.int .i64 0, .int .i64 0] []),
 oP 15 (.move (.t 6)),
 ⟨none, .store 2 (.t 4) (.t 14), none, none, []⟩,
 oP 5 (.move (.t 15))])
 (.ret))
 (.skip))))
 (.seq (.region 0 [oP 16 (.move (.t 0)),
 oP 17 (.move (.t 1)),
 oQ 18 (.call 1 92 [(.t 16), (.t 17)]),
 ⟨none, .store 2 (.t 4) (.t 18), none, none, []⟩,
 oP 5 (.move (.c (.int .i64 0)))])
 (.ret)))⟩
/-- almadraba/almadrabaref07.Lost -/
def f55 : AFn := ⟨55, [.cell true 2 4, .tmp 5],
 .seq (.region 0 [oQ 4 (.alloc [.int .i64 0, .int .i64 0]),
 oP 5 (.move (.c (.int .i64 0)))])
 (.seq (.seq (.region 0 [oP 9 (.move (.t 0)),
 oP 10 (.move (.t 0)),
 oP 11 (.move (.t 1)),
 oQ 12 (.call 1 31 [(.t 10), (.t 11)]),
 oP 13 (.move (.t 12)),
 oG 14 13 true (.move (.t 0)),
 oG 15 13 true (.move (.t 1)),
 ⟨(some 16), .call 1 24 [(.t 14), (.t 15)], (some (13, true)), none, []⟩,
 oP 17 (.pick (.t 13) (.t 16) (.c (.bool false))),
 oQ 18 (.call 1 91 [(.t 9), (.t 17)]),
 oP 6 (.move (.t 18))])
 (.seq (.region 0 [oP 19 (.move (.t 6)),
 oP 20 (.bin .neq (.t 19) (.c (.int .i64 0)))])
 (.cond (.t 20) (.seq (.region 0 [oP 21 (.build [.int .i64 0, .int .i64 0] []),
 oP 22 (.move (.t 6)),
 ⟨none, .store 2 (.t 4) (.t 21), none, none, []⟩,
 oP 5 (.move (.t 22))])
 (.ret))
 (.skip))))
 (.seq (.region 0 [oP 23 (.build [.int .i64 0, .int .i64 0] [(0, 1, (.c (.int .i64 30))), (1, 1, (.c (.int .i64 0)))]),
 oQ 7 (.alloc [.int .i64 0, .int .i64 0]),
 ⟨none, .store 2 (.t 7) (.t 23), none, none, []⟩])
 (.seq (.seq (.region 0 [oP 24 (.move (.t 0)),
 oP 25 (.move (.t 1)),
 oP 26 (.idxSl 6 (.t 24) (.t 25)),
 oP 27 (.fieldAddr 3 (.t 26)),
 oP 28 (.fieldAddr 0 (.t 27)),
 oQ 29 (.load false 1 (.t 28)),
 oP 8 (.move (.t 29))])
 (.block 0 (.loop (.seq (.seq (.region 0 [oP 30 (.move (.t 8)),
 oP 31 (.move (.t 0)),
 oP 32 (.move (.t 1)),
 oP 33 (.idxSl 6 (.t 31) (.t 32)),
 oP 34 (.fieldAddr 3 (.t 33)),
 oP 35 (.fieldAddr 1 (.t 34)),
 oQ 36 (.load false 1 (.t 35)),
 oP 37 (.bin .leq (.t 30) (.t 36))])
 (.cond (.t 37) (.skip)
 (.exit 0)))
 (.seq (.block 1 (.seq (.region 0 [oP 40 (.move (.t 0)),
 oP 41 (.move (.t 1)),
 oP 42 (.move (.t 8)),
 oQ 43 (.call 1 93 [(.t 40), (.t 41), (.t 42)]),
 oQ 44 (.call 1 34 [(.t 43)])])
 (.cond (.t 44) (.region 0 [oP 45 (.fieldAddr 0 (.t 7)),
 oQ 46 (.load false 1 (.t 45)),
 oP 47 (.move (.t 8)),
 oP 48 (.minmax false (.t 46) [(.t 47)]),
 oP 49 (.fieldAddr 1 (.t 7)),
 oQ 50 (.load false 1 (.t 49)),
 oP 51 (.move (.t 8)),
 oP 52 (.minmax true (.t 50) [(.t 51)]),
 oP 53 (.build [.int .i64 0, .int .i64 0] [(0, 1, (.t 48)), (1, 1, (.t 52))]),
 ⟨none, .store 2 (.t 7) (.t 53), none, none, []⟩])
 (.skip))))
 (.region 0 [oP 38 (.move (.t 8)),
 oP 39 (.bin .add (.t 38) (.c (.int .i64 1))),
 oP 8 (.move (.t 39))]))))))
 (.seq (.region 0 [oQ 54 (.load true 2 (.t 7)),
 ⟨none, .store 2 (.t 4) (.t 54), none, none, []⟩,
 oP 5 (.move (.c (.int .i64 0)))])
 (.ret)))))⟩
/-- almadraba/almadrabaref07.Whole -/
def f56 : AFn := ⟨34, [.cell true 2 2, .tmp 3],
 .seq (.region 0 [oQ 2 (.alloc [.int .i64 0, .int .i64 0]),
 oP 3 (.move (.c (.int .i64 0)))])
 (.seq (.seq (.region 0 [oP 7 (.move (.t 0)),
 oQ 8 (.call 1 91 [(.t 7), (.c (.bool true))]),
 oP 4 (.move (.t 8))])
 (.seq (.region 0 [oP 9 (.move (.t 4)),
 oP 10 (.bin .neq (.t 9) (.c (.int .i64 0)))])
 (.cond (.t 10) (.seq (.region 0 [oP 11 (.build [.int .i64 0, .int .i64 0] []),
 oP 12 (.move (.t 4)),
 ⟨none, .store 2 (.t 2) (.t 11), none, none, []⟩,
 oP 3 (.move (.t 12))])
 (.ret))
 (.skip))))
 (.seq (.region 0 [oP 13 (.move (.t 0)),
 oP 14 (.lenS (.t 13)),
 oQ 15 (.makeSlice false 1 8 [.int .i64 0] (.t 14) (.t 14)),
 oP 5 (.move (.t 15))])
 (.seq (.seq (.region 0 [oP 6 (.move (.c (.int .i64 0)))])
 (.block 0 (.loop (.seq (.seq (.region 0 [oP 16 (.move (.t 6)),
 oP 17 (.move (.t 0)),
 oP 18 (.lenS (.t 17)),
 oP 19 (.bin .lss (.t 16) (.t 18))])
 (.cond (.t 19) (.skip)
 (.exit 0)))
 (.seq (.block 1 (.seq (.region 0 [oP 22 (.move (.t 0)),
 oP 23 (.move (.t 6)),
 oP 24 (.idxSl 6 (.t 22) (.t 23)),
 oP 25 (.fieldAddr 0 (.t 24)),
 oQ 26 (.load false 1 (.t 25)),
 oP 27 (.bin .eql (.t 26) (.c (.int .i64 (-1))))])
 (.cond (.t 27) (.region 0 [oP 28 (.move (.t 5)),
 oP 29 (.move (.t 6)),
 oP 30 (.idxSl 1 (.t 28) (.t 29)),
 ⟨none, .store 1 (.t 30) (.c (.int .i64 1)), none, none, []⟩])
 (.skip))))
 (.region 0 [oP 20 (.move (.t 6)),
 oP 21 (.bin .add (.t 20) (.c (.int .i64 1))),
 oP 6 (.move (.t 21))]))))))
 (.seq (.region 0 [oP 31 (.move (.t 0)),
 oP 32 (.move (.t 5)),
 oQ 33 (.call 1 94 [(.t 31), (.t 32)]),
 ⟨none, .store 2 (.t 2) (.t 33), none, none, []⟩,
 oP 3 (.move (.c (.int .i64 0)))])
 (.ret)))))⟩
/-- almadraba/almadrabalaw07.Same -/
def f57 : AFn := ⟨26, [.tmp 4],
 .seq (.region 0 [oP 4 (.move (.c (.bool false)))])
 (.seq (.seq (.region 0 [oP 6 (.move (.t 0)),
 oP 7 (.lenS (.t 6)),
 oP 8 (.move (.t 1)),
 oP 9 (.lenS (.t 8)),
 oP 10 (.bin .neq (.t 7) (.t 9))])
 (.cond (.t 10) (.seq (.region 0 [oP 4 (.move (.c (.bool false)))])
 (.ret))
 (.skip)))
 (.seq (.seq (.region 0 [oP 5 (.move (.c (.int .i64 0)))])
 (.block 0 (.loop (.seq (.seq (.region 0 [oP 11 (.move (.t 5)),
 oP 12 (.move (.t 0)),
 oP 13 (.lenS (.t 12)),
 oP 14 (.bin .lss (.t 11) (.t 13))])
 (.cond (.t 14) (.skip)
 (.exit 0)))
 (.seq (.block 1 (.seq (.region 0 [oP 17 (.move (.t 0)),
 oP 18 (.move (.t 5)),
 oP 19 (.idxSl 6 (.t 17) (.t 18)),
 oQ 20 (.load true 6 (.t 19)),
 oP 21 (.move (.t 1)),
 oP 22 (.move (.t 5)),
 oP 23 (.idxSl 6 (.t 21) (.t 22)),
 oQ 24 (.load true 6 (.t 23)),
 oP 25 (.eqS true [true, true, true, true, true, true] (.t 20) (.t 24))])
 (.cond (.t 25) (.seq (.region 0 [oP 4 (.move (.c (.bool false)))])
 (.ret))
 (.skip))))
 (.region 0 [oP 15 (.move (.t 5)),
 oP 16 (.bin .add (.t 15) (.c (.int .i64 1))),
 oP 5 (.move (.t 16))]))))))
 (.seq (.region 0 [oP 4 (.move (.c (.bool true)))])
 (.ret))))⟩
/-- almadraba/almadrabaref07.Price -/
def f61 : AFn := ⟨19, [.cell true 2 4, .tmp 5],
 .seq (.region 0 [oQ 4 (.alloc [.int .i64 0, .int .i64 0]),
 oP 5 (.move (.c (.int .i64 0)))])
 (.seq (.seq (.region 0 [oP 7 (.move (.t 0)),
 oP 8 (.move (.t 1)),
 oQ 9 (.call 1 98 [(.t 7), (.t 8), (.c (.nils))]),
 oP 6 (.move (.t 9))])
 (.seq (.region 0 [oP 10 (.move (.t 6)),
 oP 11 (.bin .neq (.t 10) (.c (.int .i64 0)))])
 (.cond (.t 11) (.seq (.region 0 [oP 12 (.build [.int .i64 0, .int .i64 0] []),
 oP 13 (.move (.t 6)),
 ⟨none, .store 2 (.t 4) (.t 12), none, none, []⟩,
 oP 5 (.move (.t 13))])
 (.ret))
 (.skip))))
 (.seq (.region 0 [oP 14 (.move (.t 0)),
 oP 15 (.move (.t 0)),
 oP 16 (.move (.t 1)),
 oQ 17 (.call 1 75 [(.t 15), (.t 16)]),
 oQ 18 (.call 1 94 [(.t 14), (.t 17)]),
 ⟨none, .store 2 (.t 4) (.t 18), none, none, []⟩,
 oP 5 (.move (.c (.int .i64 0)))])
 (.ret)))⟩
/-- almadraba/almadrabaref07.Rank -/
def f62 : AFn := ⟨53, [.tmp 6, .tmp 7],
 .seq (.region 0 [oP 6 (.move (.c (.int .i64 0))),
 oP 7 (.move (.c (.int .i64 0)))])
 (.seq (.seq (.region 0 [oP 13 (.move (.t 0)),
 oP 14 (.move (.t 1)),
 oP 15 (.move (.t 2)),
 oQ 16 (.call 1 98 [(.t 13), (.t 14), (.t 15)]),
 oP 8 (.move (.t 16))])
 (.seq (.region 0 [oP 17 (.move (.t 8)),
 oP 18 (.bin .neq (.t 17) (.c (.int .i64 0)))])
 (.cond (.t 18) (.seq (.region 0 [oP 19 (.move (.t 8)),
 oP 6 (.move (.c (.int .i64 0))),
 oP 7 (.move (.t 19))])
 (.ret))
 (.skip))))
 (.seq (.region 0 [oP 20 (.move (.t 0)),
 oP 21 (.move (.t 1)),
 oQ 22 (.call 2 75 [(.t 20), (.t 21)]),
 oP 9 (.move (.t 22))])
 (.seq (.region 0 [oP 23 (.move (.t 0)),
 oP 24 (.move (.t 2)),
 oQ 25 (.call 2 75 [(.t 23), (.t 24)]),
 oP 10 (.move (.t 25))])
 (.seq (.seq (.region 0 [oP 11 (.move (.c (.int .i64 0)))])
 (.block 0 (.loop (.seq (.seq (.region 0 [oP 26 (.move (.t 11)),
 oP 27 (.move (.t 9)),
 oP 28 (.lenS (.t 27)),
 oP 29 (.bin .lss (.t 26) (.t 28))])
 (.cond (.t 29) (.skip)
 (.exit 0)))
 (.seq (.block 1 (.region 0 [oP 32 (.move (.t 9)),
 oP 33 (.move (.t 11)),
 oP 34 (.idxSl 1 (.t 32) (.t 33)),
 oQ 35 (.load false 1 (.t 34)),
 oP 36 (.move (.t 10)),
 oP 37 (.move (.t 11)),
 oP 38 (.idxSl 1 (.t 36) (.t 37)),
 oQ 39 (.load false 1 (.t 38)),
 oP 40 (.bin .sub (.t 35) (.t 39)),
 oP 41 (.idxSl 1 (.t 32) (.t 33)),
 ⟨none, .store 1 (.t 41) (.t 40), none, none, []⟩]))
 (.region 0 [oP 30 (.move (.t 11)),
 oP 31 (.bin .add (.t 30) (.c (.int .i64 1))),
 oP 11 (.move (.t 31))]))))))
 (.seq (.region 0 [oP 42 (.move (.t 0)),
 oP 43 (.move (.t 9)),
 oQ 44 (.call 1 94 [(.t 42), (.t 43)]),
 oQ 12 (.alloc [.int .i64 0, .int .i64 0]),
 ⟨none, .store 2 (.t 12) (.t 44), none, none, []⟩])
 (.seq (.block 2 (.seq (.region 0 [oP 46 (.fieldAddr 0 (.t 12)),
 oQ 47 (.load false 1 (.t 46)),
 oP 48 (.bin .gtr (.t 47) (.c (.int .i64 0))),
 oP 45 (.move (.t 48))])
 (.cond (.t 45) (.seq (.region 0 [oP 6 (.move (.c (.int .i64 1))),
 oP 7 (.move (.c (.int .i64 0)))])
 (.ret))
 (.seq (.region 0 [oP 50 (.fieldAddr 1 (.t 12)),
 oQ 51 (.load false 1 (.t 50)),
 oP 52 (.bin .leq (.t 51) (.c (.int .i64 0))),
 oP 49 (.move (.t 52))])
 (.cond (.t 49) (.seq (.region 0 [oP 6 (.move (.c (.int .i64 2))),
 oP 7 (.move (.c (.int .i64 0)))])
 (.ret))
 (.skip))))))
 (.seq (.region 0 [oP 6 (.move (.c (.int .i64 3))),
 oP 7 (.move (.c (.int .i64 0)))])
 (.ret))))))))⟩
/-- almadraba/almadrabalaw07.Example -/
def f65 : AFn := ⟨16, [.tmp 0, .tmp 1],
 .seq (.region 0 [oP 0 (.move (.c (.nils))),
 oP 1 (.move (.c (.nils)))])
 (.seq (.region 0 [oQ 2 (.call 1 101 [(.c (.int .i64 (-1))), (.c (.int .i64 20)), (.c (.int .i64 24)), (.c (.int .i64 1)), (.c (.int .i64 3)), (.c (.int .i64 2))]),
 oQ 3 (.call 1 101 [(.c (.int .i64 0)), (.c (.int .i64 8)), (.c (.int .i64 12)), (.c (.int .i64 0)), (.c (.int .i64 2)), (.c (.int .i64 3))]),
 oQ 4 (.call 1 101 [(.c (.int .i64 0)), (.c (.int .i64 9)), (.c (.int .i64 10)), (.c (.int .i64 0)), (.c (.int .i64 0)), (.c (.int .i64 4))]),
 oQ 5 (.call 1 101 [(.c (.int .i64 1)), (.c (.int .i64 6)), (.c (.int .i64 7)), (.c (.int .i64 0)), (.c (.int .i64 0)), (.c (.int .i64 6))]),
 oQ 6 (.call 1 101 [(.c (.int .i64 1)), (.c (.int .i64 0)), (.c (.int .i64 30)), (.c (.int .i64 0)), (.c (.int .i64 0)), (.c (.int .i64 1))]),
 oQ 7 (.litS 6 5 [.int .i64 0, .int .i64 0, .int .i64 0, .int .i64 0, .int .i64 0, .int .i64 0] [(0, (.t 2)), (1, (.t 3)), (2, (.t 4)), (3, (.t 5)), (4, (.t 6))]),
 oP 0 (.move (.t 7))])
 (.seq (.region 0 [oQ 8 (.buildSlice 6 0 [.int .i64 0, .int .i64 0, .int .i64 0, .int .i64 0, .int .i64 0, .int .i64 0] []),
 oP 9 (.move (.t 0)),
 oQ 10 (.append false 6 48 (.t 8) (.t 9)),
 oP 1 (.move (.t 10))])
 (.seq (.region 0 [oP 11 (.move (.t 1)),
 oQ 12 (.call 1 101 [(.c (.int .i64 0)), (.c (.int .i64 0)), (.c (.int .i64 5)), (.c (.int .i64 0)), (.c (.int .i64 2)), (.c (.int .i64 3))]),
 oP 13 (.idxSl 6 (.t 11) (.c (.int .i64 1))),
 ⟨none, .store 6 (.t 13) (.t 12), none, none, []⟩])
 (.seq (.region 0 [oP 14 (.move (.t 0)),
 oP 15 (.move (.t 1)),
 oP 0 (.move (.t 14)),
 oP 1 (.move (.t 15))])
 (.ret)))))⟩
/-- (almadraba/cuts.table).between -/
def f66 : AFn := ⟨29, [.cell true 2 4, .tmp 5],
 .seq (.region 0 [oQ 3 (.box (.t 1)),
 oQ 4 (.alloc [.int .i64 0, .int .i64 0]),
 oP 5 (.move (.c (.int .i64 0)))])
 (.seq (.region 0 [oP 8 (.move (.t 0)),
 oP 9 (.move (.t 0)),
 oQ 10 (.load true 8 (.t 3)),
 oP 11 (.mkFn 104 [(.t 10)] []),
 oQ 12 (.call 0 103 [(.t 9), (.t 11)]),
 oQ 13 (.call 3 102 [(.t 8), (.t 12)]),
 oP 6 (.move (.t 13))])
 (.seq (.seq (.region 0 [oP 14 (.move (.t 6)),
 oP 15 (.bin .eql (.t 14) (.c (.int .i64 9223372036854775807)))])
 (.cond (.t 15) (.seq (.region 0 [oP 16 (.build [.int .i64 0, .int .i64 0] []),
 ⟨none, .store 2 (.t 4) (.t 16), none, none, []⟩,
 oP 5 (.move (.c (.int .i64 3)))])
 (.ret))
 (.skip)))
 (.seq (.region 0 [oP 17 (.move (.t 0)),
 oP 18 (.move (.t 0)),
 oP 19 (.build [.int .i64 0, .int .i64 0, .int .i64 0, .int .i64 0, .int .i64 0, .int .i64 0, .int .i64 0, .int .i64 0] []),
 oQ 20 (.load true 8 (.t 3)),
 oQ 21 (.call 1 74 [(.t 19), (.t 20)]),
 oP 22 (.mkFn 104 [(.t 21)] []),
 oQ 23 (.call 0 103 [(.t 18), (.t 22)]),
 oQ 24 (.call 3 102 [(.t 17), (.t 23)]),
 oP 25 (.un .neg (.t 24)),
 oP 7 (.move (.t 25))])
 (.seq (.region 0 [oP 26 (.move (.t 6)),
 oP 27 (.move (.t 7)),
 oP 28 (.build [.int .i64 0, .int .i64 0] [(0, 1, (.t 26)), (1, 1, (.t 27))]),
 ⟨none, .store 2 (.t 4) (.t 28), none, none, []⟩,
 oP 5 (.move (.c (.int .i64 0)))])
 (.ret)))))⟩
/-- (almadraba/cuts.table).whole -/
def f67 : AFn := ⟨20, [.cell true 8 2],
 .seq (.region 0 [oQ 2 (.alloc [.int .i64 0, .int .i64 0, .int .i64 0, .int .i64 0, .int .i64 0, .int .i64 0, .int .i64 0, .int .i64 0])])
 (.seq (.region 0 [oQ 3 (.alloc [.int .i64 0, .int .i64 0, .int .i64 0, .int .i64 0, .int .i64 0, .int .i64 0, .int .i64 0, .int .i64 0])])
 (.seq (.seq (.region 0 [oP 6 (.move (.t 0)),
 oP 7 (.lenS (.t 6)),
 oP 8 (.move (.c (.int .i64 0)))])
 (.block 0 (.loop (.seq (.region 0 [oP 9 (.bin .lss (.t 8) (.t 7))])
 (.seq (.cond (.t 9) (.skip)
 (.exit 0))
 (.seq (.block 1 (.seq (.region 0 [oP 10 (.move (.t 8)),
 oP 11 (.idxSl 6 (.t 6) (.t 8)),
 oQ 12 (.load true 6 (.t 11)),
 oQ 5 (.alloc [.int .i64 0, .int .i64 0, .int .i64 0, .int .i64 0, .int .i64 0, .int .i64 0]),
 oP 4 (.move (.t 10)),
 ⟨none, .store 6 (.t 5) (.t 12), none, none, []⟩])
 (.seq (.region 0 [oP 13 (.fieldAddr 0 (.t 5)),
 oQ 14 (.load false 1 (.t 13)),
 oP 15 (.bin .eql (.t 14) (.c (.int .i64 (-1))))])
 (.cond (.t 15) (.region 0 [oP 16 (.move (.t 4)),
 oP 17 (.idxArr 8 1 (.t 3) (.t 16)),
 ⟨none, .store 1 (.t 17) (.c (.int .i64 1)), none, none, []⟩])
 (.skip)))))
 (.region 0 [oP 18 (.bin .add (.t 8) (.c (.int .i64 1))),
 oP 8 (.move (.t 18))])))))))
 (.seq (.region 0 [oQ 19 (.load true 8 (.t 3)),
 ⟨none, .store 8 (.t 2) (.t 19), none, none, []⟩])
 (.ret))))⟩
/-- (almadraba/cuts.table).isTruth -/
def f68 : AFn := ⟨62, [.tmp 4],
 .seq (.region 0 [oP 4 (.move (.c (.bool false)))])
 (.seq (.seq (.region 0 [oP 11 (.move (.t 1)),
 oP 12 (.lenS (.t 11)),
 oP 13 (.move (.t 0)),
 oP 14 (.lenS (.t 13)),
 oP 15 (.bin .neq (.t 12) (.t 14))])
 (.cond (.t 15) (.seq (.region 0 [oP 4 (.move (.c (.bool false)))])
 (.ret))
 (.skip)))
 (.seq (.region 0 [oP 16 (.move (.t 1)),
 oQ 17 (.call 2 105 [(.t 16)]),
 oP 5 (.move (.t 17))])
 (.seq (.seq (.region 0 [oP 18 (.move (.t 1)),
 oP 19 (.lenS (.t 18)),
 oP 20 (.move (.c (.int .i64 0)))])
 (.block 0 (.loop (.seq (.region 0 [oP 21 (.bin .lss (.t 20) (.t 19))])
 (.seq (.cond (.t 21) (.skip)
 (.exit 0))
 (.seq (.block 1 (.seq (.region 0 [oP 22 (.move (.t 20)),
 oP 23 (.idxSl 1 (.t 18) (.t 20)),
 oQ 24 (.load false 1 (.t 23)),
 oP 6 (.move (.t 22)),
 oP 7 (.move (.t 24))])
 (.seq (.seq (.region 0 [oP 25 (.move (.t 0)),
 oP 26 (.move (.t 6)),
 oP 27 (.idxSl 6 (.t 25) (.t 26)),
 oP 28 (.fieldAddr 1 (.t 27)),
 oQ 29 (.load true 2 (.t 28)),
 oP 30 (.move (.t 7)),
 oQ 31 (.call 1 106 [(.t 29), (.t 30)]),
 oP 32 (.un .not (.t 31))])
 (.cond (.t 32) (.seq (.region 0 [oP 4 (.move (.c (.bool false)))])
 (.ret))
 (.skip)))
 (.seq (.region 0 [oP 33 (.move (.t 0)),
 oP 34 (.move (.t 6)),
 oP 35 (.idxSl 6 (.t 33) (.t 34)),
 oP 36 (.fieldAddr 0 (.t 35)),
 oQ 37 (.load false 1 (.t 36)),
 oP 8 (.move (.t 37))])
 (.seq (.region 0 [oP 38 (.move (.t 8)),
 oP 39 (.bin .neq (.t 38) (.c (.int .i64 (-1))))])
 (.cond (.t 39) (.region 0 [oP 40 (.move (.t 5)),
 oP 41 (.move (.t 8)),
 oP 42 (.idxSl 1 (.t 40) (.t 41)),
 oQ 43 (.load false 1 (.t 42)),
 oP 44 (.move (.t 7)),
 oP 45 (.bin .sub (.t 43) (.t 44)),
 oP 46 (.idxSl 1 (.t 40) (.t 41)),
 ⟨none, .store 1 (.t 46) (.t 45), none, none, []⟩])
 (.skip)))))))
 (.region 0 [oP 47 (.bin .add (.t 20) (.c (.int .i64 1))),
 oP 20 (.move (.t 47))])))))))
 (.seq (.seq (.region 0 [oP 48 (.move (.t 5)),
 oP 49 (.lenS (.t 48)),
 oP 50 (.move (.c (.int .i64 0)))])
 (.block 2 (.loop (.seq (.region 0 [oP 51 (.bin .lss (.t 50) (.t 49))])
 (.seq (.cond (.t 51) (.skip)
 (.exit 2))
 (.seq (.block 3 (.seq (.region 0 [oP 52 (.move (.t 50)),
 oP 53 (.idxSl 1 (.t 48) (.t 50)),
 oQ 54 (.load false 1 (.t 53)),
 oP 9 (.move (.t 52)),
 oP 10 (.move (.t 54))])
 (.seq (.region 0 [oP 55 (.move (.t 0)),
 oP 56 (.move (.t 9)),
 oQ 57 (.call 1 107 [(.t 55), (.t 56)]),
 oP 58 (.move (.t 10)),
 oQ 59 (.call 1 106 [(.t 57), (.t 58)]),
 oP 60 (.un .not (.t 59))])
 (.cond (.t 60) (.seq (.region 0 [oP 4 (.move (.c (.bool false)))])
 (.ret))
 (.skip)))))
 (.region 0 [oP 61 (.bin .add (.t 50) (.c (.int .i64 1))),
 oP 50 (.move (.t 61))])))))))
 (.seq (.region 0 [oP 4 (.move (.c (.bool true)))])
 (.ret))))))⟩
/-- almadraba/cuts.fitPart -/
def f69 : AFn := ⟨17, [.tmp 4],
 .seq (.region 0 [oP 4 (.move (.c (.int .i64 0)))])
 (.seq (.region 0 [oP 6 (.move (.t 0)),
 oQ 7 (.call 1 52 [(.t 6)]),
 oP 5 (.move (.t 7))])
 (.seq (.seq (.region 0 [oP 8 (.move (.t 5)),
 oP 9 (.bin .eql (.t 8) (.c (.int .i64 0))),
 oP 10 (.move (.t 9)),
 oG 11 10 true (.move (.t 0)),
 oG 12 10 true (.move (.t 1)),
 ⟨(some 13), .call 1 108 [(.t 11), (.t 12)], (some (10, true)), none, []⟩,
 oG 14 10 true (.un .not (.t 13)),
 oP 15 (.pick (.t 10) (.t 14) (.c (.bool false)))])
 (.cond (.t 15) (.seq (.region 0 [oP 4 (.move (.c (.int .i64 1)))])
 (.ret))
 (.skip)))
 (.seq (.region 0 [oP 16 (.move (.t 5)),
 oP 4 (.move (.t 16))])
 (.ret))))⟩
/-- (almadraba/cuts.table).canCut -/
def f70 : AFn := ⟨8, [.tmp 4],
 .seq (.region 0 [oQ 3 (.box (.t 1)),
 oP 4 (.move (.c (.bool false)))])
 (.seq (.region 0 [oP 5 (.move (.t 0)),
 oP 6 (.mkFn 110 [] [(.t 3)]),
 oQ 7 (.call 3 109 [(.t 5), (.t 6)]),
 oP 4 (.move (.t 7))])
 (.ret))⟩
/-- (almadraba/cuts.table).lost -/
def f71 : AFn := ⟨25, [.cell true 8 4],
 .seq (.region 0 [oQ 4 (.alloc [.int .i64 0, .int .i64 0, .int .i64 0, .int .i64 0, .int .i64 0, .int .i64 0, .int .i64 0, .int .i64 0])])
 (.seq (.region 0 [oP 8 (.move (.t 1)),
 oQ 9 (.call 1 77 [(.t 8)]),
 oQ 5 (.alloc [.int .i64 0, .int .i64 0, .int .i64 0, .int .i64 0, .int .i64 0, .int .i64 0, .int .i64 0, .int .i64 0]),
 ⟨none, .store 8 (.t 5) (.t 9), none, none, []⟩])
 (.seq (.seq (.region 0 [oP 10 (.move (.t 0)),
 oP 11 (.lenS (.t 10)),
 oP 12 (.move (.c (.int .i64 0)))])
 (.block 0 (.loop (.seq (.region 0 [oP 13 (.bin .lss (.t 12) (.t 11))])
 (.seq (.cond (.t 13) (.skip)
 (.exit 0))
 (.seq (.block 1 (.seq (.region 0 [oP 14 (.move (.t 12)),
 oP 15 (.idxSl 6 (.t 10) (.t 12)),
 oQ 16 (.load true 6 (.t 15)),
 oQ 7 (.alloc [.int .i64 0, .int .i64 0, .int .i64 0, .int .i64 0, .int .i64 0, .int .i64 0]),
 oP 6 (.move (.t 14)),
 ⟨none, .store 6 (.t 7) (.t 16), none, none, []⟩])
 (.seq (.region 0 [oP 17 (.fieldAddr 0 (.t 7)),
 oQ 18 (.load false 1 (.t 17)),
 oP 19 (.move (.t 1)),
 oP 20 (.bin .eql (.t 18) (.t 19))])
 (.cond (.t 20) (.region 0 [oP 21 (.move (.t 6)),
 oP 22 (.idxArr 8 1 (.t 5) (.t 21)),
 ⟨none, .store 1 (.t 22) (.c (.int .i64 (-1))), none, none, []⟩])
 (.skip)))))
 (.region 0 [oP 23 (.bin .add (.t 12) (.c (.int .i64 1))),
 oP 12 (.move (.t 23))])))))))
 (.seq (.region 0 [oQ 24 (.load true 8 (.t 5)),
 ⟨none, .store 8 (.t 4) (.t 24), none, none, []⟩])
 (.ret))))⟩
end Go.Proofs.Yteonklnjchefiaa.T
