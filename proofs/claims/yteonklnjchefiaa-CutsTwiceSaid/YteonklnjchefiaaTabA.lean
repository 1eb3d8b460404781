/-
The code of functions of the seat, as the abstract machine has it (printed by a tool of ours off the dump).
-/
import Derived.Test.YteonklnjchefiaaAmX
namespace Go.Proofs.Yteonklnjchefiaa.T
open Go Go.Am
abbrev oP (n : Nat) (p : POp) : AOper := ⟨some n, .p p, none, none, []⟩
abbrev oQ (n : Nat) (p : AOp) : AOper := ⟨some n, p, none, none, []⟩
abbrev oG (n m : Nat) (b : Bool) (p : POp) : AOper := ⟨some n, .p p, some (m, b), none, []⟩
/-- gosem.cut.init -/
def f2 : AFn := ⟨1, [],
 .region 0 [oQ 0 (.call 1 1 [])]⟩
/-- almadraba/almadrabalaw07.CutsEach -/
def f3 : AFn := ⟨197, [.tmp 6],
 .seq (.region 0 [oQ 5 (.box (.t 2)),
 oP 6 (.move (.c (.bool false)))])
 (.seq (.seq (.region 0 [oP 23 (.move (.t 0)),
 oQ 24 (.call 1 16 [(.t 23)]),
 oP 25 (.un .not (.t 24)),
 oP 26 (.move (.t 25)),
 oG 27 26 false (.move (.t 1)),
 oG 28 26 false (.lenS (.t 27)),
 oG 29 26 false (.bin .gtr (.t 28) (.c (.int .i64 40))),
 oP 30 (.pick (.t 26) (.c (.bool true)) (.t 29)),
 oP 31 (.move (.t 30)),
 oG 32 31 false (.move (.t 0)),
 oG 33 31 false (.move (.t 1)),
 ⟨(some 34), .call 1 17 [(.t 32), (.t 33)], (some (31, false)), none, []⟩,
 oG 35 31 false (.un .not (.t 34)),
 oP 36 (.pick (.t 31) (.c (.bool true)) (.t 35))])
 (.cond (.t 36) (.seq (.region 0 [oQ 37 (.call 1 18 []),
 oP 6 (.move (.t 37))])
 (.ret))
 (.skip)))
 (.seq (.region 0 [oP 39 (.move (.t 0)),
 oQ 40 (.call 1 19 [(.t 39)]),
 oP 38 (.move (.t 40)),
 oP 41 (.extract (.t 38) 0),
 oP 42 (.extract (.t 38) 1),
 oP 7 (.move (.t 41)),
 oP 8 (.move (.t 42))])
 (.seq (.region 0 [oP 44 (.move (.t 0)),
 oQ 45 (.call 1 20 [(.t 44)]),
 oP 43 (.move (.t 45)),
 oP 46 (.extract (.t 43) 0),
 oP 47 (.extract (.t 43) 1),
 oQ 9 (.alloc [.int .i64 0, .int .i64 0]),
 ⟨none, .store 2 (.t 9) (.t 46), none, none, []⟩,
 oP 10 (.move (.t 47))])
 (.seq (.region 0 [oP 49 (.move (.t 0)),
 oQ 50 (.buildSlice 1 0 [.int .i64 0] []),
 oP 51 (.move (.t 1)),
 oQ 52 (.append false 1 8 (.t 50) (.t 51)),
 oQ 53 (.call 1 21 [(.t 49), (.t 52)]),
 oP 48 (.move (.t 53)),
 oP 54 (.extract (.t 48) 0),
 oP 55 (.extract (.t 48) 1),
 oP 11 (.move (.t 54)),
 oP 12 (.move (.t 55))])
 (.seq (.seq (.region 0 [oP 56 (.move (.t 8)),
 oP 57 (.un .not (.t 56)),
 oP 58 (.move (.t 57)),
 oG 59 58 false (.move (.t 10)),
 oG 60 58 false (.bin .neq (.t 59) (.c (.int .i64 0))),
 oP 61 (.pick (.t 58) (.c (.bool true)) (.t 60)),
 oP 62 (.move (.t 61)),
 oG 63 62 false (.move (.t 12)),
 oG 64 62 false (.bin .neq (.t 63) (.c (.int .i64 0))),
 oP 65 (.pick (.t 62) (.c (.bool true)) (.t 64)),
 oP 66 (.move (.t 65)),
 oG 67 66 false (.move (.t 11)),
 oG 68 66 false (.un .not (.t 67)),
 oP 69 (.pick (.t 66) (.c (.bool true)) (.t 68))])
 (.cond (.t 69) (.seq (.region 0 [oP 6 (.move (.c (.bool false)))])
 (.ret))
 (.skip)))
 (.seq (.region 0 [oP 13 (.move (.c (.int .i64 0)))])
 (.seq (.seq (.region 0 [oP 14 (.move (.c (.int .i64 0)))])
 (.block 0 (.loop (.seq (.seq (.region 0 [oP 70 (.move (.t 14)),
 oP 71 (.move (.t 0)),
 oP 72 (.lenS (.t 71)),
 oP 73 (.bin .lss (.t 70) (.t 72))])
 (.cond (.t 73) (.skip)
 (.exit 0)))
 (.seq (.block 1 (.seq (.seq (.region 0 [oP 76 (.move (.t 7)),
 oP 77 (.move (.t 14)),
 oP 78 (.idxSl 2 (.t 76) (.t 77)),
 oQ 79 (.load true 2 (.t 78)),
 oP 80 (.move (.t 1)),
 oP 81 (.move (.t 14)),
 oP 82 (.idxSl 1 (.t 80) (.t 81)),
 oQ 83 (.load false 1 (.t 82)),
 oQ 84 (.call 1 22 [(.t 79), (.t 83)]),
 oP 85 (.un .not (.t 84))])
 (.cond (.t 85) (.seq (.region 0 [oP 6 (.move (.c (.bool false)))])
 (.ret))
 (.skip)))
 (.seq (.seq (.region 0 [oP 86 (.move (.t 0)),
 oP 87 (.move (.t 14)),
 oP 88 (.idxSl 6 (.t 86) (.t 87)),
 oP 89 (.fieldAddr 0 (.t 88)),
 oQ 90 (.load false 1 (.t 89)),
 oP 91 (.bin .eql (.t 90) (.c (.int .i64 (-1))))])
 (.cond (.t 91) (.region 0 [oP 92 (.move (.t 13)),
 oP 93 (.move (.t 1)),
 oP 94 (.move (.t 14)),
 oP 95 (.idxSl 1 (.t 93) (.t 94)),
 oQ 96 (.load false 1 (.t 95)),
 oP 97 (.bin .add (.t 92) (.t 96)),
 oP 13 (.move (.t 97))])
 (.skip)))
 (.seq (.region 0 [oP 99 (.move (.t 0)),
 oP 100 (.move (.t 14)),
 oQ 101 (.call 1 23 [(.t 99), (.t 100)]),
 oP 98 (.move (.t 101)),
 oP 102 (.extract (.t 98) 0),
 oP 103 (.extract (.t 98) 1),
 oQ 15 (.alloc [.int .i64 0, .int .i64 0]),
 ⟨none, .store 2 (.t 15) (.t 102), none, none, []⟩,
 oP 16 (.move (.t 103))])
 (.seq (.region 0 [oP 104 (.move (.t 0)),
 oP 105 (.move (.t 14)),
 oQ 106 (.call 1 24 [(.t 104), (.t 105)])])
 (.cond (.t 106) (.seq (.region 0 [oP 107 (.move (.t 16)),
 oP 108 (.bin .neq (.t 107) (.c (.int .i64 0))),
 oP 109 (.move (.t 108)),
 ⟨(some 110), .load true 2 (.t 15), (some (109, false)), none, []⟩,
 oG 111 109 false (.move (.t 0)),
 oG 112 109 false (.move (.t 1)),
 oG 113 109 false (.move (.t 14)),
 ⟨(some 114), .call 1 25 [(.t 111), (.t 112), (.t 113)], (some (109, false)), none, []⟩,
 ⟨(some 115), .call 1 22 [(.t 110), (.t 114)], (some (109, false)), none, []⟩,
 oG 116 109 false (.un .not (.t 115)),
 oP 117 (.pick (.t 109) (.c (.bool true)) (.t 116))])
 (.cond (.t 117) (.seq (.region 0 [oP 6 (.move (.c (.bool false)))])
 (.ret))
 (.skip)))
 (.seq (.region 0 [oP 118 (.move (.t 16)),
 oP 119 (.bin .neq (.t 118) (.c (.int .i64 1)))])
 (.cond (.t 119) (.seq (.region 0 [oP 6 (.move (.c (.bool false)))])
 (.ret))
 (.skip)))))))))
 (.region 0 [oP 74 (.move (.t 14)),
 oP 75 (.bin .add (.t 74) (.c (.int .i64 1))),
 oP 14 (.move (.t 75))]))))))
 (.seq (.seq (.region 0 [oQ 120 (.load true 2 (.t 9)),
 oP 121 (.move (.t 13)),
 oQ 122 (.call 1 22 [(.t 120), (.t 121)]),
 oP 123 (.un .not (.t 122))])
 (.cond (.t 123) (.seq (.region 0 [oP 6 (.move (.c (.bool false)))])
 (.ret))
 (.skip)))
 (.seq (.seq (.region 0 [oP 124 (.move (.t 0)),
 oQ 125 (.load true 2 (.t 5)),
 oQ 126 (.call 1 26 [(.t 124), (.t 125)]),
 oP 127 (.un .not (.t 126))])
 (.cond (.t 127) (.seq (.region 0 [oQ 128 (.call 1 18 []),
 oP 6 (.move (.t 128))])
 (.ret))
 (.skip)))
 (.seq (.region 0 [oP 130 (.move (.t 0)),
 oQ 131 (.buildSlice 1 0 [.int .i64 0] []),
 oP 132 (.fieldAddr 0 (.t 5)),
 oQ 133 (.load false 1 (.t 132)),
 oQ 134 (.append false 1 8 (.t 131) (.t 133)),
 oQ 135 (.call 1 27 [(.t 130), (.t 134)]),
 oP 129 (.move (.t 135)),
 oP 136 (.extract (.t 129) 0),
 oP 137 (.extract (.t 129) 1),
 oQ 17 (.alloc [.int .i64 0, .int .i64 0]),
 ⟨none, .store 2 (.t 17) (.t 136), none, none, []⟩,
 oP 18 (.move (.t 137))])
 (.seq (.region 4 [oP 139 (.move (.t 0)),
 ⟨(some 140), .buildSlice 1 0 [.int .i64 0] [], none, (some 0), []⟩,
 oP 141 (.fieldAddr 0 (.t 5)),
 ⟨(some 142), .load false 1 (.t 141), none, none, [0, 1, 2, 3]⟩,
 ⟨(some 143), .append true 1 8 (.t 140) (.t 142), none, (some 1), [2, 3]⟩,
 ⟨(some 144), .buildSlice 1 0 [.int .i64 0] [], none, (some 2), []⟩,
 oP 145 (.fieldAddr 1 (.t 5)),
 ⟨(some 146), .load false 1 (.t 145), none, none, [0, 1, 2, 3]⟩,
 ⟨(some 147), .append true 1 8 (.t 144) (.t 146), none, (some 3), []⟩,
 oQ 148 (.call 1 28 [(.t 139), (.t 143), (.t 147)]),
 oP 138 (.move (.t 148)),
 oP 149 (.extract (.t 138) 0),
 oP 150 (.extract (.t 138) 1),
 oP 19 (.move (.t 149)),
 oP 20 (.move (.t 150))])
 (.seq (.region 0 [oP 151 (.move (.t 0)),
 oP 152 (.fieldAddr 0 (.t 5)),
 oQ 153 (.load false 1 (.t 152)),
 oP 154 (.move (.t 1)),
 oQ 155 (.call 1 29 [(.t 151), (.t 153), (.t 154)]),
 oP 156 (.move (.t 0)),
 oP 157 (.fieldAddr 1 (.t 5)),
 oQ 158 (.load false 1 (.t 157)),
 oP 159 (.move (.t 1)),
 oQ 160 (.call 1 29 [(.t 156), (.t 158), (.t 159)]),
 oP 21 (.move (.t 155)),
 oP 22 (.move (.t 160))])
 (.seq (.region 0 [oP 161 (.move (.t 18)),
 oP 162 (.bin .eql (.t 161) (.c (.int .i64 0))),
 oP 163 (.move (.t 162)),
 oG 164 163 true (.move (.t 20)),
 oG 165 163 true (.bin .eql (.t 164) (.c (.int .i64 0))),
 oP 166 (.pick (.t 163) (.t 165) (.c (.bool false))),
 oP 167 (.move (.t 166)),
 ⟨(some 168), .load true 2 (.t 17), (some (167, true)), none, []⟩,
 oG 169 167 true (.move (.t 21)),
 ⟨(some 170), .call 1 22 [(.t 168), (.t 169)], (some (167, true)), none, []⟩,
 oP 171 (.pick (.t 167) (.t 170) (.c (.bool false))),
 oP 172 (.move (.t 171)),
 oG 173 172 true (.move (.t 19)),
 ⟨(some 174), .call 1 30 [(.t 173), (.c (.int .i64 1)), (.c (.int .i64 3))], (some (172, true)), none, []⟩,
 oP 175 (.pick (.t 172) (.t 174) (.c (.bool false))),
 oP 176 (.move (.t 175)),
 oG 177 176 true (.move (.t 19)),
 oG 178 176 true (.bin .neq (.t 177) (.c (.int .i64 1))),
 oG 179 176 true (.move (.t 178)),
 oG 180 179 false (.move (.t 21)),
 oG 181 179 false (.move (.t 22)),
 oG 182 179 false (.bin .gtr (.t 180) (.t 181)),
 oG 183 176 true (.pick (.t 179) (.c (.bool true)) (.t 182)),
 oP 184 (.pick (.t 176) (.t 183) (.c (.bool false))),
 oP 185 (.move (.t 184)),
 oG 186 185 true (.move (.t 19)),
 oG 187 185 true (.bin .neq (.t 186) (.c (.int .i64 2))),
 oG 188 185 true (.move (.t 187)),
 oG 189 188 false (.move (.t 21)),
 oG 190 188 false (.move (.t 22)),
 oG 191 188 false (.bin .leq (.t 189) (.t 190)),
 oG 192 185 true (.pick (.t 188) (.c (.bool true)) (.t 191)),
 oP 193 (.pick (.t 185) (.t 192) (.c (.bool false))),
 oP 194 (.move (.t 193)),
 ⟨(some 195), .call 1 18 [], (some (194, true)), none, []⟩,
 oP 196 (.pick (.t 194) (.t 195) (.c (.bool false))),
 oP 6 (.move (.t 196))])
 (.ret))))))))))))))⟩
/-- almadraba/almadrabalaw07.CutsEnds -/
def f4 : AFn := ⟨109, [.tmp 4],
 .seq (.region 0 [oP 4 (.move (.c (.bool false)))])
 (.seq (.seq (.region 0 [oP 10 (.move (.t 0)),
 oQ 11 (.call 1 16 [(.t 10)]),
 oP 12 (.un .not (.t 11)),
 oP 13 (.move (.t 12)),
 oG 14 13 false (.move (.t 0)),
 oG 15 13 false (.move (.t 1)),
 ⟨(some 16), .call 1 31 [(.t 14), (.t 15)], (some (13, false)), none, []⟩,
 oG 17 13 false (.un .not (.t 16)),
 oP 18 (.pick (.t 13) (.c (.bool true)) (.t 17))])
 (.cond (.t 18) (.seq (.region 0 [oQ 19 (.call 1 18 []),
 oP 4 (.move (.t 19))])
 (.ret))
 (.skip)))
 (.seq (.region 0 [oP 21 (.move (.t 0)),
 oP 22 (.move (.t 1)),
 oQ 23 (.call 1 32 [(.t 21), (.t 22)]),
 oP 20 (.move (.t 23)),
 oP 24 (.extract (.t 20) 0),
 oP 25 (.extract (.t 20) 1),
 oQ 5 (.alloc [.int .i64 0, .int .i64 0]),
 ⟨none, .store 2 (.t 5) (.t 24), none, none, []⟩,
 oP 6 (.move (.t 25))])
 (.seq (.seq (.region 0 [oP 26 (.move (.t 6)),
 oQ 27 (.call 1 33 [(.t 26)]),
 oP 28 (.un .not (.t 27)),
 oP 29 (.move (.t 28)),
 oG 30 29 false (.move (.t 6)),
 oG 31 29 false (.bin .eql (.t 30) (.c (.int .i64 0))),
 oG 32 29 false (.move (.t 0)),
 ⟨(some 33), .call 1 34 [(.t 32)], (some (29, false)), none, []⟩,
 oG 34 29 false (.eqB true (.t 31) (.t 33)),
 oP 35 (.pick (.t 29) (.c (.bool true)) (.t 34))])
 (.cond (.t 35) (.seq (.region 0 [oP 4 (.move (.c (.bool false)))])
 (.ret))
 (.skip)))
 (.seq (.seq (.region 0 [oP 36 (.move (.t 6)),
 oP 37 (.bin .neq (.t 36) (.c (.int .i64 0)))])
 (.cond (.t 37) (.seq (.region 0 [oQ 38 (.call 1 18 []),
 oP 4 (.move (.t 38))])
 (.ret))
 (.skip)))
 (.seq (.seq (.region 0 [oQ 39 (.load true 2 (.t 5)),
 oP 40 (.move (.t 0)),
 oP 41 (.move (.t 1)),
 oP 42 (.idxSl 6 (.t 40) (.t 41)),
 oP 43 (.fieldAddr 1 (.t 42)),
 oQ 44 (.load true 2 (.t 43)),
 oQ 45 (.call 1 35 [(.t 39), (.t 44)]),
 oP 46 (.un .not (.t 45))])
 (.cond (.t 46) (.seq (.region 0 [oP 4 (.move (.c (.bool false)))])
 (.ret))
 (.skip)))
 (.seq (.seq (.region 0 [oP 47 (.fieldAddr 0 (.t 5)),
 oQ 48 (.load false 1 (.t 47)),
 oP 49 (.bin .sub (.t 48) (.c (.int .i64 1))),
 oP 7 (.move (.t 49))])
 (.block 0 (.loop (.seq (.seq (.region 0 [oP 50 (.move (.t 7)),
 oP 51 (.fieldAddr 1 (.t 5)),
 oQ 52 (.load false 1 (.t 51)),
 oP 53 (.bin .add (.t 52) (.c (.int .i64 1))),
 oP 54 (.bin .leq (.t 50) (.t 53))])
 (.cond (.t 54) (.skip)
 (.exit 0)))
 (.seq (.block 1 (.seq (.seq (.region 0 [oP 57 (.move (.t 7)),
 oP 58 (.fieldAddr 0 (.t 5)),
 oQ 59 (.load false 1 (.t 58)),
 oP 60 (.bin .gtr (.t 57) (.t 59)),
 oP 61 (.move (.t 60)),
 oG 62 61 true (.move (.t 7)),
 oG 63 61 true (.fieldAddr 1 (.t 5)),
 ⟨(some 64), .load false 1 (.t 63), (some (61, true)), none, []⟩,
 oG 65 61 true (.bin .lss (.t 62) (.t 64)),
 oP 66 (.pick (.t 61) (.t 65) (.c (.bool false))),
 oP 67 (.move (.t 66)),
 oG 68 67 false (.move (.t 0)),
 oG 69 67 false (.move (.t 1)),
 oG 70 67 false (.idxSl 6 (.t 68) (.t 69)),
 oG 71 67 false (.fieldAddr 1 (.t 70)),
 ⟨(some 72), .load true 2 (.t 71), (some (67, false)), none, []⟩,
 oG 73 67 false (.move (.t 7)),
 ⟨(some 74), .call 1 22 [(.t 72), (.t 73)], (some (67, false)), none, []⟩,
 oG 75 67 false (.un .not (.t 74)),
 oP 76 (.pick (.t 67) (.c (.bool true)) (.t 75))])
 (.cond (.t 76) (.exit 1)
 (.skip)))
 (.seq (.region 0 [oP 78 (.move (.t 0)),
 oP 79 (.move (.t 1)),
 oP 80 (.move (.t 7)),
 oQ 81 (.call 1 36 [(.t 78), (.t 79), (.t 80)]),
 oP 82 (.move (.t 1)),
 oQ 83 (.call 1 32 [(.t 81), (.t 82)]),
 oP 77 (.move (.t 83)),
 oP 84 (.extract (.t 77) 0),
 oP 85 (.extract (.t 77) 1),
 oQ 8 (.alloc [.int .i64 0, .int .i64 0]),
 ⟨none, .store 2 (.t 8) (.t 84), none, none, []⟩,
 oP 9 (.move (.t 85))])
 (.seq (.region 0 [oP 86 (.move (.t 9)),
 oP 87 (.bin .eql (.t 86) (.c (.int .i64 0))),
 oQ 88 (.load true 2 (.t 5)),
 oP 89 (.move (.t 7)),
 oQ 90 (.call 1 22 [(.t 88), (.t 89)]),
 oP 91 (.eqB true (.t 87) (.t 90)),
 oP 92 (.move (.t 91)),
 oG 93 92 false (.move (.t 9)),
 ⟨(some 94), .call 1 33 [(.t 93)], (some (92, false)), none, []⟩,
 oG 95 92 false (.un .not (.t 94)),
 oP 96 (.pick (.t 92) (.c (.bool true)) (.t 95)),
 oP 97 (.move (.t 96)),
 oG 98 97 false (.move (.t 9)),
 oG 99 97 false (.bin .eql (.t 98) (.c (.int .i64 0))),
 oG 100 97 false (.move (.t 99)),
 ⟨(some 101), .load true 2 (.t 8), (some (100, true)), none, []⟩,
 oG 102 100 true (.move (.t 7)),
 oG 103 100 true (.move (.t 7)),
 oG 104 100 true (.build [.int .i64 0, .int .i64 0] [(0, 1, (.t 102)), (1, 1, (.t 103))]),
 oG 105 100 true (.eqS true [true, true] (.t 101) (.t 104)),
 oG 106 97 false (.pick (.t 100) (.t 105) (.c (.bool false))),
 oP 107 (.pick (.t 97) (.c (.bool true)) (.t 106))])
 (.cond (.t 107) (.seq (.region 0 [oP 4 (.move (.c (.bool false)))])
 (.ret))
 (.skip))))))
 (.region 0 [oP 55 (.move (.t 7)),
 oP 56 (.bin .add (.t 55) (.c (.int .i64 1))),
 oP 7 (.move (.t 56))]))))))
 (.seq (.region 0 [oQ 108 (.call 1 18 []),
 oP 4 (.move (.t 108))])
 (.ret))))))))⟩
/-- almadraba/almadrabalaw07.CutsClear -/
def f5 : AFn := ⟨142, [.tmp 4],
 .seq (.region 0 [oQ 3 (.box (.t 1)),
 oP 4 (.move (.c (.bool false)))])
 (.seq (.seq (.region 0 [oP 20 (.move (.t 0)),
 oQ 21 (.call 1 16 [(.t 20)]),
 oP 22 (.un .not (.t 21)),
 oP 23 (.move (.t 22)),
 oG 24 23 false (.move (.t 0)),
 oG 25 23 false (.fieldAddr 0 (.t 3)),
 ⟨(some 26), .load false 1 (.t 25), (some (23, false)), none, []⟩,
 ⟨(some 27), .call 1 31 [(.t 24), (.t 26)], (some (23, false)), none, []⟩,
 oG 28 23 false (.un .not (.t 27)),
 oP 29 (.pick (.t 23) (.c (.bool true)) (.t 28))])
 (.cond (.t 29) (.seq (.region 0 [oQ 30 (.call 1 18 []),
 oP 4 (.move (.t 30))])
 (.ret))
 (.skip)))
 (.seq (.region 0 [oP 32 (.move (.t 0)),
 oQ 33 (.load true 4 (.t 3)),
 oQ 34 (.call 1 37 [(.t 32), (.t 33)]),
 oP 31 (.move (.t 34)),
 oP 35 (.extract (.t 31) 0),
 oP 36 (.extract (.t 31) 1),
 oQ 6 (.alloc [.int .i64 0, .int .i64 0]),
 oP 5 (.move (.t 35)),
 ⟨none, .store 2 (.t 6) (.t 36), none, none, []⟩])
 (.seq (.seq (.region 0 [oP 37 (.fieldAddr 2 (.t 3)),
 oQ 38 (.load true 2 (.t 37)),
 oQ 39 (.load true 2 (.t 6)),
 oQ 40 (.call 1 35 [(.t 38), (.t 39)]),
 oP 41 (.un .not (.t 40)),
 oP 42 (.move (.t 41)),
 oG 43 42 false (.move (.t 5)),
 ⟨(some 44), .call 1 16 [(.t 43)], (some (42, false)), none, []⟩,
 oG 45 42 false (.un .not (.t 44)),
 oP 46 (.pick (.t 42) (.c (.bool true)) (.t 45))])
 (.cond (.t 46) (.seq (.region 0 [oQ 47 (.call 1 18 []),
 oP 4 (.move (.t 47))])
 (.ret))
 (.skip)))
 (.seq (.region 0 [oP 49 (.move (.t 0)),
 oQ 50 (.call 1 38 [(.t 49)]),
 oP 48 (.move (.t 50)),
 oP 51 (.extract (.t 48) 0),
 oP 52 (.extract (.t 48) 1),
 oP 7 (.move (.t 51)),
 oP 8 (.move (.t 52))])
 (.seq (.region 0 [oP 54 (.move (.t 5)),
 oQ 55 (.call 1 38 [(.t 54)]),
 oP 53 (.move (.t 55)),
 oP 56 (.extract (.t 53) 0),
 oP 57 (.extract (.t 53) 1),
 oP 9 (.move (.t 56)),
 oP 10 (.move (.t 57))])
 (.seq (.seq (.region 0 [oP 58 (.move (.t 8)),
 oP 59 (.un .not (.t 58)),
 oP 60 (.move (.t 59)),
 oG 61 60 false (.move (.t 10)),
 oG 62 60 false (.un .not (.t 61)),
 oP 63 (.pick (.t 60) (.c (.bool true)) (.t 62)),
 oP 64 (.move (.t 63)),
 oG 65 64 false (.move (.t 7)),
 oG 66 64 false (.bin .lss (.t 65) (.c (.int .i64 0))),
 oG 67 64 false (.move (.t 66)),
 oG 68 67 true (.move (.t 9)),
 oG 69 67 true (.bin .geq (.t 68) (.c (.int .i64 0))),
 oG 70 64 false (.pick (.t 67) (.t 69) (.c (.bool false))),
 oP 71 (.pick (.t 64) (.c (.bool true)) (.t 70)),
 oP 72 (.move (.t 71)),
 oG 73 72 false (.move (.t 9)),
 oG 74 72 false (.bin .geq (.t 73) (.c (.int .i64 0))),
 oG 75 72 false (.move (.t 74)),
 oG 76 75 true (.move (.t 9)),
 oG 77 75 true (.move (.t 7)),
 oG 78 75 true (.bin .lss (.t 76) (.t 77)),
 oG 79 72 false (.pick (.t 75) (.t 78) (.c (.bool false))),
 oP 80 (.pick (.t 72) (.c (.bool true)) (.t 79))])
 (.cond (.t 80) (.seq (.region 0 [oP 4 (.move (.c (.bool false)))])
 (.ret))
 (.skip)))
 (.seq (.seq (.region 0 [oP 81 (.move (.t 5)),
 oQ 82 (.call 1 34 [(.t 81)]),
 oP 83 (.un .not (.t 82))])
 (.cond (.t 83) (.seq (.region 0 [oQ 84 (.call 1 18 []),
 oP 4 (.move (.t 84))])
 (.ret))
 (.skip)))
 (.seq (.region 0 [oP 86 (.move (.t 0)),
 oQ 87 (.call 1 19 [(.t 86)]),
 oP 85 (.move (.t 87)),
 oP 88 (.extract (.t 85) 0),
 oP 89 (.extract (.t 85) 1),
 oP 11 (.move (.t 88)),
 oP 12 (.move (.t 89))])
 (.seq (.region 0 [oP 91 (.move (.t 5)),
 oQ 92 (.call 1 19 [(.t 91)]),
 oP 90 (.move (.t 92)),
 oP 93 (.extract (.t 90) 0),
 oP 94 (.extract (.t 90) 1),
 oP 13 (.move (.t 93)),
 oP 14 (.move (.t 94))])
 (.seq (.region 0 [oP 96 (.move (.t 0)),
 oQ 97 (.call 1 20 [(.t 96)]),
 oP 95 (.move (.t 97)),
 oP 98 (.extract (.t 95) 0),
 oP 99 (.extract (.t 95) 1),
 oQ 15 (.alloc [.int .i64 0, .int .i64 0]),
 ⟨none, .store 2 (.t 15) (.t 98), none, none, []⟩,
 oP 16 (.move (.t 99))])
 (.seq (.region 0 [oP 101 (.move (.t 5)),
 oQ 102 (.call 1 20 [(.t 101)]),
 oP 100 (.move (.t 102)),
 oP 103 (.extract (.t 100) 0),
 oP 104 (.extract (.t 100) 1),
 oQ 17 (.alloc [.int .i64 0, .int .i64 0]),
 ⟨none, .store 2 (.t 17) (.t 103), none, none, []⟩,
 oP 18 (.move (.t 104))])
 (.seq (.seq (.region 0 [oP 105 (.move (.t 12)),
 oP 106 (.un .not (.t 105)),
 oP 107 (.move (.t 106)),
 oG 108 107 false (.move (.t 14)),
 oG 109 107 false (.un .not (.t 108)),
 oP 110 (.pick (.t 107) (.c (.bool true)) (.t 109)),
 oP 111 (.move (.t 110)),
 oG 112 111 false (.move (.t 16)),
 oG 113 111 false (.bin .neq (.t 112) (.c (.int .i64 0))),
 oP 114 (.pick (.t 111) (.c (.bool true)) (.t 113)),
 oP 115 (.move (.t 114)),
 oG 116 115 false (.move (.t 18)),
 oG 117 115 false (.bin .neq (.t 116) (.c (.int .i64 0))),
 oP 118 (.pick (.t 115) (.c (.bool true)) (.t 117)),
 oP 119 (.move (.t 118)),
 ⟨(some 120), .load true 2 (.t 17), (some (119, false)), none, []⟩,
 ⟨(some 121), .load true 2 (.t 15), (some (119, false)), none, []⟩,
 ⟨(some 122), .call 1 35 [(.t 120), (.t 121)], (some (119, false)), none, []⟩,
 oG 123 119 false (.un .not (.t 122)),
 oP 124 (.pick (.t 119) (.c (.bool true)) (.t 123))])
 (.cond (.t 124) (.seq (.region 0 [oP 4 (.move (.c (.bool false)))])
 (.ret))
 (.skip)))
 (.seq (.seq (.region 0 [oP 19 (.move (.c (.int .i64 0)))])
 (.block 0 (.loop (.seq (.seq (.region 0 [oP 125 (.move (.t 19)),
 oP 126 (.move (.t 0)),
 oP 127 (.lenS (.t 126)),
 oP 128 (.bin .lss (.t 125) (.t 127))])
 (.cond (.t 128) (.skip)
 (.exit 0)))
 (.seq (.block 1 (.seq (.region 0 [oP 131 (.move (.t 13)),
 oP 132 (.move (.t 19)),
 oP 133 (.idxSl 2 (.t 131) (.t 132)),
 oQ 134 (.load true 2 (.t 133)),
 oP 135 (.move (.t 11)),
 oP 136 (.move (.t 19)),
 oP 137 (.idxSl 2 (.t 135) (.t 136)),
 oQ 138 (.load true 2 (.t 137)),
 oQ 139 (.call 1 35 [(.t 134), (.t 138)]),
 oP 140 (.un .not (.t 139))])
 (.cond (.t 140) (.seq (.region 0 [oP 4 (.move (.c (.bool false)))])
 (.ret))
 (.skip))))
 (.region 0 [oP 129 (.move (.t 19)),
 oP 130 (.bin .add (.t 129) (.c (.int .i64 1))),
 oP 19 (.move (.t 130))]))))))
 (.seq (.region 0 [oQ 141 (.call 1 18 []),
 oP 4 (.move (.t 141))])
 (.ret)))))))))))))))⟩
/-- almadraba/almadrabalaw07.CutsChange -/
def f6 : AFn := ⟨147, [.tmp 4],
 .seq (.region 0 [oP 4 (.move (.c (.bool false)))])
 (.seq (.seq (.region 0 [oP 16 (.move (.t 0)),
 oQ 17 (.call 1 16 [(.t 16)]),
 oP 18 (.un .not (.t 17)),
 oP 19 (.move (.t 18)),
 oG 20 19 false (.move (.t 1)),
 oG 21 19 false (.lenS (.t 20)),
 oG 22 19 false (.bin .gtr (.t 21) (.c (.int .i64 40))),
 oP 23 (.pick (.t 19) (.c (.bool true)) (.t 22))])
 (.cond (.t 23) (.seq (.region 0 [oQ 24 (.call 1 18 []),
 oP 4 (.move (.t 24))])
 (.ret))
 (.skip)))
 (.seq (.region 0 [oP 26 (.move (.t 0)),
 oQ 27 (.call 1 38 [(.t 26)]),
 oP 25 (.move (.t 27)),
 oP 28 (.extract (.t 25) 0),
 oP 29 (.extract (.t 25) 1),
 oP 5 (.move (.t 28)),
 oP 6 (.move (.t 29))])
 (.seq (.region 0 [oP 31 (.move (.t 0)),
 oQ 32 (.call 1 39 [(.t 31)]),
 oP 30 (.move (.t 32)),
 oP 33 (.extract (.t 30) 0),
 oP 34 (.extract (.t 30) 1),
 oP 7 (.move (.t 33)),
 oP 8 (.move (.t 34))])
 (.seq (.seq (.region 0 [oP 35 (.move (.t 6)),
 oP 36 (.un .not (.t 35)),
 oP 37 (.move (.t 36)),
 oG 38 37 false (.move (.t 8)),
 oG 39 37 false (.bin .eql (.t 38) (.c (.int .i64 0))),
 oG 40 37 false (.move (.t 5)),
 oG 41 37 false (.bin .geq (.t 40) (.c (.int .i64 0))),
 oG 42 37 false (.eqB true (.t 39) (.t 41)),
 oP 43 (.pick (.t 37) (.c (.bool true)) (.t 42)),
 oP 44 (.move (.t 43)),
 oG 45 44 false (.move (.t 8)),
 ⟨(some 46), .call 1 33 [(.t 45)], (some (44, false)), none, []⟩,
 oG 47 44 false (.un .not (.t 46)),
 oP 48 (.pick (.t 44) (.c (.bool true)) (.t 47)),
 oP 49 (.move (.t 48)),
 oG 50 49 false (.move (.t 5)),
 oG 51 49 false (.bin .eql (.t 50) (.c (.int .i64 0))),
 oG 52 49 false (.move (.t 0)),
 ⟨(some 53), .call 1 34 [(.t 52)], (some (49, false)), none, []⟩,
 oG 54 49 false (.eqB true (.t 51) (.t 53)),
 oP 55 (.pick (.t 49) (.c (.bool true)) (.t 54))])
 (.cond (.t 55) (.seq (.region 0 [oP 4 (.move (.c (.bool false)))])
 (.ret))
 (.skip)))
 (.seq (.seq (.region 0 [oP 56 (.move (.t 8)),
 oP 57 (.bin .eql (.t 56) (.c (.int .i64 0)))])
 (.cond (.t 57) (.seq (.seq (.region 0 [oP 58 (.move (.t 7)),
 oP 59 (.lenS (.t 58)),
 oP 60 (.move (.t 0)),
 oP 61 (.lenS (.t 60)),
 oP 62 (.bin .neq (.t 59) (.t 61)),
 oP 63 (.move (.t 62)),
 oG 64 63 false (.move (.t 0)),
 oG 65 63 false (.move (.t 7)),
 ⟨(some 66), .call 1 40 [(.t 64), (.t 65)], (some (63, false)), none, []⟩,
 oG 67 63 false (.un .not (.t 66)),
 oP 68 (.pick (.t 63) (.c (.bool true)) (.t 67)),
 oP 69 (.move (.t 68)),
 oG 70 69 false (.move (.t 0)),
 oG 71 69 false (.move (.t 7)),
 ⟨(some 72), .call 1 41 [(.t 70), (.t 71)], (some (69, false)), none, []⟩,
 oG 73 69 false (.move (.t 5)),
 oG 74 69 false (.bin .neq (.t 72) (.t 73)),
 oP 75 (.pick (.t 69) (.c (.bool true)) (.t 74))])
 (.cond (.t 75) (.seq (.region 0 [oP 4 (.move (.c (.bool false)))])
 (.ret))
 (.skip)))
 (.seq (.region 0 [oP 76 (.move (.t 0)),
 oQ 77 (.call 1 42 [(.t 76)]),
 oP 9 (.move (.t 77))])
 (.seq (.seq (.region 0 [oP 10 (.move (.c (.int .i64 0)))])
 (.block 0 (.loop (.seq (.seq (.region 0 [oP 78 (.move (.t 10)),
 oP 79 (.move (.t 0)),
 oP 80 (.lenS (.t 79)),
 oP 81 (.bin .lss (.t 78) (.t 80))])
 (.cond (.t 81) (.skip)
 (.exit 0)))
 (.seq (.block 1 (.region 0 [oP 84 (.move (.t 9)),
 oP 85 (.move (.t 10)),
 oP 86 (.move (.t 7)),
 oP 87 (.move (.t 10)),
 oP 88 (.idxSl 1 (.t 86) (.t 87)),
 oQ 89 (.load false 1 (.t 88)),
 oQ 90 (.call 1 36 [(.t 84), (.t 85), (.t 89)]),
 oP 9 (.move (.t 90))]))
 (.region 0 [oP 82 (.move (.t 10)),
 oP 83 (.bin .add (.t 82) (.c (.int .i64 1))),
 oP 10 (.move (.t 83))]))))))
 (.seq (.region 0 [oP 92 (.move (.t 9)),
 oQ 93 (.buildSlice 1 0 [.int .i64 0] []),
 oP 94 (.move (.t 7)),
 oQ 95 (.append false 1 8 (.t 93) (.t 94)),
 oQ 96 (.call 1 21 [(.t 92), (.t 95)]),
 oP 91 (.move (.t 96)),
 oP 97 (.extract (.t 91) 0),
 oP 98 (.extract (.t 91) 1),
 oP 11 (.move (.t 97)),
 oP 12 (.move (.t 98))])
 (.seq (.region 0 [oP 100 (.move (.t 9)),
 oQ 101 (.call 1 43 [(.t 100)]),
 oP 99 (.move (.t 101)),
 oP 102 (.extract (.t 99) 0),
 oP 103 (.extract (.t 99) 1),
 oP 13 (.move (.t 102)),
 oP 14 (.move (.t 103))])
 (.seq (.region 0 [oP 104 (.move (.t 12)),
 oP 105 (.bin .neq (.t 104) (.c (.int .i64 0))),
 oP 106 (.move (.t 105)),
 oG 107 106 false (.move (.t 11)),
 oG 108 106 false (.un .not (.t 107)),
 oP 109 (.pick (.t 106) (.c (.bool true)) (.t 108)),
 oP 110 (.move (.t 109)),
 oG 111 110 false (.move (.t 14)),
 oG 112 110 false (.bin .neq (.t 111) (.c (.int .i64 0))),
 oP 113 (.pick (.t 110) (.c (.bool true)) (.t 112)),
 oP 114 (.move (.t 113)),
 oG 115 114 false (.move (.t 13)),
 oG 116 114 false (.bin .neq (.t 115) (.c (.int .i64 0))),
 oP 117 (.pick (.t 114) (.c (.bool true)) (.t 116))])
 (.cond (.t 117) (.seq (.region 0 [oP 4 (.move (.c (.bool false)))])
 (.ret))
 (.skip))))))))
 (.skip)))
 (.seq (.seq (.region 0 [oP 118 (.move (.t 0)),
 oP 119 (.move (.t 1)),
 oQ 120 (.call 1 40 [(.t 118), (.t 119)]),
 oP 121 (.un .not (.t 120))])
 (.cond (.t 121) (.seq (.region 0 [oQ 122 (.call 1 18 []),
 oP 4 (.move (.t 122))])
 (.ret))
 (.skip)))
 (.seq (.region 0 [oP 123 (.move (.t 0)),
 oP 124 (.move (.t 1)),
 oQ 125 (.call 1 41 [(.t 123), (.t 124)]),
 oP 15 (.move (.t 125))])
 (.seq (.region 0 [oP 126 (.move (.t 8)),
 oP 127 (.bin .eql (.t 126) (.c (.int .i64 0))),
 oP 128 (.move (.t 127)),
 oG 129 128 true (.move (.t 15)),
 oG 130 128 true (.move (.t 5)),
 oG 131 128 true (.bin .geq (.t 129) (.t 130)),
 oP 132 (.pick (.t 128) (.t 131) (.c (.bool false))),
 oP 133 (.move (.t 132)),
 oG 134 133 true (.move (.t 15)),
 oG 135 133 true (.move (.t 5)),
 oG 136 133 true (.bin .gtr (.t 134) (.t 135)),
 oG 137 133 true (.move (.t 136)),
 oG 138 137 false (.move (.t 1)),
 oG 139 137 false (.move (.t 7)),
 ⟨(some 140), .call 1 44 [(.t 138), (.t 139)], (some (137, false)), none, []⟩,
 oG 141 137 false (.un .not (.t 140)),
 oG 142 133 true (.pick (.t 137) (.c (.bool true)) (.t 141)),
 oP 143 (.pick (.t 133) (.t 142) (.c (.bool false))),
 oP 144 (.move (.t 143)),
 ⟨(some 145), .call 1 18 [], (some (144, true)), none, []⟩,
 oP 146 (.pick (.t 144) (.t 145) (.c (.bool false))),
 oP 4 (.move (.t 146))])
 (.ret)))))))))⟩
/-- almadraba/almadrabalaw07.CutsPound -/
def f7 : AFn := ⟨119, [.tmp 4],
 .seq (.region 0 [oP 4 (.move (.c (.bool false)))])
 (.seq (.seq (.region 0 [oP 16 (.move (.t 0)),
 oQ 17 (.call 1 16 [(.t 16)]),
 oP 18 (.un .not (.t 17)),
 oP 19 (.move (.t 18)),
 oG 20 19 false (.move (.t 0)),
 oG 21 19 false (.move (.t 1)),
 ⟨(some 22), .call 1 31 [(.t 20), (.t 21)], (some (19, false)), none, []⟩,
 oG 23 19 false (.un .not (.t 22)),
 oP 24 (.pick (.t 19) (.c (.bool true)) (.t 23))])
 (.cond (.t 24) (.seq (.region 0 [oQ 25 (.call 1 18 []),
 oP 4 (.move (.t 25))])
 (.ret))
 (.skip)))
 (.seq (.region 0 [oP 26 (.move (.t 0)),
 oP 27 (.move (.t 1)),
 oP 28 (.idxSl 6 (.t 26) (.t 27)),
 oP 29 (.fieldAddr 1 (.t 28)),
 oQ 30 (.load true 2 (.t 29)),
 oQ 5 (.alloc [.int .i64 0, .int .i64 0]),
 ⟨none, .store 2 (.t 5) (.t 30), none, none, []⟩])
 (.seq (.region 0 [oP 32 (.move (.t 0)),
 oQ 33 (.call 1 38 [(.t 32)]),
 oP 31 (.move (.t 33)),
 oP 34 (.extract (.t 31) 0),
 oP 35 (.extract (.t 31) 1),
 oP 6 (.move (.t 34)),
 oP 7 (.move (.t 35))])
 (.seq (.region 0 [oP 37 (.move (.t 0)),
 oP 38 (.move (.t 1)),
 oP 39 (.fieldAddr 0 (.t 5)),
 oQ 40 (.load false 1 (.t 39)),
 oP 41 (.fieldAddr 1 (.t 5)),
 oQ 42 (.load false 1 (.t 41)),
 oP 43 (.bin .add (.t 42) (.c (.int .i64 1))),
 oP 44 (.build [.int .i64 0, .int .i64 0] [(0, 1, (.t 40)), (1, 1, (.t 43))]),
 oP 45 (.build [.int .i64 0, .int .i64 0, .int .i64 0, .int .i64 0] [(0, 1, (.t 38)), (2, 2, (.t 44))]),
 oQ 46 (.call 1 37 [(.t 37), (.t 45)]),
 oP 36 (.move (.t 46)),
 oP 47 (.extract (.t 36) 0),
 oP 48 (.extract (.t 36) 1),
 oQ 9 (.alloc [.int .i64 0, .int .i64 0]),
 oP 8 (.move (.t 47)),
 ⟨none, .store 2 (.t 9) (.t 48), none, none, []⟩])
 (.seq (.region 0 [oP 50 (.move (.t 0)),
 oP 51 (.move (.t 1)),
 oP 52 (.fieldAddr 0 (.t 5)),
 oQ 53 (.load false 1 (.t 52)),
 oP 54 (.bin .sub (.t 53) (.c (.int .i64 1))),
 oP 55 (.fieldAddr 1 (.t 5)),
 oQ 56 (.load false 1 (.t 55)),
 oP 57 (.build [.int .i64 0, .int .i64 0] [(0, 1, (.t 54)), (1, 1, (.t 56))]),
 oP 58 (.build [.int .i64 0, .int .i64 0, .int .i64 0, .int .i64 0] [(0, 1, (.t 51)), (2, 2, (.t 57))]),
 oQ 59 (.call 1 37 [(.t 50), (.t 58)]),
 oP 49 (.move (.t 59)),
 oP 60 (.extract (.t 49) 0),
 oP 61 (.extract (.t 49) 1),
 oQ 11 (.alloc [.int .i64 0, .int .i64 0]),
 oP 10 (.move (.t 60)),
 ⟨none, .store 2 (.t 11) (.t 61), none, none, []⟩])
 (.seq (.seq (.region 0 [oP 62 (.move (.t 7)),
 oP 63 (.un .not (.t 62))])
 (.cond (.t 63) (.seq (.region 0 [oP 4 (.move (.c (.bool false)))])
 (.ret))
 (.skip)))
 (.seq (.seq (.region 0 [oP 64 (.move (.t 8)),
 oQ 65 (.call 1 16 [(.t 64)])])
 (.cond (.t 65) (.seq (.region 0 [oP 67 (.move (.t 8)),
 oQ 68 (.call 1 38 [(.t 67)]),
 oP 66 (.move (.t 68)),
 oP 69 (.extract (.t 66) 0),
 oP 70 (.extract (.t 66) 1),
 oP 12 (.move (.t 69)),
 oP 13 (.move (.t 70))])
 (.seq (.region 0 [oP 71 (.move (.t 13)),
 oP 72 (.un .not (.t 71)),
 oP 73 (.move (.t 72)),
 oG 74 73 false (.move (.t 12)),
 oG 75 73 false (.move (.t 6)),
 oG 76 73 false (.bin .neq (.t 74) (.t 75)),
 oG 77 73 false (.move (.t 76)),
 oG 78 77 true (.move (.t 12)),
 oG 79 77 true (.move (.t 6)),
 oG 80 77 true (.bin .sub (.t 79) (.c (.int .i64 1))),
 oG 81 77 true (.bin .neq (.t 78) (.t 80)),
 oG 82 73 false (.pick (.t 77) (.t 81) (.c (.bool false))),
 oP 83 (.pick (.t 73) (.c (.bool true)) (.t 82)),
 oP 84 (.move (.t 83)),
 oG 85 84 false (.move (.t 12)),
 oG 86 84 false (.bin .lss (.t 85) (.c (.int .i64 0))),
 oG 87 84 false (.move (.t 6)),
 oG 88 84 false (.bin .lss (.t 87) (.c (.int .i64 0))),
 oG 89 84 false (.eqB true (.t 86) (.t 88)),
 oP 90 (.pick (.t 84) (.c (.bool true)) (.t 89))])
 (.cond (.t 90) (.seq (.region 0 [oP 4 (.move (.c (.bool false)))])
 (.ret))
 (.skip))))
 (.skip)))
 (.seq (.seq (.region 0 [oP 91 (.move (.t 10)),
 oQ 92 (.call 1 16 [(.t 91)])])
 (.cond (.t 92) (.seq (.region 0 [oP 94 (.move (.t 10)),
 oQ 95 (.call 1 38 [(.t 94)]),
 oP 93 (.move (.t 95)),
 oP 96 (.extract (.t 93) 0),
 oP 97 (.extract (.t 93) 1),
 oP 14 (.move (.t 96)),
 oP 15 (.move (.t 97))])
 (.seq (.region 0 [oP 98 (.move (.t 15)),
 oP 99 (.un .not (.t 98)),
 oP 100 (.move (.t 99)),
 oG 101 100 false (.move (.t 14)),
 oG 102 100 false (.move (.t 6)),
 oG 103 100 false (.bin .neq (.t 101) (.t 102)),
 oG 104 100 false (.move (.t 103)),
 oG 105 104 true (.move (.t 14)),
 oG 106 104 true (.move (.t 6)),
 oG 107 104 true (.bin .sub (.t 106) (.c (.int .i64 1))),
 oG 108 104 true (.bin .neq (.t 105) (.t 107)),
 oG 109 100 false (.pick (.t 104) (.t 108) (.c (.bool false))),
 oP 110 (.pick (.t 100) (.c (.bool true)) (.t 109)),
 oP 111 (.move (.t 110)),
 oG 112 111 false (.move (.t 14)),
 oG 113 111 false (.bin .lss (.t 112) (.c (.int .i64 0))),
 oG 114 111 false (.move (.t 6)),
 oG 115 111 false (.bin .lss (.t 114) (.c (.int .i64 0))),
 oG 116 111 false (.eqB true (.t 113) (.t 115)),
 oP 117 (.pick (.t 111) (.c (.bool true)) (.t 116))])
 (.cond (.t 117) (.seq (.region 0 [oP 4 (.move (.c (.bool false)))])
 (.ret))
 (.skip))))
 (.skip)))
 (.seq (.region 0 [oQ 118 (.call 1 18 []),
 oP 4 (.move (.t 118))])
 (.ret))))))))))⟩
/-- almadraba/almadrabalaw07.CutsChanged -/
def f8 : AFn := ⟨151, [.tmp 4],
 .seq (.region 0 [oP 4 (.move (.c (.bool false)))])
 (.seq (.seq (.region 0 [oP 13 (.move (.t 0)),
 oQ 14 (.call 1 16 [(.t 13)]),
 oP 15 (.un .not (.t 14)),
 oP 16 (.move (.t 15)),
 oG 17 16 false (.move (.t 1)),
 oG 18 16 false (.lenS (.t 17)),
 oG 19 16 false (.bin .gtr (.t 18) (.c (.int .i64 40))),
 oP 20 (.pick (.t 16) (.c (.bool true)) (.t 19))])
 (.cond (.t 20) (.seq (.region 0 [oQ 21 (.call 1 18 []),
 oP 4 (.move (.t 21))])
 (.ret))
 (.skip)))
 (.seq (.region 0 [oP 23 (.move (.t 0)),
 oQ 24 (.call 1 38 [(.t 23)]),
 oP 22 (.move (.t 24)),
 oP 25 (.extract (.t 22) 0),
 oP 26 (.extract (.t 22) 1),
 oP 5 (.move (.t 25)),
 oP 6 (.move (.t 26))])
 (.seq (.seq (.region 0 [oP 27 (.move (.t 6)),
 oP 28 (.un .not (.t 27))])
 (.cond (.t 28) (.seq (.region 0 [oP 4 (.move (.c (.bool false)))])
 (.ret))
 (.skip)))
 (.seq (.region 0 [oP 30 (.move (.t 0)),
 oQ 31 (.call 1 39 [(.t 30)]),
 oP 29 (.move (.t 31)),
 oP 32 (.extract (.t 29) 0),
 oP 33 (.extract (.t 29) 1),
 oP 7 (.move (.t 32)),
 oP 8 (.move (.t 33))])
 (.seq (.seq (.region 0 [oP 34 (.move (.t 5)),
 oP 35 (.bin .lss (.t 34) (.c (.int .i64 0)))])
 (.cond (.t 35) (.seq (.region 0 [oQ 36 (.call 1 18 []),
 oP 4 (.move (.t 36))])
 (.ret))
 (.skip)))
 (.seq (.seq (.region 0 [oP 37 (.move (.t 8)),
 oP 38 (.bin .neq (.t 37) (.c (.int .i64 0))),
 oP 39 (.move (.t 38)),
 oG 40 39 false (.move (.t 7)),
 oG 41 39 false (.lenS (.t 40)),
 oG 42 39 false (.move (.t 0)),
 oG 43 39 false (.lenS (.t 42)),
 oG 44 39 false (.bin .neq (.t 41) (.t 43)),
 oP 45 (.pick (.t 39) (.c (.bool true)) (.t 44))])
 (.cond (.t 45) (.seq (.region 0 [oP 4 (.move (.c (.bool false)))])
 (.ret))
 (.skip)))
 (.seq (.region 0 [oP 46 (.move (.t 0)),
 oP 47 (.move (.t 1)),
 oQ 48 (.call 1 40 [(.t 46), (.t 47)]),
 oP 49 (.move (.t 48)),
 oG 50 49 true (.move (.t 0)),
 oG 51 49 true (.move (.t 1)),
 ⟨(some 52), .call 1 41 [(.t 50), (.t 51)], (some (49, true)), none, []⟩,
 oG 53 49 true (.move (.t 5)),
 oG 54 49 true (.bin .eql (.t 52) (.t 53)),
 oP 55 (.pick (.t 49) (.t 54) (.c (.bool false))),
 oP 9 (.move (.t 55))])
 (.seq (.seq (.region 0 [oP 10 (.move (.c (.int .i64 0)))])
 (.block 0 (.loop (.seq (.seq (.region 0 [oP 56 (.move (.t 10)),
 oP 57 (.move (.t 0)),
 oP 58 (.lenS (.t 57)),
 oP 59 (.bin .lss (.t 56) (.t 58))])
 (.cond (.t 59) (.skip)
 (.exit 0)))
 (.seq (.block 1 (.seq (.region 0 [oP 63 (.move (.t 0)),
 oP 64 (.move (.t 10)),
 oQ 65 (.call 1 45 [(.t 63), (.t 64)]),
 oP 62 (.move (.t 65)),
 oP 66 (.extract (.t 62) 0),
 oP 67 (.extract (.t 62) 1),
 oP 11 (.move (.t 66)),
 oP 12 (.move (.t 67))])
 (.seq (.seq (.region 0 [oP 68 (.move (.t 12)),
 oP 69 (.bin .neq (.t 68) (.c (.int .i64 0))),
 oP 70 (.move (.t 69)),
 oG 71 70 false (.move (.t 11)),
 ⟨(some 72), .call 1 30 [(.t 71), (.c (.int .i64 1)), (.c (.int .i64 3))], (some (70, false)), none, []⟩,
 oG 73 70 false (.un .not (.t 72)),
 oP 74 (.pick (.t 70) (.c (.bool true)) (.t 73)),
 oP 75 (.move (.t 74)),
 oG 76 75 false (.move (.t 5)),
 oG 77 75 false (.bin .eql (.t 76) (.c (.int .i64 0))),
 oG 78 75 false (.move (.t 77)),
 oG 79 78 true (.move (.t 11)),
 oG 80 78 true (.bin .neq (.t 79) (.c (.int .i64 2))),
 oG 81 75 false (.pick (.t 78) (.t 80) (.c (.bool false))),
 oP 82 (.pick (.t 75) (.c (.bool true)) (.t 81)),
 oP 83 (.move (.t 82)),
 oG 84 83 false (.move (.t 11)),
 oG 85 83 false (.bin .eql (.t 84) (.c (.int .i64 1))),
 oG 86 83 false (.move (.t 85)),
 oG 87 86 true (.move (.t 0)),
 oG 88 86 true (.move (.t 10)),
 oG 89 86 true (.idxSl 6 (.t 87) (.t 88)),
 oG 90 86 true (.fieldAddr 1 (.t 89)),
 ⟨(some 91), .load true 2 (.t 90), (some (86, true)), none, []⟩,
 oG 92 86 true (.move (.t 7)),
 oG 93 86 true (.move (.t 10)),
 oG 94 86 true (.idxSl 1 (.t 92) (.t 93)),
 ⟨(some 95), .load false 1 (.t 94), (some (86, true)), none, []⟩,
 ⟨(some 96), .call 1 22 [(.t 91), (.t 95)], (some (86, true)), none, []⟩,
 oG 97 83 false (.pick (.t 86) (.t 96) (.c (.bool false))),
 oP 98 (.pick (.t 83) (.c (.bool true)) (.t 97)),
 oP 99 (.move (.t 98)),
 oG 100 99 false (.move (.t 11)),
 oG 101 99 false (.bin .eql (.t 100) (.c (.int .i64 2))),
 oG 102 99 false (.move (.t 101)),
 oG 103 102 true (.move (.t 0)),
 oG 104 102 true (.move (.t 10)),
 oG 105 102 true (.idxSl 6 (.t 103) (.t 104)),
 oG 106 102 true (.fieldAddr 1 (.t 105)),
 ⟨(some 107), .load true 2 (.t 106), (some (102, true)), none, []⟩,
 oG 108 102 true (.move (.t 7)),
 oG 109 102 true (.move (.t 10)),
 oG 110 102 true (.idxSl 1 (.t 108) (.t 109)),
 ⟨(some 111), .load false 1 (.t 110), (some (102, true)), none, []⟩,
 ⟨(some 112), .call 1 22 [(.t 107), (.t 111)], (some (102, true)), none, []⟩,
 oG 113 102 true (.un .not (.t 112)),
 oG 114 99 false (.pick (.t 102) (.t 113) (.c (.bool false))),
 oP 115 (.pick (.t 99) (.c (.bool true)) (.t 114))])
 (.cond (.t 115) (.seq (.region 0 [oP 4 (.move (.c (.bool false)))])
 (.ret))
 (.skip)))
 (.seq (.region 0 [oP 116 (.move (.t 9)),
 oP 117 (.move (.t 116)),
 oG 118 117 true (.move (.t 11)),
 oG 119 117 true (.bin .eql (.t 118) (.c (.int .i64 1))),
 oG 120 117 true (.move (.t 119)),
 oG 121 120 true (.move (.t 0)),
 oG 122 120 true (.move (.t 10)),
 oG 123 120 true (.idxSl 6 (.t 121) (.t 122)),
 oG 124 120 true (.fieldAddr 1 (.t 123)),
 ⟨(some 125), .load true 2 (.t 124), (some (120, true)), none, []⟩,
 oG 126 120 true (.move (.t 1)),
 oG 127 120 true (.move (.t 10)),
 oG 128 120 true (.idxSl 1 (.t 126) (.t 127)),
 ⟨(some 129), .load false 1 (.t 128), (some (120, true)), none, []⟩,
 ⟨(some 130), .call 1 22 [(.t 125), (.t 129)], (some (120, true)), none, []⟩,
 oG 131 117 true (.pick (.t 120) (.t 130) (.c (.bool false))),
 oG 132 117 true (.move (.t 131)),
 oG 133 132 false (.move (.t 11)),
 oG 134 132 false (.bin .eql (.t 133) (.c (.int .i64 2))),
 oG 135 132 false (.move (.t 134)),
 oG 136 135 true (.move (.t 0)),
 oG 137 135 true (.move (.t 10)),
 oG 138 135 true (.idxSl 6 (.t 136) (.t 137)),
 oG 139 135 true (.fieldAddr 1 (.t 138)),
 ⟨(some 140), .load true 2 (.t 139), (some (135, true)), none, []⟩,
 oG 141 135 true (.move (.t 1)),
 oG 142 135 true (.move (.t 10)),
 oG 143 135 true (.idxSl 1 (.t 141) (.t 142)),
 ⟨(some 144), .load false 1 (.t 143), (some (135, true)), none, []⟩,
 ⟨(some 145), .call 1 22 [(.t 140), (.t 144)], (some (135, true)), none, []⟩,
 oG 146 135 true (.un .not (.t 145)),
 oG 147 132 false (.pick (.t 135) (.t 146) (.c (.bool false))),
 oG 148 117 true (.pick (.t 132) (.c (.bool true)) (.t 147)),
 oP 149 (.pick (.t 117) (.t 148) (.c (.bool false)))])
 (.cond (.t 149) (.seq (.region 0 [oP 4 (.move (.c (.bool false)))])
 (.ret))
 (.skip))))))
 (.region 0 [oP 60 (.move (.t 10)),
 oP 61 (.bin .add (.t 60) (.c (.int .i64 1))),
 oP 10 (.move (.t 61))]))))))
 (.seq (.region 0 [oQ 150 (.call 1 18 []),
 oP 4 (.move (.t 150))])
 (.ret))))))))))⟩
/-- almadraba/almadrabalaw07.CutsBest -/
def f9 : AFn := ⟨161, [.tmp 6],
 .seq (.region 0 [oP 6 (.move (.c (.bool false)))])
 (.seq (.seq (.region 0 [oP 18 (.move (.t 0)),
 oQ 19 (.call 1 16 [(.t 18)]),
 oP 20 (.un .not (.t 19)),
 oP 21 (.move (.t 20)),
 oG 22 21 false (.move (.t 1)),
 oG 23 21 false (.lenS (.t 22)),
 oG 24 21 false (.bin .gtr (.t 23) (.c (.int .i64 40))),
 oP 25 (.pick (.t 21) (.c (.bool true)) (.t 24))])
 (.cond (.t 25) (.seq (.region 0 [oQ 26 (.call 1 18 []),
 oP 6 (.move (.t 26))])
 (.ret))
 (.skip)))
 (.seq (.region 0 [oP 28 (.move (.t 0)),
 oQ 29 (.call 1 46 [(.t 28)]),
 oP 27 (.move (.t 29)),
 oP 30 (.extract (.t 27) 0),
 oP 31 (.extract (.t 27) 1),
 oP 7 (.move (.t 30)),
 oP 8 (.move (.t 31))])
 (.seq (.seq (.region 0 [oP 32 (.move (.t 8)),
 oQ 33 (.call 1 33 [(.t 32)]),
 oP 34 (.un .not (.t 33)),
 oP 35 (.move (.t 34)),
 oG 36 35 false (.move (.t 8)),
 oG 37 35 false (.bin .eql (.t 36) (.c (.int .i64 0))),
 oG 38 35 false (.move (.t 0)),
 ⟨(some 39), .call 1 34 [(.t 38)], (some (35, false)), none, []⟩,
 oG 40 35 false (.eqB true (.t 37) (.t 39)),
 oP 41 (.pick (.t 35) (.c (.bool true)) (.t 40))])
 (.cond (.t 41) (.seq (.region 0 [oP 6 (.move (.c (.bool false)))])
 (.ret))
 (.skip)))
 (.seq (.seq (.region 0 [oP 42 (.move (.t 8)),
 oP 43 (.bin .neq (.t 42) (.c (.int .i64 0)))])
 (.cond (.t 43) (.seq (.region 0 [oQ 44 (.call 1 18 []),
 oP 6 (.move (.t 44))])
 (.ret))
 (.skip)))
 (.seq (.seq (.region 0 [oP 45 (.move (.t 7)),
 oP 46 (.lenS (.t 45)),
 oP 47 (.move (.t 0)),
 oP 48 (.lenS (.t 47)),
 oP 49 (.bin .gtr (.t 46) (.t 48)),
 oP 50 (.move (.t 49)),
 oG 51 50 false (.move (.t 0)),
 oG 52 50 false (.move (.t 7)),
 ⟨(some 53), .call 1 47 [(.t 51), (.t 52)], (some (50, false)), none, []⟩,
 oG 54 50 false (.un .not (.t 53)),
 oP 55 (.pick (.t 50) (.c (.bool true)) (.t 54))])
 (.cond (.t 55) (.seq (.region 0 [oP 6 (.move (.c (.bool false)))])
 (.ret))
 (.skip)))
 (.seq (.region 0 [oP 57 (.move (.t 0)),
 oQ 58 (.buildSlice 1 0 [.int .i64 0] []),
 oP 59 (.move (.t 7)),
 oQ 60 (.append false 1 8 (.t 58) (.t 59)),
 oQ 61 (.call 1 27 [(.t 57), (.t 60)]),
 oP 56 (.move (.t 61)),
 oP 62 (.extract (.t 56) 0),
 oP 63 (.extract (.t 56) 1),
 oQ 9 (.alloc [.int .i64 0, .int .i64 0]),
 ⟨none, .store 2 (.t 9) (.t 62), none, none, []⟩,
 oP 10 (.move (.t 63))])
 (.seq (.seq (.region 0 [oP 64 (.move (.t 10)),
 oP 65 (.bin .neq (.t 64) (.c (.int .i64 0))),
 oP 66 (.move (.t 65)),
 oG 67 66 false (.fieldAddr 0 (.t 9)),
 ⟨(some 68), .load false 1 (.t 67), (some (66, false)), none, []⟩,
 oG 69 66 false (.bin .lss (.t 68) (.c (.int .i64 0))),
 oP 70 (.pick (.t 66) (.c (.bool true)) (.t 69)),
 oP 71 (.move (.t 70)),
 oG 72 71 false (.fieldAddr 1 (.t 9)),
 ⟨(some 73), .load false 1 (.t 72), (some (71, false)), none, []⟩,
 oG 74 71 false (.fieldAddr 0 (.t 9)),
 ⟨(some 75), .load false 1 (.t 74), (some (71, false)), none, []⟩,
 oG 76 71 false (.bin .lss (.t 73) (.t 75)),
 oP 77 (.pick (.t 71) (.c (.bool true)) (.t 76))])
 (.cond (.t 77) (.seq (.region 0 [oP 6 (.move (.c (.bool false)))])
 (.ret))
 (.skip)))
 (.seq (.seq (.region 0 [oP 78 (.move (.t 0)),
 oP 79 (.move (.t 1)),
 oQ 80 (.call 1 47 [(.t 78), (.t 79)])])
 (.cond (.t 80) (.seq (.region 0 [oP 82 (.move (.t 0)),
 oQ 83 (.buildSlice 1 0 [.int .i64 0] []),
 oP 84 (.move (.t 1)),
 oQ 85 (.append false 1 8 (.t 83) (.t 84)),
 oQ 86 (.call 1 27 [(.t 82), (.t 85)]),
 oP 81 (.move (.t 86)),
 oP 87 (.extract (.t 81) 0),
 oP 88 (.extract (.t 81) 1),
 oQ 11 (.alloc [.int .i64 0, .int .i64 0]),
 ⟨none, .store 2 (.t 11) (.t 87), none, none, []⟩,
 oP 12 (.move (.t 88))])
 (.seq (.region 0 [oP 89 (.move (.t 1)),
 oP 90 (.lenS (.t 89)),
 oP 91 (.move (.t 7)),
 oP 92 (.lenS (.t 91)),
 oP 93 (.bin .lss (.t 90) (.t 92)),
 oP 94 (.move (.t 93)),
 oG 95 94 false (.move (.t 1)),
 oG 96 94 false (.lenS (.t 95)),
 oG 97 94 false (.move (.t 7)),
 oG 98 94 false (.lenS (.t 97)),
 oG 99 94 false (.bin .eql (.t 96) (.t 98)),
 oG 100 94 false (.move (.t 99)),
 oG 101 100 true (.move (.t 1)),
 oG 102 100 true (.move (.t 7)),
 ⟨(some 103), .call 1 44 [(.t 101), (.t 102)], (some (100, true)), none, []⟩,
 oG 104 94 false (.pick (.t 100) (.t 103) (.c (.bool false))),
 oP 105 (.pick (.t 94) (.c (.bool true)) (.t 104)),
 oP 13 (.move (.t 105))])
 (.seq (.region 0 [oP 106 (.move (.t 12)),
 oP 107 (.bin .neq (.t 106) (.c (.int .i64 0))),
 oP 108 (.move (.t 107)),
 oG 109 108 false (.fieldAddr 0 (.t 11)),
 ⟨(some 110), .load false 1 (.t 109), (some (108, false)), none, []⟩,
 oG 111 108 false (.fieldAddr 0 (.t 9)),
 ⟨(some 112), .load false 1 (.t 111), (some (108, false)), none, []⟩,
 oG 113 108 false (.bin .gtr (.t 110) (.t 112)),
 oP 114 (.pick (.t 108) (.c (.bool true)) (.t 113)),
 oP 115 (.move (.t 114)),
 oG 116 115 false (.move (.t 13)),
 oG 117 115 false (.move (.t 116)),
 oG 118 117 true (.fieldAddr 0 (.t 11)),
 ⟨(some 119), .load false 1 (.t 118), (some (117, true)), none, []⟩,
 oG 120 117 true (.fieldAddr 0 (.t 9)),
 ⟨(some 121), .load false 1 (.t 120), (some (117, true)), none, []⟩,
 oG 122 117 true (.bin .eql (.t 119) (.t 121)),
 oG 123 115 false (.pick (.t 117) (.t 122) (.c (.bool false))),
 oP 124 (.pick (.t 115) (.c (.bool true)) (.t 123))])
 (.cond (.t 124) (.seq (.region 0 [oP 6 (.move (.c (.bool false)))])
 (.ret))
 (.skip)))))
 (.skip)))
 (.seq (.seq (.region 0 [oP 125 (.move (.t 0)),
 oP 126 (.move (.t 2)),
 oQ 127 (.call 1 31 [(.t 125), (.t 126)]),
 oP 128 (.un .not (.t 127))])
 (.cond (.t 128) (.seq (.region 0 [oQ 129 (.call 1 18 []),
 oP 6 (.move (.t 129))])
 (.ret))
 (.skip)))
 (.seq (.region 0 [oP 131 (.move (.t 0)),
 oP 132 (.move (.t 2)),
 oQ 133 (.call 1 48 [(.t 131), (.t 132)]),
 oP 130 (.move (.t 133)),
 oP 134 (.extract (.t 130) 0),
 oP 135 (.extract (.t 130) 1),
 oP 14 (.move (.t 134)),
 oP 15 (.move (.t 135))])
 (.seq (.region 0 [oP 137 (.move (.t 0)),
 oP 138 (.move (.t 2)),
 oQ 139 (.call 1 32 [(.t 137), (.t 138)]),
 oP 136 (.move (.t 139)),
 oP 140 (.extract (.t 136) 0),
 oP 141 (.extract (.t 136) 1),
 oQ 16 (.alloc [.int .i64 0, .int .i64 0]),
 ⟨none, .store 2 (.t 16) (.t 140), none, none, []⟩,
 oP 17 (.move (.t 141))])
 (.seq (.region 0 [oP 142 (.move (.t 15)),
 oP 143 (.bin .eql (.t 142) (.c (.int .i64 0))),
 oP 144 (.move (.t 143)),
 oG 145 144 true (.move (.t 17)),
 oG 146 144 true (.bin .eql (.t 145) (.c (.int .i64 0))),
 oP 147 (.pick (.t 144) (.t 146) (.c (.bool false))),
 oP 148 (.move (.t 147)),
 oG 149 148 true (.move (.t 14)),
 oG 150 148 true (.bin .geq (.t 149) (.c (.int .i64 0))),
 oP 151 (.pick (.t 148) (.t 150) (.c (.bool false))),
 oP 152 (.move (.t 151)),
 oG 153 152 true (.move (.t 14)),
 oG 154 152 true (.fieldAddr 1 (.t 16)),
 ⟨(some 155), .load false 1 (.t 154), (some (152, true)), none, []⟩,
 oG 156 152 true (.bin .leq (.t 153) (.t 155)),
 oP 157 (.pick (.t 152) (.t 156) (.c (.bool false))),
 oP 158 (.move (.t 157)),
 ⟨(some 159), .call 1 18 [], (some (158, true)), none, []⟩,
 oP 160 (.pick (.t 158) (.t 159) (.c (.bool false))),
 oP 6 (.move (.t 160))])
 (.ret)))))))))))))⟩
/-- almadraba/almadrabalaw07.CutsBeside -/
def f10 : AFn := ⟨233, [.tmp 6],
 .seq (.region 0 [oQ 5 (.box (.t 2)),
 oP 6 (.move (.c (.bool false)))])
 (.seq (.seq (.region 0 [oP 24 (.move (.t 0)),
 oQ 25 (.call 1 16 [(.t 24)]),
 oP 26 (.un .not (.t 25)),
 oP 27 (.move (.t 26)),
 oG 28 27 false (.move (.t 1)),
 ⟨(some 29), .call 1 16 [(.t 28)], (some (27, false)), none, []⟩,
 oG 30 27 false (.un .not (.t 29)),
 oP 31 (.pick (.t 27) (.c (.bool true)) (.t 30)),
 oP 32 (.move (.t 31)),
 oG 33 32 false (.fieldAddr 0 (.t 5)),
 ⟨(some 34), .load false 1 (.t 33), (some (32, false)), none, []⟩,
 oG 35 32 false (.lenS (.t 34)),
 oG 36 32 false (.bin .gtr (.t 35) (.c (.int .i64 40))),
 oP 37 (.pick (.t 32) (.c (.bool true)) (.t 36)),
 oP 38 (.move (.t 37)),
 oG 39 38 false (.fieldAddr 1 (.t 5)),
 ⟨(some 40), .load false 1 (.t 39), (some (38, false)), none, []⟩,
 oG 41 38 false (.lenS (.t 40)),
 oG 42 38 false (.bin .gtr (.t 41) (.c (.int .i64 40))),
 oP 43 (.pick (.t 38) (.c (.bool true)) (.t 42)),
 oP 44 (.move (.t 43)),
 oG 45 44 false (.move (.t 0)),
 oG 46 44 false (.fieldAddr 0 (.t 5)),
 ⟨(some 47), .load false 1 (.t 46), (some (44, false)), none, []⟩,
 ⟨(some 48), .call 1 47 [(.t 45), (.t 47)], (some (44, false)), none, []⟩,
 oG 49 44 false (.un .not (.t 48)),
 oP 50 (.pick (.t 44) (.c (.bool true)) (.t 49)),
 oP 51 (.move (.t 50)),
 oG 52 51 false (.move (.t 1)),
 oG 53 51 false (.fieldAddr 1 (.t 5)),
 ⟨(some 54), .load false 1 (.t 53), (some (51, false)), none, []⟩,
 ⟨(some 55), .call 1 47 [(.t 52), (.t 54)], (some (51, false)), none, []⟩,
 oG 56 51 false (.un .not (.t 55)),
 oP 57 (.pick (.t 51) (.c (.bool true)) (.t 56))])
 (.cond (.t 57) (.seq (.region 0 [oQ 58 (.call 1 18 []),
 oP 6 (.move (.t 58))])
 (.ret))
 (.skip)))
 (.seq (.region 0 [oP 59 (.move (.t 0)),
 oQ 60 (.call 2 42 [(.t 59)]),
 oP 7 (.move (.t 60))])
 (.seq (.region 0 [oQ 61 (.buildSlice 1 0 [.int .i64 0] []),
 oP 62 (.fieldAddr 0 (.t 5)),
 oQ 63 (.load false 1 (.t 62)),
 oQ 64 (.append false 1 8 (.t 61) (.t 63)),
 oP 8 (.move (.t 64))])
 (.seq (.seq (.region 0 [oP 9 (.move (.c (.int .i64 0)))])
 (.block 0 (.loop (.seq (.seq (.region 0 [oP 65 (.move (.t 9)),
 oP 66 (.move (.t 1)),
 oP 67 (.lenS (.t 66)),
 oP 68 (.bin .lss (.t 65) (.t 67))])
 (.cond (.t 68) (.skip)
 (.exit 0)))
 (.seq (.block 1 (.seq (.region 0 [oP 71 (.move (.t 1)),
 oP 72 (.move (.t 9)),
 oP 73 (.idxSl 6 (.t 71) (.t 72)),
 oQ 74 (.load true 6 (.t 73)),
 oQ 10 (.alloc [.int .i64 0, .int .i64 0, .int .i64 0, .int .i64 0, .int .i64 0, .int .i64 0]),
 ⟨none, .store 6 (.t 10) (.t 74), none, none, []⟩])
 (.seq (.seq (.region 0 [oP 75 (.fieldAddr 0 (.t 10)),
 oQ 76 (.load false 1 (.t 75)),
 oP 77 (.bin .neq (.t 76) (.c (.int .i64 (-1))))])
 (.cond (.t 77) (.region 0 [oP 78 (.fieldAddr 0 (.t 10)),
 oQ 79 (.load false 1 (.t 78)),
 oP 80 (.move (.t 0)),
 oP 81 (.lenS (.t 80)),
 oP 82 (.bin .add (.t 79) (.t 81)),
 oP 83 (.fieldAddr 0 (.t 10)),
 ⟨none, .store 1 (.t 83) (.t 82), none, none, []⟩])
 (.skip)))
 (.region 0 [oP 84 (.move (.t 7)),
 oQ 85 (.load true 6 (.t 10)),
 oQ 86 (.litS 6 1 [.int .i64 0, .int .i64 0, .int .i64 0, .int .i64 0, .int .i64 0, .int .i64 0] [(0, (.t 85))]),
 oQ 87 (.append false 6 48 (.t 84) (.t 86)),
 oP 7 (.move (.t 87))]))))
 (.region 0 [oP 69 (.move (.t 9)),
 oP 70 (.bin .add (.t 69) (.c (.int .i64 1))),
 oP 9 (.move (.t 70))]))))))
 (.seq (.seq (.region 0 [oP 11 (.move (.c (.int .i64 0)))])
 (.block 2 (.loop (.seq (.seq (.region 0 [oP 88 (.move (.t 11)),
 oP 89 (.fieldAddr 1 (.t 5)),
 oQ 90 (.load false 1 (.t 89)),
 oP 91 (.lenS (.t 90)),
 oP 92 (.bin .lss (.t 88) (.t 91))])
 (.cond (.t 92) (.skip)
 (.exit 2)))
 (.seq (.block 3 (.region 0 [oP 95 (.move (.t 8)),
 oP 96 (.fieldAddr 1 (.t 5)),
 oQ 97 (.load false 1 (.t 96)),
 oP 98 (.move (.t 11)),
 oP 99 (.idxSl 1 (.t 97) (.t 98)),
 oQ 100 (.load false 1 (.t 99)),
 oP 101 (.move (.t 0)),
 oP 102 (.lenS (.t 101)),
 oP 103 (.bin .add (.t 100) (.t 102)),
 oQ 104 (.litS 1 1 [.int .i64 0] [(0, (.t 103))]),
 oQ 105 (.append false 1 8 (.t 95) (.t 104)),
 oP 8 (.move (.t 105))]))
 (.region 0 [oP 93 (.move (.t 11)),
 oP 94 (.bin .add (.t 93) (.c (.int .i64 1))),
 oP 11 (.move (.t 94))]))))))
 (.seq (.seq (.region 0 [oP 106 (.move (.t 7)),
 oQ 107 (.call 1 16 [(.t 106)]),
 oP 108 (.un .not (.t 107))])
 (.cond (.t 108) (.seq (.region 0 [oQ 109 (.call 1 18 []),
 oP 6 (.move (.t 109))])
 (.ret))
 (.skip)))
 (.seq (.region 0 [oP 111 (.move (.t 0)),
 oQ 112 (.call 1 38 [(.t 111)]),
 oP 110 (.move (.t 112)),
 oP 113 (.extract (.t 110) 0),
 oP 114 (.extract (.t 110) 1),
 oP 12 (.move (.t 113)),
 oP 13 (.move (.t 114))])
 (.seq (.region 0 [oP 116 (.move (.t 1)),
 oQ 117 (.call 1 38 [(.t 116)]),
 oP 115 (.move (.t 117)),
 oP 118 (.extract (.t 115) 0),
 oP 119 (.extract (.t 115) 1),
 oP 14 (.move (.t 118)),
 oP 15 (.move (.t 119))])
 (.seq (.region 0 [oP 121 (.move (.t 7)),
 oQ 122 (.call 1 38 [(.t 121)]),
 oP 120 (.move (.t 122)),
 oP 123 (.extract (.t 120) 0),
 oP 124 (.extract (.t 120) 1),
 oP 16 (.move (.t 123)),
 oP 17 (.move (.t 124))])
 (.seq (.seq (.region 0 [oP 125 (.move (.t 13)),
 oP 126 (.un .not (.t 125)),
 oP 127 (.move (.t 126)),
 oG 128 127 false (.move (.t 15)),
 oG 129 127 false (.un .not (.t 128)),
 oP 130 (.pick (.t 127) (.c (.bool true)) (.t 129)),
 oP 131 (.move (.t 130)),
 oG 132 131 false (.move (.t 17)),
 oG 133 131 false (.un .not (.t 132)),
 oP 134 (.pick (.t 131) (.c (.bool true)) (.t 133)),
 oP 135 (.move (.t 134)),
 oG 136 135 false (.move (.t 16)),
 oG 137 135 false (.bin .lss (.t 136) (.c (.int .i64 0))),
 oG 138 135 false (.move (.t 12)),
 oG 139 135 false (.move (.t 14)),
 oG 140 135 false (.minmax false (.t 138) [(.t 139)]),
 oG 141 135 false (.bin .lss (.t 140) (.c (.int .i64 0))),
 oG 142 135 false (.eqB true (.t 137) (.t 141)),
 oP 143 (.pick (.t 135) (.c (.bool true)) (.t 142)),
 oP 144 (.move (.t 143)),
 oG 145 144 false (.move (.t 16)),
 oG 146 144 false (.bin .geq (.t 145) (.c (.int .i64 0))),
 oG 147 144 false (.move (.t 146)),
 oG 148 147 true (.move (.t 16)),
 oG 149 147 true (.move (.t 12)),
 oG 150 147 true (.move (.t 14)),
 oG 151 147 true (.bin .add (.t 149) (.t 150)),
 oG 152 147 true (.bin .neq (.t 148) (.t 151)),
 oG 153 144 false (.pick (.t 147) (.t 152) (.c (.bool false))),
 oP 154 (.pick (.t 144) (.c (.bool true)) (.t 153))])
 (.cond (.t 154) (.seq (.region 0 [oP 6 (.move (.c (.bool false)))])
 (.ret))
 (.skip)))
 (.seq (.seq (.region 0 [oP 155 (.move (.t 16)),
 oP 156 (.bin .neq (.t 155) (.c (.int .i64 0)))])
 (.cond (.t 156) (.seq (.region 0 [oQ 157 (.call 1 18 []),
 oP 6 (.move (.t 157))])
 (.ret))
 (.skip)))
 (.seq (.region 0 [oP 159 (.move (.t 0)),
 oQ 160 (.call 1 20 [(.t 159)]),
 oP 158 (.move (.t 160)),
 oP 161 (.extract (.t 158) 0),
 oP 162 (.extract (.t 158) 1),
 oQ 18 (.alloc [.int .i64 0, .int .i64 0]),
 ⟨none, .store 2 (.t 18) (.t 161), none, none, []⟩,
 oP 19 (.move (.t 162))])
 (.seq (.region 0 [oP 164 (.move (.t 1)),
 oQ 165 (.call 1 20 [(.t 164)]),
 oP 163 (.move (.t 165)),
 oP 166 (.extract (.t 163) 0),
 oP 167 (.extract (.t 163) 1),
 oQ 20 (.alloc [.int .i64 0, .int .i64 0]),
 ⟨none, .store 2 (.t 20) (.t 166), none, none, []⟩,
 oP 21 (.move (.t 167))])
 (.seq (.region 0 [oP 169 (.move (.t 7)),
 oQ 170 (.call 1 20 [(.t 169)]),
 oP 168 (.move (.t 170)),
 oP 171 (.extract (.t 168) 0),
 oP 172 (.extract (.t 168) 1),
 oQ 22 (.alloc [.int .i64 0, .int .i64 0]),
 ⟨none, .store 2 (.t 22) (.t 171), none, none, []⟩,
 oP 23 (.move (.t 172))])
 (.seq (.seq (.region 0 [oP 173 (.move (.t 19)),
 oP 174 (.bin .neq (.t 173) (.c (.int .i64 0))),
 oP 175 (.move (.t 174)),
 oG 176 175 false (.move (.t 21)),
 oG 177 175 false (.bin .neq (.t 176) (.c (.int .i64 0))),
 oP 178 (.pick (.t 175) (.c (.bool true)) (.t 177)),
 oP 179 (.move (.t 178)),
 oG 180 179 false (.move (.t 23)),
 oG 181 179 false (.bin .neq (.t 180) (.c (.int .i64 0))),
 oP 182 (.pick (.t 179) (.c (.bool true)) (.t 181)),
 oP 183 (.move (.t 182)),
 ⟨(some 184), .load true 2 (.t 18), (some (183, false)), none, []⟩,
 ⟨(some 185), .load true 2 (.t 20), (some (183, false)), none, []⟩,
 ⟨(some 186), .load true 2 (.t 22), (some (183, false)), none, []⟩,
 ⟨(some 187), .call 1 49 [(.t 184), (.t 185), (.t 186)], (some (183, false)), none, []⟩,
 oG 188 183 false (.un .not (.t 187)),
 oP 189 (.pick (.t 183) (.c (.bool true)) (.t 188))])
 (.cond (.t 189) (.seq (.region 0 [oP 6 (.move (.c (.bool false)))])
 (.ret))
 (.skip)))
 (.seq (.region 0 [oP 191 (.move (.t 0)),
 oQ 192 (.buildSlice 1 0 [.int .i64 0] []),
 oP 193 (.fieldAddr 0 (.t 5)),
 oQ 194 (.load false 1 (.t 193)),
 oQ 195 (.append false 1 8 (.t 192) (.t 194)),
 oQ 196 (.call 1 27 [(.t 191), (.t 195)]),
 oP 190 (.move (.t 196)),
 oP 197 (.extract (.t 190) 0),
 oP 198 (.extract (.t 190) 1),
 ⟨none, .store 2 (.t 18) (.t 197), none, none, []⟩,
 oP 19 (.move (.t 198))])
 (.seq (.region 0 [oP 200 (.move (.t 1)),
 oQ 201 (.buildSlice 1 0 [.int .i64 0] []),
 oP 202 (.fieldAddr 1 (.t 5)),
 oQ 203 (.load false 1 (.t 202)),
 oQ 204 (.append false 1 8 (.t 201) (.t 203)),
 oQ 205 (.call 1 27 [(.t 200), (.t 204)]),
 oP 199 (.move (.t 205)),
 oP 206 (.extract (.t 199) 0),
 oP 207 (.extract (.t 199) 1),
 ⟨none, .store 2 (.t 20) (.t 206), none, none, []⟩,
 oP 21 (.move (.t 207))])
 (.seq (.region 0 [oP 209 (.move (.t 7)),
 oP 210 (.move (.t 8)),
 oQ 211 (.call 1 27 [(.t 209), (.t 210)]),
 oP 208 (.move (.t 211)),
 oP 212 (.extract (.t 208) 0),
 oP 213 (.extract (.t 208) 1),
 ⟨none, .store 2 (.t 22) (.t 212), none, none, []⟩,
 oP 23 (.move (.t 213))])
 (.seq (.region 0 [oP 214 (.move (.t 19)),
 oP 215 (.bin .eql (.t 214) (.c (.int .i64 0))),
 oP 216 (.move (.t 215)),
 oG 217 216 true (.move (.t 21)),
 oG 218 216 true (.bin .eql (.t 217) (.c (.int .i64 0))),
 oP 219 (.pick (.t 216) (.t 218) (.c (.bool false))),
 oP 220 (.move (.t 219)),
 oG 221 220 true (.move (.t 23)),
 oG 222 220 true (.bin .eql (.t 221) (.c (.int .i64 0))),
 oP 223 (.pick (.t 220) (.t 222) (.c (.bool false))),
 oP 224 (.move (.t 223)),
 ⟨(some 225), .load true 2 (.t 18), (some (224, true)), none, []⟩,
 ⟨(some 226), .load true 2 (.t 20), (some (224, true)), none, []⟩,
 ⟨(some 227), .load true 2 (.t 22), (some (224, true)), none, []⟩,
 ⟨(some 228), .call 1 49 [(.t 225), (.t 226), (.t 227)], (some (224, true)), none, []⟩,
 oP 229 (.pick (.t 224) (.t 228) (.c (.bool false))),
 oP 230 (.move (.t 229)),
 ⟨(some 231), .call 1 18 [], (some (230, true)), none, []⟩,
 oP 232 (.pick (.t 230) (.t 231) (.c (.bool false))),
 oP 6 (.move (.t 232))])
 (.ret))))))))))))))))))))⟩
/-- almadraba/almadrabalaw07.CutsTwice -/
def f11 : AFn := ⟨154, [.tmp 4],
 .seq (.region 0 [oQ 3 (.box (.t 1)),
 oP 4 (.move (.c (.bool false)))])
 (.seq (.seq (.region 0 [oP 20 (.move (.t 0)),
 oQ 21 (.call 1 16 [(.t 20)]),
 oP 22 (.un .not (.t 21)),
 oP 23 (.move (.t 22)),
 oG 24 23 false (.move (.t 0)),
 ⟨(some 25), .load true 2 (.t 3), (some (23, false)), none, []⟩,
 ⟨(some 26), .call 1 26 [(.t 24), (.t 25)], (some (23, false)), none, []⟩,
 oG 27 23 false (.un .not (.t 26)),
 oP 28 (.pick (.t 23) (.c (.bool true)) (.t 27)),
 oP 29 (.move (.t 28)),
 oG 30 29 false (.move (.t 0)),
 ⟨(some 31), .call 1 34 [(.t 30)], (some (29, false)), none, []⟩,
 oG 32 29 false (.un .not (.t 31)),
 oP 33 (.pick (.t 29) (.c (.bool true)) (.t 32))])
 (.cond (.t 33) (.seq (.region 0 [oQ 34 (.call 1 18 []),
 oP 4 (.move (.t 34))])
 (.ret))
 (.skip)))
 (.seq (.region 0 [oP 35 (.move (.t 0)),
 oQ 36 (.call 2 42 [(.t 35)]),
 oP 5 (.move (.t 36))])
 (.seq (.seq (.region 0 [oP 6 (.move (.c (.int .i64 0)))])
 (.block 0 (.loop (.seq (.seq (.region 0 [oP 37 (.move (.t 6)),
 oP 38 (.move (.t 5)),
 oP 39 (.lenS (.t 38)),
 oP 40 (.bin .lss (.t 37) (.t 39))])
 (.cond (.t 40) (.skip)
 (.exit 0)))
 (.seq (.block 1 (.seq (.region 0 [oP 43 (.move (.t 5)),
 oP 44 (.move (.t 6)),
 oP 45 (.idxSl 6 (.t 43) (.t 44)),
 oQ 46 (.load true 6 (.t 45)),
 oQ 7 (.alloc [.int .i64 0, .int .i64 0, .int .i64 0, .int .i64 0, .int .i64 0, .int .i64 0]),
 ⟨none, .store 6 (.t 7) (.t 46), none, none, []⟩])
 (.seq (.region 0 [oP 47 (.fieldAddr 5 (.t 7)),
 oQ 48 (.load false 1 (.t 47)),
 oP 49 (.bin .mul (.t 48) (.c (.int .i64 2))),
 oP 50 (.fieldAddr 5 (.t 7)),
 ⟨none, .store 1 (.t 50) (.t 49), none, none, []⟩])
 (.region 0 [oP 51 (.move (.t 5)),
 oP 52 (.move (.t 6)),
 oQ 53 (.load true 6 (.t 7)),
 oP 54 (.idxSl 6 (.t 51) (.t 52)),
 ⟨none, .store 6 (.t 54) (.t 53), none, none, []⟩]))))
 (.region 0 [oP 41 (.move (.t 6)),
 oP 42 (.bin .add (.t 41) (.c (.int .i64 1))),
 oP 6 (.move (.t 42))]))))))
 (.seq (.seq (.region 0 [oP 55 (.move (.t 5)),
 oQ 56 (.call 1 16 [(.t 55)]),
 oP 57 (.un .not (.t 56))])
 (.cond (.t 57) (.seq (.region 0 [oQ 58 (.call 1 18 []),
 oP 4 (.move (.t 58))])
 (.ret))
 (.skip)))
 (.seq (.region 0 [oP 60 (.move (.t 0)),
 oQ 61 (.buildSlice 1 0 [.int .i64 0] []),
 oP 62 (.fieldAddr 0 (.t 3)),
 oQ 63 (.load false 1 (.t 62)),
 oQ 64 (.append false 1 8 (.t 61) (.t 63)),
 oQ 65 (.call 1 27 [(.t 60), (.t 64)]),
 oP 59 (.move (.t 65)),
 oP 66 (.extract (.t 59) 0),
 oP 67 (.extract (.t 59) 1),
 oQ 8 (.alloc [.int .i64 0, .int .i64 0]),
 ⟨none, .store 2 (.t 8) (.t 66), none, none, []⟩,
 oP 9 (.move (.t 67))])
 (.seq (.region 0 [oP 69 (.move (.t 5)),
 oQ 70 (.buildSlice 1 0 [.int .i64 0] []),
 oP 71 (.fieldAddr 0 (.t 3)),
 oQ 72 (.load false 1 (.t 71)),
 oQ 73 (.append false 1 8 (.t 70) (.t 72)),
 oQ 74 (.call 1 27 [(.t 69), (.t 73)]),
 oP 68 (.move (.t 74)),
 oP 75 (.extract (.t 68) 0),
 oP 76 (.extract (.t 68) 1),
 oQ 10 (.alloc [.int .i64 0, .int .i64 0]),
 ⟨none, .store 2 (.t 10) (.t 75), none, none, []⟩,
 oP 11 (.move (.t 76))])
 (.seq (.region 0 [oP 78 (.move (.t 0)),
 oQ 79 (.call 1 46 [(.t 78)]),
 oP 77 (.move (.t 79)),
 oP 80 (.extract (.t 77) 0),
 oP 81 (.extract (.t 77) 1),
 oP 12 (.move (.t 80)),
 oP 13 (.move (.t 81))])
 (.seq (.region 0 [oP 83 (.move (.t 5)),
 oQ 84 (.call 1 46 [(.t 83)]),
 oP 82 (.move (.t 84)),
 oP 85 (.extract (.t 82) 0),
 oP 86 (.extract (.t 82) 1),
 oP 14 (.move (.t 85)),
 oP 15 (.move (.t 86))])
 (.seq (.seq (.region 0 [oP 87 (.move (.t 9)),
 oP 88 (.bin .neq (.t 87) (.c (.int .i64 0))),
 oP 89 (.move (.t 88)),
 oG 90 89 false (.move (.t 11)),
 oG 91 89 false (.bin .neq (.t 90) (.c (.int .i64 0))),
 oP 92 (.pick (.t 89) (.c (.bool true)) (.t 91)),
 oP 93 (.move (.t 92)),
 oG 94 93 false (.move (.t 13)),
 oG 95 93 false (.bin .neq (.t 94) (.c (.int .i64 0))),
 oP 96 (.pick (.t 93) (.c (.bool true)) (.t 95)),
 oP 97 (.move (.t 96)),
 oG 98 97 false (.move (.t 15)),
 oG 99 97 false (.bin .neq (.t 98) (.c (.int .i64 0))),
 oP 100 (.pick (.t 97) (.c (.bool true)) (.t 99)),
 oP 101 (.move (.t 100)),
 ⟨(some 102), .load true 2 (.t 8), (some (101, false)), none, []⟩,
 ⟨(some 103), .load true 2 (.t 8), (some (101, false)), none, []⟩,
 ⟨(some 104), .load true 2 (.t 10), (some (101, false)), none, []⟩,
 ⟨(some 105), .call 1 49 [(.t 102), (.t 103), (.t 104)], (some (101, false)), none, []⟩,
 oG 106 101 false (.un .not (.t 105)),
 oP 107 (.pick (.t 101) (.c (.bool true)) (.t 106)),
 oP 108 (.move (.t 107)),
 oG 109 108 false (.move (.t 12)),
 oG 110 108 false (.move (.t 14)),
 ⟨(some 111), .call 1 50 [(.t 109), (.t 110)], (some (108, false)), none, []⟩,
 oG 112 108 false (.un .not (.t 111)),
 oP 113 (.pick (.t 108) (.c (.bool true)) (.t 112))])
 (.cond (.t 113) (.seq (.region 0 [oP 4 (.move (.c (.bool false)))])
 (.ret))
 (.skip)))
 (.seq (.region 4 [oP 115 (.move (.t 0)),
 ⟨(some 116), .buildSlice 1 0 [.int .i64 0] [], none, (some 0), []⟩,
 oP 117 (.fieldAddr 0 (.t 3)),
 ⟨(some 118), .load false 1 (.t 117), none, none, [0, 1, 2, 3]⟩,
 ⟨(some 119), .append true 1 8 (.t 116) (.t 118), none, (some 1), [2, 3]⟩,
 ⟨(some 120), .buildSlice 1 0 [.int .i64 0] [], none, (some 2), []⟩,
 oP 121 (.fieldAddr 1 (.t 3)),
 ⟨(some 122), .load false 1 (.t 121), none, none, [0, 1, 2, 3]⟩,
 ⟨(some 123), .append true 1 8 (.t 120) (.t 122), none, (some 3), []⟩,
 oQ 124 (.call 1 28 [(.t 115), (.t 119), (.t 123)]),
 oP 114 (.move (.t 124)),
 oP 125 (.extract (.t 114) 0),
 oP 126 (.extract (.t 114) 1),
 oP 16 (.move (.t 125)),
 oP 17 (.move (.t 126))])
 (.seq (.region 4 [oP 128 (.move (.t 5)),
 ⟨(some 129), .buildSlice 1 0 [.int .i64 0] [], none, (some 0), []⟩,
 oP 130 (.fieldAddr 0 (.t 3)),
 ⟨(some 131), .load false 1 (.t 130), none, none, [0, 1, 2, 3]⟩,
 ⟨(some 132), .append true 1 8 (.t 129) (.t 131), none, (some 1), [2, 3]⟩,
 ⟨(some 133), .buildSlice 1 0 [.int .i64 0] [], none, (some 2), []⟩,
 oP 134 (.fieldAddr 1 (.t 3)),
 ⟨(some 135), .load false 1 (.t 134), none, none, [0, 1, 2, 3]⟩,
 ⟨(some 136), .append true 1 8 (.t 133) (.t 135), none, (some 3), []⟩,
 oQ 137 (.call 1 28 [(.t 128), (.t 132), (.t 136)]),
 oP 127 (.move (.t 137)),
 oP 138 (.extract (.t 127) 0),
 oP 139 (.extract (.t 127) 1),
 oP 18 (.move (.t 138)),
 oP 19 (.move (.t 139))])
 (.seq (.region 0 [oP 140 (.move (.t 17)),
 oP 141 (.bin .eql (.t 140) (.c (.int .i64 0))),
 oP 142 (.move (.t 141)),
 oG 143 142 true (.move (.t 19)),
 oG 144 142 true (.bin .eql (.t 143) (.c (.int .i64 0))),
 oP 145 (.pick (.t 142) (.t 144) (.c (.bool false))),
 oP 146 (.move (.t 145)),
 oG 147 146 true (.move (.t 16)),
 oG 148 146 true (.move (.t 18)),
 oG 149 146 true (.bin .eql (.t 147) (.t 148)),
 oP 150 (.pick (.t 146) (.t 149) (.c (.bool false))),
 oP 151 (.move (.t 150)),
 ⟨(some 152), .call 1 18 [], (some (151, true)), none, []⟩,
 oP 153 (.pick (.t 151) (.t 152) (.c (.bool false))),
 oP 4 (.move (.t 153))])
 (.ret)))))))))))))⟩
/-- almadraba/almadrabalaw07.CutsHolds -/
def f12 : AFn := ⟨140, [.tmp 6],
 .seq (.region 0 [oP 6 (.move (.c (.bool false)))])
 (.seq (.seq (.region 0 [oP 23 (.move (.t 0)),
 oP 24 (.lenS (.t 23)),
 oP 25 (.bin .gtr (.t 24) (.c (.int .i64 40))),
 oP 26 (.move (.t 25)),
 oG 27 26 false (.move (.t 1)),
 oG 28 26 false (.lenS (.t 27)),
 oG 29 26 false (.bin .gtr (.t 28) (.c (.int .i64 40))),
 oP 30 (.pick (.t 26) (.c (.bool true)) (.t 29))])
 (.cond (.t 30) (.seq (.region 0 [oQ 31 (.call 1 18 []),
 oP 6 (.move (.t 31))])
 (.ret))
 (.skip)))
 (.seq (.region 0 [oP 32 (.move (.t 0)),
 oQ 33 (.call 1 42 [(.t 32)]),
 oQ 34 (.buildSlice 1 0 [.int .i64 0] []),
 oP 35 (.move (.t 1)),
 oQ 36 (.append false 1 8 (.t 34) (.t 35)),
 oP 7 (.move (.t 33)),
 oP 8 (.move (.t 36))])
 (.seq (.region 0 [oP 38 (.move (.t 7)),
 oP 39 (.move (.t 8)),
 oQ 40 (.call 1 21 [(.t 38), (.t 39)]),
 oP 37 (.move (.t 40)),
 oP 41 (.extract (.t 37) 0),
 oP 42 (.extract (.t 37) 1),
 oP 9 (.move (.t 41)),
 oP 10 (.move (.t 42))])
 (.seq (.region 0 [oP 44 (.move (.t 0)),
 oP 45 (.move (.t 1)),
 oQ 46 (.call 1 51 [(.t 44), (.t 45)]),
 oP 43 (.move (.t 46)),
 oP 47 (.extract (.t 43) 0),
 oP 48 (.extract (.t 43) 1),
 oP 11 (.move (.t 47)),
 oP 12 (.move (.t 48))])
 (.seq (.seq (.region 0 [oP 49 (.move (.t 7)),
 oQ 50 (.call 1 52 [(.t 49)]),
 oP 51 (.move (.t 0)),
 oQ 52 (.call 1 53 [(.t 51)]),
 oP 53 (.bin .neq (.t 50) (.t 52)),
 oP 54 (.move (.t 53)),
 oG 55 54 false (.move (.t 9)),
 oG 56 54 false (.move (.t 11)),
 oG 57 54 false (.eqB true (.t 55) (.t 56)),
 oP 58 (.pick (.t 54) (.c (.bool true)) (.t 57)),
 oP 59 (.move (.t 58)),
 oG 60 59 false (.move (.t 10)),
 oG 61 59 false (.move (.t 12)),
 oG 62 59 false (.bin .neq (.t 60) (.t 61)),
 oP 63 (.pick (.t 59) (.c (.bool true)) (.t 62)),
 oP 64 (.move (.t 63)),
 oG 65 64 false (.move (.t 8)),
 oG 66 64 false (.move (.t 1)),
 ⟨(some 67), .call 1 50 [(.t 65), (.t 66)], (some (64, false)), none, []⟩,
 oG 68 64 false (.un .not (.t 67)),
 oP 69 (.pick (.t 64) (.c (.bool true)) (.t 68))])
 (.cond (.t 69) (.seq (.region 0 [oP 6 (.move (.c (.bool false)))])
 (.ret))
 (.skip)))
 (.seq (.region 0 [oP 71 (.move (.t 7)),
 oP 72 (.move (.t 2)),
 oQ 73 (.call 1 32 [(.t 71), (.t 72)]),
 oP 70 (.move (.t 73)),
 oP 74 (.extract (.t 70) 0),
 oP 75 (.extract (.t 70) 1),
 oQ 13 (.alloc [.int .i64 0, .int .i64 0]),
 ⟨none, .store 2 (.t 13) (.t 74), none, none, []⟩,
 oP 10 (.move (.t 75))])
 (.seq (.region 0 [oP 77 (.move (.t 0)),
 oP 78 (.move (.t 2)),
 oQ 79 (.call 1 54 [(.t 77), (.t 78)]),
 oP 76 (.move (.t 79)),
 oP 80 (.extract (.t 76) 0),
 oP 81 (.extract (.t 76) 1),
 oQ 14 (.alloc [.int .i64 0, .int .i64 0]),
 ⟨none, .store 2 (.t 14) (.t 80), none, none, []⟩,
 oP 12 (.move (.t 81))])
 (.seq (.region 0 [oP 83 (.move (.t 7)),
 oP 84 (.move (.t 2)),
 oQ 85 (.call 1 23 [(.t 83), (.t 84)]),
 oP 82 (.move (.t 85)),
 oP 86 (.extract (.t 82) 0),
 oP 87 (.extract (.t 82) 1),
 oQ 15 (.alloc [.int .i64 0, .int .i64 0]),
 ⟨none, .store 2 (.t 15) (.t 86), none, none, []⟩,
 oP 16 (.move (.t 87))])
 (.seq (.region 0 [oP 89 (.move (.t 0)),
 oP 90 (.move (.t 2)),
 oQ 91 (.call 1 55 [(.t 89), (.t 90)]),
 oP 88 (.move (.t 91)),
 oP 92 (.extract (.t 88) 0),
 oP 93 (.extract (.t 88) 1),
 oQ 17 (.alloc [.int .i64 0, .int .i64 0]),
 ⟨none, .store 2 (.t 17) (.t 92), none, none, []⟩,
 oP 18 (.move (.t 93))])
 (.seq (.region 0 [oP 95 (.move (.t 7)),
 oQ 96 (.call 1 20 [(.t 95)]),
 oP 94 (.move (.t 96)),
 oP 97 (.extract (.t 94) 0),
 oP 98 (.extract (.t 94) 1),
 oQ 19 (.alloc [.int .i64 0, .int .i64 0]),
 ⟨none, .store 2 (.t 19) (.t 97), none, none, []⟩,
 oP 20 (.move (.t 98))])
 (.seq (.region 0 [oP 100 (.move (.t 0)),
 oQ 101 (.call 1 56 [(.t 100)]),
 oP 99 (.move (.t 101)),
 oP 102 (.extract (.t 99) 0),
 oP 103 (.extract (.t 99) 1),
 oQ 21 (.alloc [.int .i64 0, .int .i64 0]),
 ⟨none, .store 2 (.t 21) (.t 102), none, none, []⟩,
 oP 22 (.move (.t 103))])
 (.seq (.region 0 [oQ 104 (.load true 2 (.t 13)),
 oQ 105 (.load true 2 (.t 14)),
 oP 106 (.eqS false [true, true] (.t 104) (.t 105)),
 oP 107 (.move (.t 106)),
 oG 108 107 true (.move (.t 10)),
 oG 109 107 true (.move (.t 12)),
 oG 110 107 true (.bin .eql (.t 108) (.t 109)),
 oP 111 (.pick (.t 107) (.t 110) (.c (.bool false))),
 oP 112 (.move (.t 111)),
 ⟨(some 113), .load true 2 (.t 15), (some (112, true)), none, []⟩,
 ⟨(some 114), .load true 2 (.t 17), (some (112, true)), none, []⟩,
 oG 115 112 true (.eqS false [true, true] (.t 113) (.t 114)),
 oP 116 (.pick (.t 112) (.t 115) (.c (.bool false))),
 oP 117 (.move (.t 116)),
 oG 118 117 true (.move (.t 16)),
 oG 119 117 true (.move (.t 18)),
 oG 120 117 true (.bin .eql (.t 118) (.t 119)),
 oP 121 (.pick (.t 117) (.t 120) (.c (.bool false))),
 oP 122 (.move (.t 121)),
 ⟨(some 123), .load true 2 (.t 19), (some (122, true)), none, []⟩,
 ⟨(some 124), .load true 2 (.t 21), (some (122, true)), none, []⟩,
 oG 125 122 true (.eqS false [true, true] (.t 123) (.t 124)),
 oP 126 (.pick (.t 122) (.t 125) (.c (.bool false))),
 oP 127 (.move (.t 126)),
 oG 128 127 true (.move (.t 20)),
 oG 129 127 true (.move (.t 22)),
 oG 130 127 true (.bin .eql (.t 128) (.t 129)),
 oP 131 (.pick (.t 127) (.t 130) (.c (.bool false))),
 oP 132 (.move (.t 131)),
 oG 133 132 true (.move (.t 7)),
 oG 134 132 true (.move (.t 0)),
 ⟨(some 135), .call 1 57 [(.t 133), (.t 134)], (some (132, true)), none, []⟩,
 oP 136 (.pick (.t 132) (.t 135) (.c (.bool false))),
 oP 137 (.move (.t 136)),
 ⟨(some 138), .call 1 18 [], (some (137, true)), none, []⟩,
 oP 139 (.pick (.t 137) (.t 138) (.c (.bool false))),
 oP 6 (.move (.t 139))])
 (.ret)))))))))))))⟩
/-- almadraba/almadrabalaw07.ready -/
def f16 : AFn := ⟨11, [.tmp 2],
 .seq (.region 0 [oP 2 (.move (.c (.bool false)))])
 (.seq (.region 0 [oP 3 (.move (.t 0)),
 oP 4 (.lenS (.t 3)),
 oP 5 (.bin .leq (.t 4) (.c (.int .i64 40))),
 oP 6 (.move (.t 5)),
 oG 7 6 true (.move (.t 0)),
 ⟨(some 8), .call 1 53 [(.t 7)], (some (6, true)), none, []⟩,
 oG 9 6 true (.bin .eql (.t 8) (.c (.int .i64 0))),
 oP 10 (.pick (.t 6) (.t 9) (.c (.bool false))),
 oP 2 (.move (.t 10))])
 (.ret))⟩
/-- almadraba/almadrabaref07.IsTruth -/
def f17 : AFn := ⟨14, [.tmp 4],
 .seq (.region 0 [oP 4 (.move (.c (.bool false)))])
 (.seq (.region 0 [oP 5 (.move (.t 0)),
 oP 6 (.move (.t 1)),
 oQ 7 (.call 1 40 [(.t 5), (.t 6)]),
 oP 8 (.move (.t 7)),
 oG 9 8 true (.move (.t 0)),
 oG 10 8 true (.move (.t 1)),
 ⟨(some 11), .call 1 41 [(.t 9), (.t 10)], (some (8, true)), none, []⟩,
 oG 12 8 true (.bin .eql (.t 11) (.c (.int .i64 0))),
 oP 13 (.pick (.t 8) (.t 12) (.c (.bool false))),
 oP 4 (.move (.t 13))])
 (.ret))⟩
/-- almadraba/almadrabalaw07.works -/
def f18 : AFn := ⟨101, [.tmp 0],
 .seq (.region 0 [oP 0 (.move (.c (.bool false)))])
 (.seq (.region 0 [oQ 16 (.call 1 65 []),
 oP 15 (.move (.t 16)),
 oP 17 (.extract (.t 15) 0),
 oP 18 (.extract (.t 15) 1),
 oP 1 (.move (.t 17)),
 oP 2 (.move (.t 18))])
 (.seq (.region 0 [oP 20 (.move (.t 1)),
 oQ 21 (.call 1 32 [(.t 20), (.c (.int .i64 4))]),
 oP 19 (.move (.t 21)),
 oP 22 (.extract (.t 19) 0),
 oP 23 (.extract (.t 19) 1),
 oQ 3 (.alloc [.int .i64 0, .int .i64 0]),
 ⟨none, .store 2 (.t 3) (.t 22), none, none, []⟩,
 oP 4 (.move (.t 23))])
 (.seq (.region 0 [oP 25 (.move (.t 1)),
 oQ 26 (.litS 1 2 [.int .i64 0] [(0, (.c (.int .i64 0))), (1, (.c (.int .i64 1)))]),
 oQ 27 (.call 1 27 [(.t 25), (.t 26)]),
 oP 24 (.move (.t 27)),
 oP 28 (.extract (.t 24) 0),
 oP 29 (.extract (.t 24) 1),
 oQ 5 (.alloc [.int .i64 0, .int .i64 0]),
 ⟨none, .store 2 (.t 5) (.t 28), none, none, []⟩,
 oP 6 (.move (.t 29))])
 (.seq (.region 0 [oP 31 (.move (.t 1)),
 oQ 32 (.call 1 46 [(.t 31)]),
 oP 30 (.move (.t 32)),
 oP 33 (.extract (.t 30) 0),
 oP 34 (.extract (.t 30) 1),
 oP 7 (.move (.t 33)),
 oP 8 (.move (.t 34))])
 (.seq (.region 0 [oP 36 (.move (.t 2)),
 oQ 37 (.call 1 43 [(.t 36)]),
 oP 35 (.move (.t 37)),
 oP 38 (.extract (.t 35) 0),
 oP 39 (.extract (.t 35) 1),
 oP 9 (.move (.t 38)),
 oP 10 (.move (.t 39))])
 (.seq (.region 0 [oP 41 (.move (.t 2)),
 oQ 42 (.call 1 39 [(.t 41)]),
 oP 40 (.move (.t 42)),
 oP 43 (.extract (.t 40) 0),
 oP 44 (.extract (.t 40) 1),
 oP 11 (.move (.t 43)),
 oP 12 (.move (.t 44))])
 (.seq (.region 0 [oP 46 (.move (.t 1)),
 oQ 47 (.litS 1 1 [.int .i64 0] [(0, (.c (.int .i64 0)))]),
 oQ 48 (.call 1 28 [(.t 46), (.c (.nils)), (.t 47)]),
 oP 45 (.move (.t 48)),
 oP 49 (.extract (.t 45) 0),
 oP 50 (.extract (.t 45) 1),
 oP 13 (.move (.t 49)),
 oP 14 (.move (.t 50))])
 (.seq (.region 0 [oP 51 (.move (.t 4)),
 oP 52 (.bin .eql (.t 51) (.c (.int .i64 0))),
 oP 53 (.move (.t 52)),
 oG 54 53 true (.move (.t 6)),
 oG 55 53 true (.bin .eql (.t 54) (.c (.int .i64 0))),
 oP 56 (.pick (.t 53) (.t 55) (.c (.bool false))),
 oP 57 (.move (.t 56)),
 oG 58 57 true (.move (.t 8)),
 oG 59 57 true (.bin .eql (.t 58) (.c (.int .i64 0))),
 oP 60 (.pick (.t 57) (.t 59) (.c (.bool false))),
 oP 61 (.move (.t 60)),
 oG 62 61 true (.move (.t 10)),
 oG 63 61 true (.bin .eql (.t 62) (.c (.int .i64 0))),
 oP 64 (.pick (.t 61) (.t 63) (.c (.bool false))),
 oP 65 (.move (.t 64)),
 oG 66 65 true (.move (.t 12)),
 oG 67 65 true (.bin .eql (.t 66) (.c (.int .i64 0))),
 oP 68 (.pick (.t 65) (.t 67) (.c (.bool false))),
 oP 69 (.move (.t 68)),
 oG 70 69 true (.move (.t 14)),
 oG 71 69 true (.bin .eql (.t 70) (.c (.int .i64 0))),
 oP 72 (.pick (.t 69) (.t 71) (.c (.bool false))),
 oP 73 (.move (.t 72)),
 ⟨(some 74), .load true 2 (.t 3), (some (73, true)), none, []⟩,
 oG 75 73 true (.build [.int .i64 0, .int .i64 0] [(0, 1, (.c (.int .i64 0))), (1, 1, (.c (.int .i64 6)))]),
 oG 76 73 true (.eqS false [true, true] (.t 74) (.t 75)),
 oP 77 (.pick (.t 73) (.t 76) (.c (.bool false))),
 oP 78 (.move (.t 77)),
 ⟨(some 79), .load true 2 (.t 5), (some (78, true)), none, []⟩,
 oG 80 78 true (.build [.int .i64 0, .int .i64 0] [(0, 1, (.c (.int .i64 72))), (1, 1, (.c (.int .i64 87)))]),
 oG 81 78 true (.eqS false [true, true] (.t 79) (.t 80)),
 oP 82 (.pick (.t 78) (.t 81) (.c (.bool false))),
 oP 83 (.move (.t 82)),
 oG 84 83 true (.move (.t 7)),
 ⟨(some 85), .litS 1 2 [.int .i64 0] [(0, (.c (.int .i64 0))), (1, (.c (.int .i64 1)))], (some (83, true)), none, []⟩,
 ⟨(some 86), .call 1 50 [(.t 84), (.t 85)], (some (83, true)), none, []⟩,
 oP 87 (.pick (.t 83) (.t 86) (.c (.bool false))),
 oP 88 (.move (.t 87)),
 oG 89 88 true (.move (.t 9)),
 oG 90 88 true (.bin .eql (.t 89) (.c (.int .i64 2))),
 oP 91 (.pick (.t 88) (.t 90) (.c (.bool false))),
 oP 92 (.move (.t 91)),
 oG 93 92 true (.move (.t 11)),
 ⟨(some 94), .litS 1 5 [.int .i64 0] [(0, (.c (.int .i64 19))), (1, (.c (.int .i64 6))), (2, (.c (.int .i64 10))), (3, (.c (.int .i64 6))), (4, (.c (.int .i64 0)))], (some (92, true)), none, []⟩,
 ⟨(some 95), .call 1 50 [(.t 93), (.t 94)], (some (92, true)), none, []⟩,
 oP 96 (.pick (.t 92) (.t 95) (.c (.bool false))),
 oP 97 (.move (.t 96)),
 oG 98 97 true (.move (.t 13)),
 oG 99 97 true (.bin .eql (.t 98) (.c (.int .i64 2))),
 oP 100 (.pick (.t 97) (.t 99) (.c (.bool false))),
 oP 0 (.move (.t 100))])
 (.ret)))))))))⟩
/-- almadraba/almadrabalaw07.weights -/
def f19 : AFn := ⟨37, [.tmp 2, .tmp 3],
 .seq (.region 0 [oP 2 (.move (.c (.nils))),
 oP 3 (.move (.c (.bool false)))])
 (.seq (.region 0 [oP 4 (.move (.c (.nils)))])
 (.seq (.seq (.region 0 [oP 5 (.move (.c (.int .i64 0)))])
 (.block 0 (.loop (.seq (.seq (.region 0 [oP 8 (.move (.t 5)),
 oP 9 (.move (.t 0)),
 oP 10 (.lenS (.t 9)),
 oP 11 (.bin .lss (.t 8) (.t 10))])
 (.cond (.t 11) (.skip)
 (.exit 0)))
 (.seq (.block 1 (.seq (.region 0 [oP 15 (.move (.t 0)),
 oP 16 (.move (.t 5)),
 oQ 17 (.call 1 32 [(.t 15), (.t 16)]),
 oP 14 (.move (.t 17)),
 oP 18 (.extract (.t 14) 0),
 oP 19 (.extract (.t 14) 1),
 oQ 6 (.alloc [.int .i64 0, .int .i64 0]),
 ⟨none, .store 2 (.t 6) (.t 18), none, none, []⟩,
 oP 7 (.move (.t 19))])
 (.seq (.seq (.region 0 [oP 20 (.move (.t 7)),
 oP 21 (.bin .neq (.t 20) (.c (.int .i64 0))),
 oP 22 (.move (.t 21)),
 ⟨(some 23), .load true 2 (.t 6), (some (22, false)), none, []⟩,
 oG 24 22 false (.move (.t 0)),
 oG 25 22 false (.move (.t 5)),
 oG 26 22 false (.idxSl 6 (.t 24) (.t 25)),
 oG 27 22 false (.fieldAddr 1 (.t 26)),
 ⟨(some 28), .load true 2 (.t 27), (some (22, false)), none, []⟩,
 ⟨(some 29), .call 1 35 [(.t 23), (.t 28)], (some (22, false)), none, []⟩,
 oG 30 22 false (.un .not (.t 29)),
 oP 31 (.pick (.t 22) (.c (.bool true)) (.t 30))])
 (.cond (.t 31) (.seq (.region 0 [oP 2 (.move (.c (.nils))),
 oP 3 (.move (.c (.bool false)))])
 (.ret))
 (.skip)))
 (.region 0 [oP 32 (.move (.t 4)),
 oQ 33 (.load true 2 (.t 6)),
 oQ 34 (.litS 2 1 [.int .i64 0, .int .i64 0] [(0, (.t 33))]),
 oQ 35 (.append false 2 16 (.t 32) (.t 34)),
 oP 4 (.move (.t 35))]))))
 (.region 0 [oP 12 (.move (.t 5)),
 oP 13 (.bin .add (.t 12) (.c (.int .i64 1))),
 oP 5 (.move (.t 13))]))))))
 (.seq (.region 0 [oP 36 (.move (.t 4)),
 oP 2 (.move (.t 36)),
 oP 3 (.move (.c (.bool true)))])
 (.ret))))⟩
/-- almadraba/cuts.Whole -/
def f20 : AFn := ⟨17, [.cell true 2 2, .tmp 3],
 .seq (.region 0 [oQ 2 (.alloc [.int .i64 0, .int .i64 0]),
 oP 3 (.move (.c (.int .i64 0)))])
 (.seq (.seq (.region 0 [oP 5 (.move (.t 0)),
 oQ 6 (.call 1 52 [(.t 5)]),
 oP 4 (.move (.t 6))])
 (.seq (.region 0 [oP 7 (.move (.t 4)),
 oP 8 (.bin .neq (.t 7) (.c (.int .i64 0)))])
 (.cond (.t 8) (.seq (.region 0 [oP 9 (.build [.int .i64 0, .int .i64 0] []),
 oP 10 (.move (.t 4)),
 ⟨none, .store 2 (.t 2) (.t 9), none, none, []⟩,
 oP 3 (.move (.t 10))])
 (.ret))
 (.skip))))
 (.seq (.region 0 [oP 11 (.move (.t 0)),
 oP 12 (.move (.t 0)),
 oQ 13 (.call 1 67 [(.t 12)]),
 oQ 14 (.call 1 66 [(.t 11), (.t 13)]),
 oP 15 (.extract (.t 14) 0),
 oP 16 (.extract (.t 14) 1),
 ⟨none, .store 2 (.t 2) (.t 15), none, none, []⟩,
 oP 3 (.move (.t 16))])
 (.ret)))⟩
/-- almadraba/cuts.Holds -/
def f21 : AFn := ⟨15, [.tmp 4, .tmp 5],
 .seq (.region 0 [oP 4 (.move (.c (.bool false))),
 oP 5 (.move (.c (.int .i64 0)))])
 (.seq (.seq (.region 0 [oP 7 (.move (.t 0)),
 oQ 8 (.call 1 52 [(.t 7)]),
 oP 6 (.move (.t 8))])
 (.seq (.region 0 [oP 9 (.move (.t 6)),
 oP 10 (.bin .neq (.t 9) (.c (.int .i64 0)))])
 (.cond (.t 10) (.seq (.region 0 [oP 11 (.move (.t 6)),
 oP 4 (.move (.c (.bool false))),
 oP 5 (.move (.t 11))])
 (.ret))
 (.skip))))
 (.seq (.region 0 [oP 12 (.move (.t 0)),
 oP 13 (.move (.t 1)),
 oQ 14 (.call 1 68 [(.t 12), (.t 13)]),
 oP 4 (.move (.t 14)),
 oP 5 (.move (.c (.int .i64 0)))])
 (.ret)))⟩
/-- almadraba/almadrabalaw07.has -/
def f22 : AFn := ⟨15, [.tmp 4],
 .seq (.region 0 [oQ 2 (.box (.t 0)),
 oP 4 (.move (.c (.bool false)))])
 (.seq (.region 0 [oP 5 (.fieldAddr 0 (.t 2)),
 oQ 6 (.load false 1 (.t 5)),
 oP 7 (.move (.t 1)),
 oP 8 (.bin .leq (.t 6) (.t 7)),
 oP 9 (.move (.t 8)),
 oG 10 9 true (.move (.t 1)),
 oG 11 9 true (.fieldAddr 1 (.t 2)),
 ⟨(some 12), .load false 1 (.t 11), (some (9, true)), none, []⟩,
 oG 13 9 true (.bin .leq (.t 10) (.t 12)),
 oP 14 (.pick (.t 9) (.t 13) (.c (.bool false))),
 oP 4 (.move (.t 14))])
 (.ret))⟩
/-- almadraba/cuts.Lost -/
def f23 : AFn := ⟨26, [.cell true 2 4, .tmp 5],
 .seq (.region 0 [oQ 4 (.alloc [.int .i64 0, .int .i64 0]),
 oP 5 (.move (.c (.int .i64 0)))])
 (.seq (.seq (.region 0 [oP 7 (.move (.t 0)),
 oP 8 (.move (.t 1)),
 oQ 9 (.call 1 69 [(.t 7), (.t 8)]),
 oP 6 (.move (.t 9))])
 (.seq (.region 0 [oP 10 (.move (.t 6)),
 oP 11 (.bin .neq (.t 10) (.c (.int .i64 0)))])
 (.cond (.t 11) (.seq (.region 0 [oP 12 (.build [.int .i64 0, .int .i64 0] []),
 oP 13 (.move (.t 6)),
 ⟨none, .store 2 (.t 4) (.t 12), none, none, []⟩,
 oP 5 (.move (.t 13))])
 (.ret))
 (.skip))))
 (.seq (.seq (.region 0 [oP 14 (.move (.t 0)),
 oP 15 (.move (.t 1)),
 oQ 16 (.call 1 70 [(.t 14), (.t 15)]),
 oP 17 (.un .not (.t 16))])
 (.cond (.t 17) (.seq (.region 0 [oP 18 (.build [.int .i64 0, .int .i64 0] []),
 ⟨none, .store 2 (.t 4) (.t 18), none, none, []⟩,
 oP 5 (.move (.c (.int .i64 1)))])
 (.ret))
 (.skip)))
 (.seq (.region 0 [oP 19 (.move (.t 0)),
 oP 20 (.move (.t 0)),
 oP 21 (.move (.t 1)),
 oQ 22 (.call 1 71 [(.t 20), (.t 21)]),
 oQ 23 (.call 1 66 [(.t 19), (.t 22)]),
 oP 24 (.extract (.t 23) 0),
 oP 25 (.extract (.t 23) 1),
 ⟨none, .store 2 (.t 4) (.t 24), none, none, []⟩,
 oP 5 (.move (.t 25))])
 (.ret))))⟩
/-- almadraba/almadrabaref07.CanCut -/
def f24 : AFn := ⟨19, [.tmp 4],
 .seq (.region 0 [oP 4 (.move (.c (.bool false)))])
 (.seq (.seq (.region 0 [oP 5 (.move (.c (.int .i64 0)))])
 (.block 0 (.loop (.seq (.seq (.region 0 [oP 6 (.move (.t 5)),
 oP 7 (.move (.t 0)),
 oP 8 (.lenS (.t 7)),
 oP 9 (.bin .lss (.t 6) (.t 8))])
 (.cond (.t 9) (.skip)
 (.exit 0)))
 (.seq (.block 1 (.seq (.region 0 [oP 12 (.move (.t 0)),
 oP 13 (.move (.t 5)),
 oP 14 (.idxSl 6 (.t 12) (.t 13)),
 oP 15 (.fieldAddr 0 (.t 14)),
 oQ 16 (.load false 1 (.t 15)),
 oP 17 (.move (.t 1)),
 oP 18 (.bin .eql (.t 16) (.t 17))])
 (.cond (.t 18) (.seq (.region 0 [oP 4 (.move (.c (.bool true)))])
 (.ret))
 (.skip))))
 (.region 0 [oP 10 (.move (.t 5)),
 oP 11 (.bin .add (.t 10) (.c (.int .i64 1))),
 oP 5 (.move (.t 11))]))))))
 (.seq (.region 0 [oP 4 (.move (.c (.bool false)))])
 (.ret)))⟩
/-- almadraba/almadrabaref07.LostOf -/
def f25 : AFn := ⟨33, [.tmp 6],
 .seq (.region 0 [oP 6 (.move (.c (.int .i64 0)))])
 (.seq (.region 0 [oP 9 (.move (.t 1)),
 oP 10 (.move (.t 2)),
 oP 11 (.idxSl 1 (.t 9) (.t 10)),
 oQ 12 (.load false 1 (.t 11)),
 oP 7 (.move (.t 12))])
 (.seq (.seq (.region 0 [oP 8 (.move (.c (.int .i64 0)))])
 (.block 0 (.loop (.seq (.seq (.region 0 [oP 13 (.move (.t 8)),
 oP 14 (.move (.t 0)),
 oP 15 (.lenS (.t 14)),
 oP 16 (.bin .lss (.t 13) (.t 15))])
 (.cond (.t 16) (.skip)
 (.exit 0)))
 (.seq (.block 1 (.seq (.region 0 [oP 19 (.move (.t 0)),
 oP 20 (.move (.t 8)),
 oP 21 (.idxSl 6 (.t 19) (.t 20)),
 oP 22 (.fieldAddr 0 (.t 21)),
 oQ 23 (.load false 1 (.t 22)),
 oP 24 (.move (.t 2)),
 oP 25 (.bin .eql (.t 23) (.t 24))])
 (.cond (.t 25) (.region 0 [oP 26 (.move (.t 7)),
 oP 27 (.move (.t 1)),
 oP 28 (.move (.t 8)),
 oP 29 (.idxSl 1 (.t 27) (.t 28)),
 oQ 30 (.load false 1 (.t 29)),
 oP 31 (.bin .sub (.t 26) (.t 30)),
 oP 7 (.move (.t 31))])
 (.skip))))
 (.region 0 [oP 17 (.move (.t 8)),
 oP 18 (.bin .add (.t 17) (.c (.int .i64 1))),
 oP 8 (.move (.t 18))]))))))
 (.seq (.region 0 [oP 32 (.move (.t 7)),
 oP 6 (.move (.t 32))])
 (.ret))))⟩
/-- almadraba/almadrabalaw07.areCuts -/
def f26 : AFn := ⟨27, [.tmp 4],
 .seq (.region 0 [oQ 3 (.box (.t 1)),
 oP 4 (.move (.c (.bool false)))])
 (.seq (.region 0 [oP 5 (.fieldAddr 0 (.t 3)),
 oQ 6 (.load false 1 (.t 5)),
 oP 7 (.lenS (.t 6)),
 oP 8 (.bin .leq (.t 7) (.c (.int .i64 40))),
 oP 9 (.move (.t 8)),
 oG 10 9 true (.fieldAddr 1 (.t 3)),
 ⟨(some 11), .load false 1 (.t 10), (some (9, true)), none, []⟩,
 oG 12 9 true (.lenS (.t 11)),
 oG 13 9 true (.bin .leq (.t 12) (.c (.int .i64 40))),
 oP 14 (.pick (.t 9) (.t 13) (.c (.bool false))),
 oP 15 (.move (.t 14)),
 oG 16 15 true (.move (.t 0)),
 oG 17 15 true (.fieldAddr 0 (.t 3)),
 ⟨(some 18), .load false 1 (.t 17), (some (15, true)), none, []⟩,
 ⟨(some 19), .call 1 47 [(.t 16), (.t 18)], (some (15, true)), none, []⟩,
 oP 20 (.pick (.t 15) (.t 19) (.c (.bool false))),
 oP 21 (.move (.t 20)),
 oG 22 21 true (.move (.t 0)),
 oG 23 21 true (.fieldAddr 1 (.t 3)),
 ⟨(some 24), .load false 1 (.t 23), (some (21, true)), none, []⟩,
 ⟨(some 25), .call 1 47 [(.t 22), (.t 24)], (some (21, true)), none, []⟩,
 oP 26 (.pick (.t 21) (.t 25) (.c (.bool false))),
 oP 4 (.move (.t 26))])
 (.ret))⟩
/-- almadraba/cuts.Price -/
def f27 : AFn := ⟨22, [.cell true 2 4, .tmp 5],
 .seq (.region 0 [oQ 4 (.alloc [.int .i64 0, .int .i64 0]),
 oP 5 (.move (.c (.int .i64 0)))])
 (.seq (.seq (.region 0 [oP 7 (.move (.t 0)),
 oP 8 (.move (.t 1)),
 oQ 9 (.litS 1 1 [.nils] [(0, (.t 8))]),
 oQ 10 (.call 1 72 [(.t 7), (.t 9)]),
 oP 6 (.move (.t 10))])
 (.seq (.region 0 [oP 11 (.move (.t 6)),
 oP 12 (.bin .neq (.t 11) (.c (.int .i64 0)))])
 (.cond (.t 12) (.seq (.region 0 [oP 13 (.build [.int .i64 0, .int .i64 0] []),
 oP 14 (.move (.t 6)),
 ⟨none, .store 2 (.t 4) (.t 13), none, none, []⟩,
 oP 5 (.move (.t 14))])
 (.ret))
 (.skip))))
 (.seq (.region 0 [oP 15 (.move (.t 0)),
 oP 16 (.move (.t 0)),
 oP 17 (.move (.t 1)),
 oQ 18 (.call 1 73 [(.t 16), (.t 17)]),
 oQ 19 (.call 1 66 [(.t 15), (.t 18)]),
 oP 20 (.extract (.t 19) 0),
 oP 21 (.extract (.t 19) 1),
 ⟨none, .store 2 (.t 4) (.t 20), none, none, []⟩,
 oP 5 (.move (.t 21))])
 (.ret)))⟩
/-- almadraba/cuts.Rank -/
def f28 : AFn := ⟨45, [.tmp 6, .tmp 7],
 .seq (.region 0 [oP 6 (.move (.c (.int .i64 0))),
 oP 7 (.move (.c (.int .i64 0)))])
 (.seq (.seq (.region 0 [oP 12 (.move (.t 0)),
 oP 13 (.move (.t 1)),
 oP 14 (.move (.t 2)),
 oQ 15 (.litS 1 2 [.nils] [(0, (.t 13)), (1, (.t 14))]),
 oQ 16 (.call 1 72 [(.t 12), (.t 15)]),
 oP 8 (.move (.t 16))])
 (.seq (.region 0 [oP 17 (.move (.t 8)),
 oP 18 (.bin .neq (.t 17) (.c (.int .i64 0)))])
 (.cond (.t 18) (.seq (.region 0 [oP 19 (.move (.t 8)),
 oP 6 (.move (.c (.int .i64 0))),
 oP 7 (.move (.t 19))])
 (.ret))
 (.skip))))
 (.seq (.region 0 [oP 20 (.move (.t 0)),
 oP 9 (.move (.t 20))])
 (.seq (.region 0 [oP 22 (.move (.t 9)),
 oP 23 (.move (.t 9)),
 oP 24 (.move (.t 1)),
 oQ 25 (.call 1 73 [(.t 23), (.t 24)]),
 oP 26 (.move (.t 9)),
 oP 27 (.move (.t 2)),
 oQ 28 (.call 1 73 [(.t 26), (.t 27)]),
 oQ 29 (.call 1 74 [(.t 25), (.t 28)]),
 oQ 30 (.call 1 66 [(.t 22), (.t 29)]),
 oP 21 (.move (.t 30)),
 oP 31 (.extract (.t 21) 0),
 oP 32 (.extract (.t 21) 1),
 oQ 10 (.alloc [.int .i64 0, .int .i64 0]),
 ⟨none, .store 2 (.t 10) (.t 31), none, none, []⟩,
 oP 11 (.move (.t 32))])
 (.seq (.block 0 (.seq (.region 0 [oP 34 (.move (.t 11)),
 oP 35 (.bin .neq (.t 34) (.c (.int .i64 0))),
 oP 33 (.move (.t 35))])
 (.cond (.t 33) (.seq (.region 0 [oP 36 (.move (.t 11)),
 oP 6 (.move (.c (.int .i64 0))),
 oP 7 (.move (.t 36))])
 (.ret))
 (.seq (.region 0 [oP 38 (.fieldAddr 0 (.t 10)),
 oQ 39 (.load false 1 (.t 38)),
 oP 40 (.bin .gtr (.t 39) (.c (.int .i64 0))),
 oP 37 (.move (.t 40))])
 (.cond (.t 37) (.seq (.region 0 [oP 6 (.move (.c (.int .i64 1))),
 oP 7 (.move (.c (.int .i64 0)))])
 (.ret))
 (.seq (.region 0 [oP 42 (.fieldAddr 1 (.t 10)),
 oQ 43 (.load false 1 (.t 42)),
 oP 44 (.bin .leq (.t 43) (.c (.int .i64 0))),
 oP 41 (.move (.t 44))])
 (.cond (.t 41) (.seq (.region 0 [oP 6 (.move (.c (.int .i64 2))),
 oP 7 (.move (.c (.int .i64 0)))])
 (.ret))
 (.skip))))))))
 (.seq (.region 0 [oP 6 (.move (.c (.int .i64 3))),
 oP 7 (.move (.c (.int .i64 0)))])
 (.ret))))))⟩
/-- almadraba/almadrabalaw07.paid -/
def f29 : AFn := ⟨31, [.tmp 6],
 .seq (.region 0 [oP 6 (.move (.c (.int .i64 0)))])
 (.seq (.region 0 [oP 10 (.move (.t 0)),
 oP 11 (.move (.t 1)),
 oQ 12 (.call 1 75 [(.t 10), (.t 11)]),
 oP 7 (.move (.t 12))])
 (.seq (.region 0 [oP 8 (.move (.c (.int .i64 0)))])
 (.seq (.seq (.region 0 [oP 9 (.move (.c (.int .i64 0)))])
 (.block 0 (.loop (.seq (.seq (.region 0 [oP 13 (.move (.t 9)),
 oP 14 (.move (.t 0)),
 oP 15 (.lenS (.t 14)),
 oP 16 (.bin .lss (.t 13) (.t 15))])
 (.cond (.t 16) (.skip)
 (.exit 0)))
 (.seq (.block 1 (.region 0 [oP 19 (.move (.t 8)),
 oP 20 (.move (.t 7)),
 oP 21 (.move (.t 9)),
 oP 22 (.idxSl 1 (.t 20) (.t 21)),
 oQ 23 (.load false 1 (.t 22)),
 oP 24 (.move (.t 2)),
 oP 25 (.move (.t 9)),
 oP 26 (.idxSl 1 (.t 24) (.t 25)),
 oQ 27 (.load false 1 (.t 26)),
 oP 28 (.bin .mul (.t 23) (.t 27)),
 oP 29 (.bin .add (.t 19) (.t 28)),
 oP 8 (.move (.t 29))]))
 (.region 0 [oP 17 (.move (.t 9)),
 oP 18 (.bin .add (.t 17) (.c (.int .i64 1))),
 oP 9 (.move (.t 18))]))))))
 (.seq (.region 0 [oP 30 (.move (.t 8)),
 oP 6 (.move (.t 30))])
 (.ret)))))⟩
/-- almadraba/almadrabaref01.Within -/
def f30 : AFn := ⟨15, [.tmp 6],
 .seq (.region 0 [oP 6 (.move (.c (.bool false)))])
 (.seq (.region 0 [oP 7 (.move (.t 1)),
 oP 8 (.move (.t 0)),
 oP 9 (.bin .leq (.t 7) (.t 8)),
 oP 10 (.move (.t 9)),
 oG 11 10 true (.move (.t 0)),
 oG 12 10 true (.move (.t 2)),
 oG 13 10 true (.bin .leq (.t 11) (.t 12)),
 oP 14 (.pick (.t 10) (.t 13) (.c (.bool false))),
 oP 6 (.move (.t 14))])
 (.ret))⟩
/-- almadraba/almadrabaref07.IsPart -/
def f31 : AFn := ⟨10, [.tmp 4],
 .seq (.region 0 [oP 4 (.move (.c (.bool false)))])
 (.seq (.region 0 [oP 5 (.move (.t 1)),
 oP 6 (.move (.t 0)),
 oP 7 (.lenS (.t 6)),
 oP 8 (.bin .sub (.t 7) (.c (.int .i64 1))),
 oQ 9 (.call 1 76 [(.t 5), (.c (.int .i64 0)), (.t 8)]),
 oP 4 (.move (.t 9))])
 (.ret))⟩
/-- almadraba/cuts.Weight -/
def f32 : AFn := ⟨20, [.cell true 2 4, .tmp 5],
 .seq (.region 0 [oQ 4 (.alloc [.int .i64 0, .int .i64 0]),
 oP 5 (.move (.c (.int .i64 0)))])
 (.seq (.seq (.region 0 [oP 7 (.move (.t 0)),
 oP 8 (.move (.t 1)),
 oQ 9 (.call 1 69 [(.t 7), (.t 8)]),
 oP 6 (.move (.t 9))])
 (.seq (.region 0 [oP 10 (.move (.t 6)),
 oP 11 (.bin .neq (.t 10) (.c (.int .i64 0)))])
 (.cond (.t 11) (.seq (.region 0 [oP 12 (.build [.int .i64 0, .int .i64 0] []),
 oP 13 (.move (.t 6)),
 ⟨none, .store 2 (.t 4) (.t 12), none, none, []⟩,
 oP 5 (.move (.t 13))])
 (.ret))
 (.skip))))
 (.seq (.region 0 [oP 14 (.move (.t 0)),
 oP 15 (.move (.t 1)),
 oQ 16 (.call 1 77 [(.t 15)]),
 oQ 17 (.call 1 66 [(.t 14), (.t 16)]),
 oP 18 (.extract (.t 17) 0),
 oP 19 (.extract (.t 17) 1),
 ⟨none, .store 2 (.t 4) (.t 18), none, none, []⟩,
 oP 5 (.move (.t 19))])
 (.ret)))⟩
/-- almadraba/almadrabalaw07.isKnown -/
def f33 : AFn := ⟨9, [.tmp 2],
 .seq (.region 0 [oP 2 (.move (.c (.bool false)))])
 (.seq (.region 0 [oP 3 (.move (.t 0)),
 oP 4 (.bin .eql (.t 3) (.c (.int .i64 0))),
 oP 5 (.move (.t 4)),
 oG 6 5 false (.move (.t 0)),
 oG 7 5 false (.bin .eql (.t 6) (.c (.int .i64 3))),
 oP 8 (.pick (.t 5) (.c (.bool true)) (.t 7)),
 oP 2 (.move (.t 8))])
 (.ret))⟩
/-- almadraba/almadrabaref07.IsOne -/
def f34 : AFn := ⟨8, [.tmp 2],
 .seq (.region 0 [oP 2 (.move (.c (.bool false)))])
 (.seq (.region 0 [oP 3 (.move (.t 0)),
 oP 4 (.move (.t 0)),
 oQ 5 (.call 1 80 [(.t 4)]),
 oQ 6 (.call 1 79 [(.t 3), (.t 5)]),
 oQ 7 (.call 1 78 [(.t 6)]),
 oP 2 (.move (.t 7))])
 (.ret))⟩
/-- almadraba/almadrabalaw07.inside -/
def f35 : AFn := ⟨24, [.tmp 4],
 .seq (.region 0 [oQ 2 (.box (.t 0)),
 oQ 3 (.box (.t 1)),
 oP 4 (.move (.c (.bool false)))])
 (.seq (.region 0 [oP 5 (.fieldAddr 0 (.t 3)),
 oQ 6 (.load false 1 (.t 5)),
 oP 7 (.fieldAddr 0 (.t 2)),
 oQ 8 (.load false 1 (.t 7)),
 oP 9 (.bin .leq (.t 6) (.t 8)),
 oP 10 (.move (.t 9)),
 oG 11 10 true (.fieldAddr 0 (.t 2)),
 ⟨(some 12), .load false 1 (.t 11), (some (10, true)), none, []⟩,
 oG 13 10 true (.fieldAddr 1 (.t 2)),
 ⟨(some 14), .load false 1 (.t 13), (some (10, true)), none, []⟩,
 oG 15 10 true (.bin .leq (.t 12) (.t 14)),
 oP 16 (.pick (.t 10) (.t 15) (.c (.bool false))),
 oP 17 (.move (.t 16)),
 oG 18 17 true (.fieldAddr 1 (.t 2)),
 ⟨(some 19), .load false 1 (.t 18), (some (17, true)), none, []⟩,
 oG 20 17 true (.fieldAddr 1 (.t 3)),
 ⟨(some 21), .load false 1 (.t 20), (some (17, true)), none, []⟩,
 oG 22 17 true (.bin .leq (.t 19) (.t 21)),
 oP 23 (.pick (.t 17) (.t 22) (.c (.bool false))),
 oP 4 (.move (.t 23))])
 (.ret))⟩
/-- almadraba/almadrabaref07.Only -/
def f36 : AFn := ⟨24, [.tmp 6],
 .seq (.region 0 [oP 6 (.move (.c (.nils)))])
 (.seq (.region 0 [oP 9 (.move (.t 0)),
 oQ 10 (.call 2 42 [(.t 9)]),
 oP 7 (.move (.t 10))])
 (.seq (.region 0 [oP 11 (.move (.t 7)),
 oP 12 (.move (.t 1)),
 oP 13 (.idxSl 6 (.t 11) (.t 12)),
 oQ 14 (.load true 6 (.t 13)),
 oQ 8 (.alloc [.int .i64 0, .int .i64 0, .int .i64 0, .int .i64 0, .int .i64 0, .int .i64 0]),
 ⟨none, .store 6 (.t 8) (.t 14), none, none, []⟩])
 (.seq (.region 0 [oP 15 (.move (.t 2)),
 oP 16 (.move (.t 2)),
 oP 17 (.build [.int .i64 0, .int .i64 0] [(0, 1, (.t 15)), (1, 1, (.t 16))]),
 oP 18 (.fieldAddr 1 (.t 8)),
 ⟨none, .store 2 (.t 18) (.t 17), none, none, []⟩])
 (.seq (.region 0 [oP 19 (.move (.t 7)),
 oP 20 (.move (.t 1)),
 oQ 21 (.load true 6 (.t 8)),
 oP 22 (.idxSl 6 (.t 19) (.t 20)),
 ⟨none, .store 6 (.t 22) (.t 21), none, none, []⟩])
 (.seq (.region 0 [oP 23 (.move (.t 7)),
 oP 6 (.move (.t 23))])
 (.ret))))))⟩
/-- almadraba/almadrabalaw07.cleared -/
def f37 : AFn := ⟨36, [.tmp 4, .cell true 2 5],
 .seq (.region 0 [oQ 3 (.box (.t 1)),
 oP 4 (.move (.c (.nils))),
 oQ 5 (.alloc [.int .i64 0, .int .i64 0])])
 (.seq (.region 0 [oP 9 (.move (.t 0)),
 oQ 10 (.call 2 42 [(.t 9)]),
 oP 6 (.move (.t 10))])
 (.seq (.region 0 [oP 11 (.move (.t 6)),
 oP 12 (.fieldAddr 0 (.t 3)),
 oQ 13 (.load false 1 (.t 12)),
 oP 14 (.idxSl 6 (.t 11) (.t 13)),
 oQ 15 (.load true 6 (.t 14)),
 oQ 7 (.alloc [.int .i64 0, .int .i64 0, .int .i64 0, .int .i64 0, .int .i64 0, .int .i64 0]),
 ⟨none, .store 6 (.t 7) (.t 15), none, none, []⟩])
 (.seq (.region 0 [oP 16 (.fieldAddr 1 (.t 7)),
 oQ 17 (.load true 2 (.t 16)),
 oQ 8 (.alloc [.int .i64 0, .int .i64 0]),
 ⟨none, .store 2 (.t 8) (.t 17), none, none, []⟩])
 (.seq (.seq (.region 0 [oP 18 (.fieldAddr 1 (.t 3)),
 oQ 19 (.load false 1 (.t 18)),
 oP 20 (.bin .eql (.t 19) (.c (.int .i64 1)))])
 (.cond (.t 20) (.seq (.region 0 [oP 21 (.fieldAddr 3 (.t 7)),
 oQ 22 (.load true 2 (.t 21)),
 ⟨none, .store 2 (.t 8) (.t 22), none, none, []⟩])
 (.region 0 [oP 23 (.fieldAddr 2 (.t 3)),
 oQ 24 (.load true 2 (.t 23)),
 oP 25 (.fieldAddr 3 (.t 7)),
 ⟨none, .store 2 (.t 25) (.t 24), none, none, []⟩]))
 (.region 0 [oP 26 (.fieldAddr 2 (.t 3)),
 oQ 27 (.load true 2 (.t 26)),
 oP 28 (.fieldAddr 1 (.t 7)),
 ⟨none, .store 2 (.t 28) (.t 27), none, none, []⟩])))
 (.seq (.region 0 [oP 29 (.move (.t 6)),
 oP 30 (.fieldAddr 0 (.t 3)),
 oQ 31 (.load false 1 (.t 30)),
 oQ 32 (.load true 6 (.t 7)),
 oP 33 (.idxSl 6 (.t 29) (.t 31)),
 ⟨none, .store 6 (.t 33) (.t 32), none, none, []⟩])
 (.seq (.region 0 [oP 34 (.move (.t 6)),
 oQ 35 (.load true 2 (.t 8)),
 oP 4 (.move (.t 34)),
 ⟨none, .store 2 (.t 5) (.t 35), none, none, []⟩])
 (.ret)))))))⟩
end Go.Proofs.Yteonklnjchefiaa.T
