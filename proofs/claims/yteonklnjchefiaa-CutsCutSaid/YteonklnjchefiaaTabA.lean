/-
The code of functions of the seat, as the abstract machine has it (printed by a tool of ours off the dump).
-/
import Derived.Test.YteonklnjchefiaaAmX
namespace Go.Proofs.Yteonklnjchefiaa.T
open Go Go.Am
abbrev oP (n : Nat) (p : POp) : AOper := ⟨some n, .p p, none, none, []⟩
abbrev oQ (n : Nat) (p : AOp) : AOper := ⟨some n, p, none, none, []⟩
abbrev oG (n m : Nat) (b : Bool) (p : POp) : AOper := ⟨some n, .p p, some (m, b), none, []⟩
/-- gosem.cut.init -/
def f2 : AFn := ⟨1, [],
 .region 0 [oQ 0 (.call 1 1 [])]⟩
/-- almadraba/almadrabalaw07.CutsEach -/
def f3 : AFn := ⟨197, [.tmp 6],
 .seq (.region 0 [oQ 5 (.box (.t 2)),
 oP 6 (.move (.c (.bool false)))])
 (.seq (.seq (.region 0 [oP 23 (.move (.t 0)),
 oQ 24 (.call 1 16 [(.t 23)]),
 oP 25 (.un .not (.t 24)),
 oP 26 (.move (.t 25)),
 oG 27 26 false (.move (.t 1)),
 oG 28 26 false (.lenS (.t 27)),
 oG 29 26 false (.bin .gtr (.t 28) (.c (.int .i64 40))),
 oP 30 (.pick (.t 26) (.c (.bool true)) (.t 29)),
 oP 31 (.move (.t 30)),
 oG 32 31 false (.move (.t 0)),
 oG 33 31 false (.move (.t 1)),
 ⟨(some 34), .call 1 17 [(.t 32), (.t 33)], (some (31, false)), none, []⟩,
 oG 35 31 false (.un .not (.t 34)),
 oP 36 (.pick (.t 31) (.c (.bool true)) (.t 35))])
 (.cond (.t 36) (.seq (.region 0 [oQ 37 (.call 1 18 []),
 oP 6 (.move (.t 37))])
 (.ret))
 (.skip)))
 (.seq (.region 0 [oP 39 (.move (.t 0)),
 oQ 40 (.call 1 19 [(.t 39)]),
 oP 38 (.move (.t 40)),
 oP 41 (.extract (.t 38) 0),
 oP 42 (.extract (.t 38) 1),
 oP 7 (.move (.t 41)),
 oP 8 (.move (.t 42))])
 (.seq (.region 0 [oP 44 (.move (.t 0)),
 oQ 45 (.call 1 20 [(.t 44)]),
 oP 43 (.move (.t 45)),
 oP 46 (.extract (.t 43) 0),
 oP 47 (.extract (.t 43) 1),
 oQ 9 (.alloc [.int .i64 0, .int .i64 0]),
 ⟨none, .store 2 (.t 9) (.t 46), none, none, []⟩,
 oP 10 (.move (.t 47))])
 (.seq (.region 0 [oP 49 (.move (.t 0)),
 oQ 50 (.buildSlice 1 0 [.int .i64 0] []),
 oP 51 (.move (.t 1)),
 oQ 52 (.append false 1 8 (.t 50) (.t 51)),
 oQ 53 (.call 1 21 [(.t 49), (.t 52)]),
 oP 48 (.move (.t 53)),
 oP 54 (.extract (.t 48) 0),
 oP 55 (.extract (.t 48) 1),
 oP 11 (.move (.t 54)),
 oP 12 (.move (.t 55))])
 (.seq (.seq (.region 0 [oP 56 (.move (.t 8)),
 oP 57 (.un .not (.t 56)),
 oP 58 (.move (.t 57)),
 oG 59 58 false (.move (.t 10)),
 oG 60 58 false (.bin .neq (.t 59) (.c (.int .i64 0))),
 oP 61 (.pick (.t 58) (.c (.bool true)) (.t 60)),
 oP 62 (.move (.t 61)),
 oG 63 62 false (.move (.t 12)),
 oG 64 62 false (.bin .neq (.t 63) (.c (.int .i64 0))),
 oP 65 (.pick (.t 62) (.c (.bool true)) (.t 64)),
 oP 66 (.move (.t 65)),
 oG 67 66 false (.move (.t 11)),
 oG 68 66 false (.un .not (.t 67)),
 oP 69 (.pick (.t 66) (.c (.bool true)) (.t 68))])
 (.cond (.t 69) (.seq (.region 0 [oP 6 (.move (.c (.bool false)))])
 (.ret))
 (.skip)))
 (.seq (.region 0 [oP 13 (.move (.c (.int .i64 0)))])
 (.seq (.seq (.region 0 [oP 14 (.move (.c (.int .i64 0)))])
 (.block 0 (.loop (.seq (.seq (.region 0 [oP 70 (.move (.t 14)),
 oP 71 (.move (.t 0)),
 oP 72 (.lenS (.t 71)),
 oP 73 (.bin .lss (.t 70) (.t 72))])
 (.cond (.t 73) (.skip)
 (.exit 0)))
 (.seq (.block 1 (.seq (.seq (.region 0 [oP 76 (.move (.t 7)),
 oP 77 (.move (.t 14)),
 oP 78 (.idxSl 2 (.t 76) (.t 77)),
 oQ 79 (.load true 2 (.t 78)),
 oP 80 (.move (.t 1)),
 oP 81 (.move (.t 14)),
 oP 82 (.idxSl 1 (.t 80) (.t 81)),
 oQ 83 (.load false 1 (.t 82)),
 oQ 84 (.call 1 22 [(.t 79), (.t 83)]),
 oP 85 (.un .not (.t 84))])
 (.cond (.t 85) (.seq (.region 0 [oP 6 (.move (.c (.bool false)))])
 (.ret))
 (.skip)))
 (.seq (.seq (.region 0 [oP 86 (.move (.t 0)),
 oP 87 (.move (.t 14)),
 oP 88 (.idxSl 6 (.t 86) (.t 87)),
 oP 89 (.fieldAddr 0 (.t 88)),
 oQ 90 (.load false 1 (.t 89)),
 oP 91 (.bin .eql (.t 90) (.c (.int .i64 (-1))))])
 (.cond (.t 91) (.region 0 [oP 92 (.move (.t 13)),
 oP 93 (.move (.t 1)),
 oP 94 (.move (.t 14)),
 oP 95 (.idxSl 1 (.t 93) (.t 94)),
 oQ 96 (.load false 1 (.t 95)),
 oP 97 (.bin .add (.t 92) (.t 96)),
 oP 13 (.move (.t 97))])
 (.skip)))
 (.seq (.region 0 [oP 99 (.move (.t 0)),
 oP 100 (.move (.t 14)),
 oQ 101 (.call 1 23 [(.t 99), (.t 100)]),
 oP 98 (.move (.t 101)),
 oP 102 (.extract (.t 98) 0),
 oP 103 (.extract (.t 98) 1),
 oQ 15 (.alloc [.int .i64 0, .int .i64 0]),
 ⟨none, .store 2 (.t 15) (.t 102), none, none, []⟩,
 oP 16 (.move (.t 103))])
 (.seq (.region 0 [oP 104 (.move (.t 0)),
 oP 105 (.move (.t 14)),
 oQ 106 (.call 1 24 [(.t 104), (.t 105)])])
 (.cond (.t 106) (.seq (.region 0 [oP 107 (.move (.t 16)),
 oP 108 (.bin .neq (.t 107) (.c (.int .i64 0))),
 oP 109 (.move (.t 108)),
 ⟨(some 110), .load true 2 (.t 15), (some (109, false)), none, []⟩,
 oG 111 109 false (.move (.t 0)),
 oG 112 109 false (.move (.t 1)),
 oG 113 109 false (.move (.t 14)),
 ⟨(some 114), .call 1 25 [(.t 111), (.t 112), (.t 113)], (some (109, false)), none, []⟩,
 ⟨(some 115), .call 1 22 [(.t 110), (.t 114)], (some (109, false)), none, []⟩,
 oG 116 109 false (.un .not (.t 115)),
 oP 117 (.pick (.t 109) (.c (.bool true)) (.t 116))])
 (.cond (.t 117) (.seq (.region 0 [oP 6 (.move (.c (.bool false)))])
 (.ret))
 (.skip)))
 (.seq (.region 0 [oP 118 (.move (.t 16)),
 oP 119 (.bin .neq (.t 118) (.c (.int .i64 1)))])
 (.cond (.t 119) (.seq (.region 0 [oP 6 (.move (.c (.bool false)))])
 (.ret))
 (.skip)))))))))
 (.region 0 [oP 74 (.move (.t 14)),
 oP 75 (.bin .add (.t 74) (.c (.int .i64 1))),
 oP 14 (.move (.t 75))]))))))
 (.seq (.seq (.region 0 [oQ 120 (.load true 2 (.t 9)),
 oP 121 (.move (.t 13)),
 oQ 122 (.call 1 22 [(.t 120), (.t 121)]),
 oP 123 (.un .not (.t 122))])
 (.cond (.t 123) (.seq (.region 0 [oP 6 (.move (.c (.bool false)))])
 (.ret))
 (.skip)))
 (.seq (.seq (.region 0 [oP 124 (.move (.t 0)),
 oQ 125 (.load true 2 (.t 5)),
 oQ 126 (.call 1 26 [(.t 124), (.t 125)]),
 oP 127 (.un .not (.t 126))])
 (.cond (.t 127) (.seq (.region 0 [oQ 128 (.call 1 18 []),
 oP 6 (.move (.t 128))])
 (.ret))
 (.skip)))
 (.seq (.region 0 [oP 130 (.move (.t 0)),
 oQ 131 (.buildSlice 1 0 [.int .i64 0] []),
 oP 132 (.fieldAddr 0 (.t 5)),
 oQ 133 (.load false 1 (.t 132)),
 oQ 134 (.append false 1 8 (.t 131) (.t 133)),
 oQ 135 (.call 1 27 [(.t 130), (.t 134)]),
 oP 129 (.move (.t 135)),
 oP 136 (.extract (.t 129) 0),
 oP 137 (.extract (.t 129) 1),
 oQ 17 (.alloc [.int .i64 0, .int .i64 0]),
 ⟨none, .store 2 (.t 17) (.t 136), none, none, []⟩,
 oP 18 (.move (.t 137))])
 (.seq (.region 4 [oP 139 (.move (.t 0)),
 ⟨(some 140), .buildSlice 1 0 [.int .i64 0] [], none, (some 0), []⟩,
 oP 141 (.fieldAddr 0 (.t 5)),
 ⟨(some 142), .load false 1 (.t 141), none, none, [0, 1, 2, 3]⟩,
 ⟨(some 143), .append true 1 8 (.t 140) (.t 142), none, (some 1), [2, 3]⟩,
 ⟨(some 144), .buildSlice 1 0 [.int .i64 0] [], none, (some 2), []⟩,
 oP 145 (.fieldAddr 1 (.t 5)),
 ⟨(some 146), .load false 1 (.t 145), none, none, [0, 1, 2, 3]⟩,
 ⟨(some 147), .append true 1 8 (.t 144) (.t 146), none, (some 3), []⟩,
 oQ 148 (.call 1 28 [(.t 139), (.t 143), (.t 147)]),
 oP 138 (.move (.t 148)),
 oP 149 (.extract (.t 138) 0),
 oP 150 (.extract (.t 138) 1),
 oP 19 (.move (.t 149)),
 oP 20 (.move (.t 150))])
 (.seq (.region 0 [oP 151 (.move (.t 0)),
 oP 152 (.fieldAddr 0 (.t 5)),
 oQ 153 (.load false 1 (.t 152)),
 oP 154 (.move (.t 1)),
 oQ 155 (.call 1 29 [(.t 151), (.t 153), (.t 154)]),
 oP 156 (.move (.t 0)),
 oP 157 (.fieldAddr 1 (.t 5)),
 oQ 158 (.load false 1 (.t 157)),
 oP 159 (.move (.t 1)),
 oQ 160 (.call 1 29 [(.t 156), (.t 158), (.t 159)]),
 oP 21 (.move (.t 155)),
 oP 22 (.move (.t 160))])
 (.seq (.region 0 [oP 161 (.move (.t 18)),
 oP 162 (.bin .eql (.t 161) (.c (.int .i64 0))),
 oP 163 (.move (.t 162)),
 oG 164 163 true (.move (.t 20)),
 oG 165 163 true (.bin .eql (.t 164) (.c (.int .i64 0))),
 oP 166 (.pick (.t 163) (.t 165) (.c (.bool false))),
 oP 167 (.move (.t 166)),
 ⟨(some 168), .load true 2 (.t 17), (some (167, true)), none, []⟩,
 oG 169 167 true (.move (.t 21)),
 ⟨(some 170), .call 1 22 [(.t 168), (.t 169)], (some (167, true)), none, []⟩,
 oP 171 (.pick (.t 167) (.t 170) (.c (.bool false))),
 oP 172 (.move (.t 171)),
 oG 173 172 true (.move (.t 19)),
 ⟨(some 174), .call 1 30 [(.t 173), (.c (.int .i64 1)), (.c (.int .i64 3))], (some (172, true)), none, []⟩,
 oP 175 (.pick (.t 172) (.t 174) (.c (.bool false))),
 oP 176 (.move (.t 175)),
 oG 177 176 true (.move (.t 19)),
 oG 178 176 true (.bin .neq (.t 177) (.c (.int .i64 1))),
 oG 179 176 true (.move (.t 178)),
 oG 180 179 false (.move (.t 21)),
 oG 181 179 false (.move (.t 22)),
 oG 182 179 false (.bin .gtr (.t 180) (.t 181)),
 oG 183 176 true (.pick (.t 179) (.c (.bool true)) (.t 182)),
 oP 184 (.pick (.t 176) (.t 183) (.c (.bool false))),
 oP 185 (.move (.t 184)),
 oG 186 185 true (.move (.t 19)),
 oG 187 185 true (.bin .neq (.t 186) (.c (.int .i64 2))),
 oG 188 185 true (.move (.t 187)),
 oG 189 188 false (.move (.t 21)),
 oG 190 188 false (.move (.t 22)),
 oG 191 188 false (.bin .leq (.t 189) (.t 190)),
 oG 192 185 true (.pick (.t 188) (.c (.bool true)) (.t 191)),
 oP 193 (.pick (.t 185) (.t 192) (.c (.bool false))),
 oP 194 (.move (.t 193)),
 ⟨(some 195), .call 1 18 [], (some (194, true)), none, []⟩,
 oP 196 (.pick (.t 194) (.t 195) (.c (.bool false))),
 oP 6 (.move (.t 196))])
 (.ret))))))))))))))⟩
/-- almadraba/almadrabalaw07.CutsFix -/
def f13 : AFn := ⟨92, [.tmp 4],
 .seq (.region 0 [oP 4 (.move (.c (.bool false)))])
 (.seq (.seq (.region 0 [oP 18 (.move (.t 0)),
 oP 19 (.lenS (.t 18)),
 oP 20 (.bin .gtr (.t 19) (.c (.int .i64 40)))])
 (.cond (.t 20) (.seq (.region 0 [oQ 21 (.call 1 18 []),
 oP 4 (.move (.t 21))])
 (.ret))
 (.skip)))
 (.seq (.region 0 [oP 22 (.move (.t 0)),
 oQ 23 (.call 1 42 [(.t 22)]),
 oP 5 (.move (.t 23))])
 (.seq (.region 0 [oP 25 (.move (.t 5)),
 oQ 26 (.call 1 43 [(.t 25)]),
 oP 24 (.move (.t 26)),
 oP 27 (.extract (.t 24) 0),
 oP 28 (.extract (.t 24) 1),
 oP 6 (.move (.t 27)),
 oP 7 (.move (.t 28))])
 (.seq (.region 0 [oP 30 (.move (.t 0)),
 oQ 31 (.call 1 58 [(.t 30)]),
 oP 29 (.move (.t 31)),
 oP 32 (.extract (.t 29) 0),
 oP 33 (.extract (.t 29) 1),
 oP 8 (.move (.t 32)),
 oP 9 (.move (.t 33))])
 (.seq (.region 0 [oP 35 (.move (.t 5)),
 oQ 36 (.call 1 39 [(.t 35)]),
 oP 34 (.move (.t 36)),
 oP 37 (.extract (.t 34) 0),
 oP 38 (.extract (.t 34) 1),
 oP 10 (.move (.t 37)),
 oP 11 (.move (.t 38))])
 (.seq (.region 0 [oP 40 (.move (.t 0)),
 oQ 41 (.call 1 59 [(.t 40)]),
 oP 39 (.move (.t 41)),
 oP 42 (.extract (.t 39) 0),
 oP 43 (.extract (.t 39) 1),
 oP 12 (.move (.t 42)),
 oP 13 (.move (.t 43))])
 (.seq (.region 0 [oP 45 (.move (.t 5)),
 oP 46 (.move (.t 1)),
 oQ 47 (.call 1 45 [(.t 45), (.t 46)]),
 oP 44 (.move (.t 47)),
 oP 48 (.extract (.t 44) 0),
 oP 49 (.extract (.t 44) 1),
 oP 14 (.move (.t 48)),
 oP 15 (.move (.t 49))])
 (.seq (.region 0 [oP 51 (.move (.t 0)),
 oP 52 (.move (.t 1)),
 oQ 53 (.call 1 60 [(.t 51), (.t 52)]),
 oP 50 (.move (.t 53)),
 oP 54 (.extract (.t 50) 0),
 oP 55 (.extract (.t 50) 1),
 oP 16 (.move (.t 54)),
 oP 17 (.move (.t 55))])
 (.seq (.region 0 [oP 56 (.move (.t 6)),
 oP 57 (.move (.t 8)),
 oP 58 (.bin .eql (.t 56) (.t 57)),
 oP 59 (.move (.t 58)),
 oG 60 59 true (.move (.t 7)),
 oG 61 59 true (.move (.t 9)),
 oG 62 59 true (.bin .eql (.t 60) (.t 61)),
 oP 63 (.pick (.t 59) (.t 62) (.c (.bool false))),
 oP 64 (.move (.t 63)),
 oG 65 64 true (.move (.t 10)),
 oG 66 64 true (.move (.t 12)),
 ⟨(some 67), .call 1 50 [(.t 65), (.t 66)], (some (64, true)), none, []⟩,
 oP 68 (.pick (.t 64) (.t 67) (.c (.bool false))),
 oP 69 (.move (.t 68)),
 oG 70 69 true (.move (.t 11)),
 oG 71 69 true (.move (.t 13)),
 oG 72 69 true (.bin .eql (.t 70) (.t 71)),
 oP 73 (.pick (.t 69) (.t 72) (.c (.bool false))),
 oP 74 (.move (.t 73)),
 oG 75 74 true (.move (.t 14)),
 oG 76 74 true (.move (.t 16)),
 oG 77 74 true (.bin .eql (.t 75) (.t 76)),
 oP 78 (.pick (.t 74) (.t 77) (.c (.bool false))),
 oP 79 (.move (.t 78)),
 oG 80 79 true (.move (.t 15)),
 oG 81 79 true (.move (.t 17)),
 oG 82 79 true (.bin .eql (.t 80) (.t 81)),
 oP 83 (.pick (.t 79) (.t 82) (.c (.bool false))),
 oP 84 (.move (.t 83)),
 oG 85 84 true (.move (.t 5)),
 oG 86 84 true (.move (.t 0)),
 ⟨(some 87), .call 1 57 [(.t 85), (.t 86)], (some (84, true)), none, []⟩,
 oP 88 (.pick (.t 84) (.t 87) (.c (.bool false))),
 oP 89 (.move (.t 88)),
 ⟨(some 90), .call 1 18 [], (some (89, true)), none, []⟩,
 oP 91 (.pick (.t 89) (.t 90) (.c (.bool false))),
 oP 4 (.move (.t 91))])
 (.ret))))))))))⟩
/-- almadraba/almadrabalaw07.CutsCut -/
def f15 : AFn := ⟨68, [.tmp 4],
 .seq (.region 0 [oP 4 (.move (.c (.bool false)))])
 (.seq (.seq (.region 0 [oP 14 (.move (.t 0)),
 oP 15 (.lenS (.t 14)),
 oP 16 (.bin .gtr (.t 15) (.c (.int .i64 40)))])
 (.cond (.t 16) (.seq (.region 0 [oQ 17 (.call 1 18 []),
 oP 4 (.move (.t 17))])
 (.ret))
 (.skip)))
 (.seq (.region 0 [oP 18 (.move (.t 0)),
 oQ 19 (.call 1 42 [(.t 18)]),
 oP 5 (.move (.t 19))])
 (.seq (.region 0 [oP 21 (.move (.t 5)),
 oQ 22 (.call 1 46 [(.t 21)]),
 oP 20 (.move (.t 22)),
 oP 23 (.extract (.t 20) 0),
 oP 24 (.extract (.t 20) 1),
 oP 6 (.move (.t 23)),
 oP 7 (.move (.t 24))])
 (.seq (.region 0 [oP 26 (.move (.t 0)),
 oQ 27 (.call 1 63 [(.t 26)]),
 oP 25 (.move (.t 27)),
 oP 28 (.extract (.t 25) 0),
 oP 29 (.extract (.t 25) 1),
 oP 8 (.move (.t 28)),
 oP 9 (.move (.t 29))])
 (.seq (.region 0 [oP 31 (.move (.t 5)),
 oP 32 (.move (.t 1)),
 oQ 33 (.call 1 48 [(.t 31), (.t 32)]),
 oP 30 (.move (.t 33)),
 oP 34 (.extract (.t 30) 0),
 oP 35 (.extract (.t 30) 1),
 oP 10 (.move (.t 34)),
 oP 11 (.move (.t 35))])
 (.seq (.region 0 [oP 37 (.move (.t 0)),
 oP 38 (.move (.t 1)),
 oQ 39 (.call 1 64 [(.t 37), (.t 38)]),
 oP 36 (.move (.t 39)),
 oP 40 (.extract (.t 36) 0),
 oP 41 (.extract (.t 36) 1),
 oP 12 (.move (.t 40)),
 oP 13 (.move (.t 41))])
 (.seq (.region 0 [oP 42 (.move (.t 6)),
 oP 43 (.move (.t 8)),
 oQ 44 (.call 1 50 [(.t 42), (.t 43)]),
 oP 45 (.move (.t 44)),
 oG 46 45 true (.move (.t 7)),
 oG 47 45 true (.move (.t 9)),
 oG 48 45 true (.bin .eql (.t 46) (.t 47)),
 oP 49 (.pick (.t 45) (.t 48) (.c (.bool false))),
 oP 50 (.move (.t 49)),
 oG 51 50 true (.move (.t 10)),
 oG 52 50 true (.move (.t 12)),
 oG 53 50 true (.bin .eql (.t 51) (.t 52)),
 oP 54 (.pick (.t 50) (.t 53) (.c (.bool false))),
 oP 55 (.move (.t 54)),
 oG 56 55 true (.move (.t 11)),
 oG 57 55 true (.move (.t 13)),
 oG 58 55 true (.bin .eql (.t 56) (.t 57)),
 oP 59 (.pick (.t 55) (.t 58) (.c (.bool false))),
 oP 60 (.move (.t 59)),
 oG 61 60 true (.move (.t 5)),
 oG 62 60 true (.move (.t 0)),
 ⟨(some 63), .call 1 57 [(.t 61), (.t 62)], (some (60, true)), none, []⟩,
 oP 64 (.pick (.t 60) (.t 63) (.c (.bool false))),
 oP 65 (.move (.t 64)),
 ⟨(some 66), .call 1 18 [], (some (65, true)), none, []⟩,
 oP 67 (.pick (.t 65) (.t 66) (.c (.bool false))),
 oP 4 (.move (.t 67))])
 (.ret))))))))⟩
/-- almadraba/almadrabalaw07.works -/
def f18 : AFn := ⟨101, [.tmp 0],
 .seq (.region 0 [oP 0 (.move (.c (.bool false)))])
 (.seq (.region 0 [oQ 16 (.call 1 65 []),
 oP 15 (.move (.t 16)),
 oP 17 (.extract (.t 15) 0),
 oP 18 (.extract (.t 15) 1),
 oP 1 (.move (.t 17)),
 oP 2 (.move (.t 18))])
 (.seq (.region 0 [oP 20 (.move (.t 1)),
 oQ 21 (.call 1 32 [(.t 20), (.c (.int .i64 4))]),
 oP 19 (.move (.t 21)),
 oP 22 (.extract (.t 19) 0),
 oP 23 (.extract (.t 19) 1),
 oQ 3 (.alloc [.int .i64 0, .int .i64 0]),
 ⟨none, .store 2 (.t 3) (.t 22), none, none, []⟩,
 oP 4 (.move (.t 23))])
 (.seq (.region 0 [oP 25 (.move (.t 1)),
 oQ 26 (.litS 1 2 [.int .i64 0] [(0, (.c (.int .i64 0))), (1, (.c (.int .i64 1)))]),
 oQ 27 (.call 1 27 [(.t 25), (.t 26)]),
 oP 24 (.move (.t 27)),
 oP 28 (.extract (.t 24) 0),
 oP 29 (.extract (.t 24) 1),
 oQ 5 (.alloc [.int .i64 0, .int .i64 0]),
 ⟨none, .store 2 (.t 5) (.t 28), none, none, []⟩,
 oP 6 (.move (.t 29))])
 (.seq (.region 0 [oP 31 (.move (.t 1)),
 oQ 32 (.call 1 46 [(.t 31)]),
 oP 30 (.move (.t 32)),
 oP 33 (.extract (.t 30) 0),
 oP 34 (.extract (.t 30) 1),
 oP 7 (.move (.t 33)),
 oP 8 (.move (.t 34))])
 (.seq (.region 0 [oP 36 (.move (.t 2)),
 oQ 37 (.call 1 43 [(.t 36)]),
 oP 35 (.move (.t 37)),
 oP 38 (.extract (.t 35) 0),
 oP 39 (.extract (.t 35) 1),
 oP 9 (.move (.t 38)),
 oP 10 (.move (.t 39))])
 (.seq (.region 0 [oP 41 (.move (.t 2)),
 oQ 42 (.call 1 39 [(.t 41)]),
 oP 40 (.move (.t 42)),
 oP 43 (.extract (.t 40) 0),
 oP 44 (.extract (.t 40) 1),
 oP 11 (.move (.t 43)),
 oP 12 (.move (.t 44))])
 (.seq (.region 0 [oP 46 (.move (.t 1)),
 oQ 47 (.litS 1 1 [.int .i64 0] [(0, (.c (.int .i64 0)))]),
 oQ 48 (.call 1 28 [(.t 46), (.c (.nils)), (.t 47)]),
 oP 45 (.move (.t 48)),
 oP 49 (.extract (.t 45) 0),
 oP 50 (.extract (.t 45) 1),
 oP 13 (.move (.t 49)),
 oP 14 (.move (.t 50))])
 (.seq (.region 0 [oP 51 (.move (.t 4)),
 oP 52 (.bin .eql (.t 51) (.c (.int .i64 0))),
 oP 53 (.move (.t 52)),
 oG 54 53 true (.move (.t 6)),
 oG 55 53 true (.bin .eql (.t 54) (.c (.int .i64 0))),
 oP 56 (.pick (.t 53) (.t 55) (.c (.bool false))),
 oP 57 (.move (.t 56)),
 oG 58 57 true (.move (.t 8)),
 oG 59 57 true (.bin .eql (.t 58) (.c (.int .i64 0))),
 oP 60 (.pick (.t 57) (.t 59) (.c (.bool false))),
 oP 61 (.move (.t 60)),
 oG 62 61 true (.move (.t 10)),
 oG 63 61 true (.bin .eql (.t 62) (.c (.int .i64 0))),
 oP 64 (.pick (.t 61) (.t 63) (.c (.bool false))),
 oP 65 (.move (.t 64)),
 oG 66 65 true (.move (.t 12)),
 oG 67 65 true (.bin .eql (.t 66) (.c (.int .i64 0))),
 oP 68 (.pick (.t 65) (.t 67) (.c (.bool false))),
 oP 69 (.move (.t 68)),
 oG 70 69 true (.move (.t 14)),
 oG 71 69 true (.bin .eql (.t 70) (.c (.int .i64 0))),
 oP 72 (.pick (.t 69) (.t 71) (.c (.bool false))),
 oP 73 (.move (.t 72)),
 ⟨(some 74), .load true 2 (.t 3), (some (73, true)), none, []⟩,
 oG 75 73 true (.build [.int .i64 0, .int .i64 0] [(0, 1, (.c (.int .i64 0))), (1, 1, (.c (.int .i64 6)))]),
 oG 76 73 true (.eqS false [true, true] (.t 74) (.t 75)),
 oP 77 (.pick (.t 73) (.t 76) (.c (.bool false))),
 oP 78 (.move (.t 77)),
 ⟨(some 79), .load true 2 (.t 5), (some (78, true)), none, []⟩,
 oG 80 78 true (.build [.int .i64 0, .int .i64 0] [(0, 1, (.c (.int .i64 72))), (1, 1, (.c (.int .i64 87)))]),
 oG 81 78 true (.eqS false [true, true] (.t 79) (.t 80)),
 oP 82 (.pick (.t 78) (.t 81) (.c (.bool false))),
 oP 83 (.move (.t 82)),
 oG 84 83 true (.move (.t 7)),
 ⟨(some 85), .litS 1 2 [.int .i64 0] [(0, (.c (.int .i64 0))), (1, (.c (.int .i64 1)))], (some (83, true)), none, []⟩,
 ⟨(some 86), .call 1 50 [(.t 84), (.t 85)], (some (83, true)), none, []⟩,
 oP 87 (.pick (.t 83) (.t 86) (.c (.bool false))),
 oP 88 (.move (.t 87)),
 oG 89 88 true (.move (.t 9)),
 oG 90 88 true (.bin .eql (.t 89) (.c (.int .i64 2))),
 oP 91 (.pick (.t 88) (.t 90) (.c (.bool false))),
 oP 92 (.move (.t 91)),
 oG 93 92 true (.move (.t 11)),
 ⟨(some 94), .litS 1 5 [.int .i64 0] [(0, (.c (.int .i64 19))), (1, (.c (.int .i64 6))), (2, (.c (.int .i64 10))), (3, (.c (.int .i64 6))), (4, (.c (.int .i64 0)))], (some (92, true)), none, []⟩,
 ⟨(some 95), .call 1 50 [(.t 93), (.t 94)], (some (92, true)), none, []⟩,
 oP 96 (.pick (.t 92) (.t 95) (.c (.bool false))),
 oP 97 (.move (.t 96)),
 oG 98 97 true (.move (.t 13)),
 oG 99 97 true (.bin .eql (.t 98) (.c (.int .i64 2))),
 oP 100 (.pick (.t 97) (.t 99) (.c (.bool false))),
 oP 0 (.move (.t 100))])
 (.ret)))))))))⟩
/-- almadraba/almadrabaref07.CanCut -/
def f24 : AFn := ⟨19, [.tmp 4],
 .seq (.region 0 [oP 4 (.move (.c (.bool false)))])
 (.seq (.seq (.region 0 [oP 5 (.move (.c (.int .i64 0)))])
 (.block 0 (.loop (.seq (.seq (.region 0 [oP 6 (.move (.t 5)),
 oP 7 (.move (.t 0)),
 oP 8 (.lenS (.t 7)),
 oP 9 (.bin .lss (.t 6) (.t 8))])
 (.cond (.t 9) (.skip)
 (.exit 0)))
 (.seq (.block 1 (.seq (.region 0 [oP 12 (.move (.t 0)),
 oP 13 (.move (.t 5)),
 oP 14 (.idxSl 6 (.t 12) (.t 13)),
 oP 15 (.fieldAddr 0 (.t 14)),
 oQ 16 (.load false 1 (.t 15)),
 oP 17 (.move (.t 1)),
 oP 18 (.bin .eql (.t 16) (.t 17))])
 (.cond (.t 18) (.seq (.region 0 [oP 4 (.move (.c (.bool true)))])
 (.ret))
 (.skip))))
 (.region 0 [oP 10 (.move (.t 5)),
 oP 11 (.bin .add (.t 10) (.c (.int .i64 1))),
 oP 5 (.move (.t 11))]))))))
 (.seq (.region 0 [oP 4 (.move (.c (.bool false)))])
 (.ret)))⟩
/-- almadraba/cuts.Price -/
def f27 : AFn := ⟨22, [.cell true 2 4, .tmp 5],
 .seq (.region 0 [oQ 4 (.alloc [.int .i64 0, .int .i64 0]),
 oP 5 (.move (.c (.int .i64 0)))])
 (.seq (.seq (.region 0 [oP 7 (.move (.t 0)),
 oP 8 (.move (.t 1)),
 oQ 9 (.litS 1 1 [.nils] [(0, (.t 8))]),
 oQ 10 (.call 1 72 [(.t 7), (.t 9)]),
 oP 6 (.move (.t 10))])
 (.seq (.region 0 [oP 11 (.move (.t 6)),
 oP 12 (.bin .neq (.t 11) (.c (.int .i64 0)))])
 (.cond (.t 12) (.seq (.region 0 [oP 13 (.build [.int .i64 0, .int .i64 0] []),
 oP 14 (.move (.t 6)),
 ⟨none, .store 2 (.t 4) (.t 13), none, none, []⟩,
 oP 5 (.move (.t 14))])
 (.ret))
 (.skip))))
 (.seq (.region 0 [oP 15 (.move (.t 0)),
 oP 16 (.move (.t 0)),
 oP 17 (.move (.t 1)),
 oQ 18 (.call 1 73 [(.t 16), (.t 17)]),
 oQ 19 (.call 1 66 [(.t 15), (.t 18)]),
 oP 20 (.extract (.t 19) 0),
 oP 21 (.extract (.t 19) 1),
 ⟨none, .store 2 (.t 4) (.t 20), none, none, []⟩,
 oP 5 (.move (.t 21))])
 (.ret)))⟩
/-- almadraba/cuts.Rank -/
def f28 : AFn := ⟨45, [.tmp 6, .tmp 7],
 .seq (.region 0 [oP 6 (.move (.c (.int .i64 0))),
 oP 7 (.move (.c (.int .i64 0)))])
 (.seq (.seq (.region 0 [oP 12 (.move (.t 0)),
 oP 13 (.move (.t 1)),
 oP 14 (.move (.t 2)),
 oQ 15 (.litS 1 2 [.nils] [(0, (.t 13)), (1, (.t 14))]),
 oQ 16 (.call 1 72 [(.t 12), (.t 15)]),
 oP 8 (.move (.t 16))])
 (.seq (.region 0 [oP 17 (.move (.t 8)),
 oP 18 (.bin .neq (.t 17) (.c (.int .i64 0)))])
 (.cond (.t 18) (.seq (.region 0 [oP 19 (.move (.t 8)),
 oP 6 (.move (.c (.int .i64 0))),
 oP 7 (.move (.t 19))])
 (.ret))
 (.skip))))
 (.seq (.region 0 [oP 20 (.move (.t 0)),
 oP 9 (.move (.t 20))])
 (.seq (.region 0 [oP 22 (.move (.t 9)),
 oP 23 (.move (.t 9)),
 oP 24 (.move (.t 1)),
 oQ 25 (.call 1 73 [(.t 23), (.t 24)]),
 oP 26 (.move (.t 9)),
 oP 27 (.move (.t 2)),
 oQ 28 (.call 1 73 [(.t 26), (.t 27)]),
 oQ 29 (.call 1 74 [(.t 25), (.t 28)]),
 oQ 30 (.call 1 66 [(.t 22), (.t 29)]),
 oP 21 (.move (.t 30)),
 oP 31 (.extract (.t 21) 0),
 oP 32 (.extract (.t 21) 1),
 oQ 10 (.alloc [.int .i64 0, .int .i64 0]),
 ⟨none, .store 2 (.t 10) (.t 31), none, none, []⟩,
 oP 11 (.move (.t 32))])
 (.seq (.block 0 (.seq (.region 0 [oP 34 (.move (.t 11)),
 oP 35 (.bin .neq (.t 34) (.c (.int .i64 0))),
 oP 33 (.move (.t 35))])
 (.cond (.t 33) (.seq (.region 0 [oP 36 (.move (.t 11)),
 oP 6 (.move (.c (.int .i64 0))),
 oP 7 (.move (.t 36))])
 (.ret))
 (.seq (.region 0 [oP 38 (.fieldAddr 0 (.t 10)),
 oQ 39 (.load false 1 (.t 38)),
 oP 40 (.bin .gtr (.t 39) (.c (.int .i64 0))),
 oP 37 (.move (.t 40))])
 (.cond (.t 37) (.seq (.region 0 [oP 6 (.move (.c (.int .i64 1))),
 oP 7 (.move (.c (.int .i64 0)))])
 (.ret))
 (.seq (.region 0 [oP 42 (.fieldAddr 1 (.t 10)),
 oQ 43 (.load false 1 (.t 42)),
 oP 44 (.bin .leq (.t 43) (.c (.int .i64 0))),
 oP 41 (.move (.t 44))])
 (.cond (.t 41) (.seq (.region 0 [oP 6 (.move (.c (.int .i64 2))),
 oP 7 (.move (.c (.int .i64 0)))])
 (.ret))
 (.skip))))))))
 (.seq (.region 0 [oP 6 (.move (.c (.int .i64 3))),
 oP 7 (.move (.c (.int .i64 0)))])
 (.ret))))))⟩
/-- almadraba/almadrabaref01.Within -/
def f30 : AFn := ⟨15, [.tmp 6],
 .seq (.region 0 [oP 6 (.move (.c (.bool false)))])
 (.seq (.region 0 [oP 7 (.move (.t 1)),
 oP 8 (.move (.t 0)),
 oP 9 (.bin .leq (.t 7) (.t 8)),
 oP 10 (.move (.t 9)),
 oG 11 10 true (.move (.t 0)),
 oG 12 10 true (.move (.t 2)),
 oG 13 10 true (.bin .leq (.t 11) (.t 12)),
 oP 14 (.pick (.t 10) (.t 13) (.c (.bool false))),
 oP 6 (.move (.t 14))])
 (.ret))⟩
/-- almadraba/almadrabaref07.IsPart -/
def f31 : AFn := ⟨10, [.tmp 4],
 .seq (.region 0 [oP 4 (.move (.c (.bool false)))])
 (.seq (.region 0 [oP 5 (.move (.t 1)),
 oP 6 (.move (.t 0)),
 oP 7 (.lenS (.t 6)),
 oP 8 (.bin .sub (.t 7) (.c (.int .i64 1))),
 oQ 9 (.call 1 76 [(.t 5), (.c (.int .i64 0)), (.t 8)]),
 oP 4 (.move (.t 9))])
 (.ret))⟩
/-- almadraba/cuts.Weight -/
def f32 : AFn := ⟨20, [.cell true 2 4, .tmp 5],
 .seq (.region 0 [oQ 4 (.alloc [.int .i64 0, .int .i64 0]),
 oP 5 (.move (.c (.int .i64 0)))])
 (.seq (.seq (.region 0 [oP 7 (.move (.t 0)),
 oP 8 (.move (.t 1)),
 oQ 9 (.call 1 69 [(.t 7), (.t 8)]),
 oP 6 (.move (.t 9))])
 (.seq (.region 0 [oP 10 (.move (.t 6)),
 oP 11 (.bin .neq (.t 10) (.c (.int .i64 0)))])
 (.cond (.t 11) (.seq (.region 0 [oP 12 (.build [.int .i64 0, .int .i64 0] []),
 oP 13 (.move (.t 6)),
 ⟨none, .store 2 (.t 4) (.t 12), none, none, []⟩,
 oP 5 (.move (.t 13))])
 (.ret))
 (.skip))))
 (.seq (.region 0 [oP 14 (.move (.t 0)),
 oP 15 (.move (.t 1)),
 oQ 16 (.call 1 77 [(.t 15)]),
 oQ 17 (.call 1 66 [(.t 14), (.t 16)]),
 oP 18 (.extract (.t 17) 0),
 oP 19 (.extract (.t 17) 1),
 ⟨none, .store 2 (.t 4) (.t 18), none, none, []⟩,
 oP 5 (.move (.t 19))])
 (.ret)))⟩
/-- almadraba/almadrabaref07.IsOne -/
def f34 : AFn := ⟨8, [.tmp 2],
 .seq (.region 0 [oP 2 (.move (.c (.bool false)))])
 (.seq (.region 0 [oP 3 (.move (.t 0)),
 oP 4 (.move (.t 0)),
 oQ 5 (.call 1 80 [(.t 4)]),
 oQ 6 (.call 1 79 [(.t 3), (.t 5)]),
 oQ 7 (.call 1 78 [(.t 6)]),
 oP 2 (.move (.t 7))])
 (.ret))⟩
/-- almadraba/cuts.Fix -/
def f39 : AFn := ⟨16, [.tmp 2, .tmp 3],
 .seq (.region 0 [oP 2 (.move (.c (.nils))),
 oP 3 (.move (.c (.int .i64 0)))])
 (.seq (.seq (.region 0 [oP 7 (.move (.t 0)),
 oQ 8 (.call 1 43 [(.t 7)]),
 oP 6 (.move (.t 8)),
 oP 9 (.extract (.t 6) 0),
 oP 10 (.extract (.t 6) 1),
 oP 4 (.move (.t 9)),
 oP 5 (.move (.t 10))])
 (.seq (.region 0 [oP 11 (.move (.t 5)),
 oP 12 (.bin .neq (.t 11) (.c (.int .i64 0)))])
 (.cond (.t 12) (.seq (.region 0 [oP 13 (.move (.t 5)),
 oP 2 (.move (.c (.nils))),
 oP 3 (.move (.t 13))])
 (.ret))
 (.skip))))
 (.seq (.region 0 [oP 14 (.move (.t 0)),
 oQ 15 (.call 1 81 [(.t 14)]),
 oP 2 (.move (.t 15)),
 oP 3 (.move (.c (.int .i64 0)))])
 (.ret)))⟩
/-- almadraba/almadrabaref07.Copy -/
def f42 : AFn := ⟨6, [.tmp 2],
 .seq (.region 0 [oP 2 (.move (.c (.nils)))])
 (.seq (.region 0 [oQ 3 (.buildSlice 6 0 [.int .i64 0, .int .i64 0, .int .i64 0, .int .i64 0, .int .i64 0, .int .i64 0] []),
 oP 4 (.move (.t 0)),
 oQ 5 (.append false 6 48 (.t 3) (.t 4)),
 oP 2 (.move (.t 5))])
 (.ret))⟩
/-- almadraba/cuts.Change -/
def f43 : AFn := ⟨16, [.tmp 2, .tmp 3],
 .seq (.region 0 [oP 2 (.move (.c (.int .i64 0))),
 oP 3 (.move (.c (.int .i64 0)))])
 (.seq (.seq (.region 0 [oP 6 (.move (.t 0)),
 oQ 7 (.call 1 52 [(.t 6)]),
 oP 4 (.move (.t 7))])
 (.seq (.region 0 [oP 8 (.move (.t 4)),
 oP 9 (.bin .neq (.t 8) (.c (.int .i64 0)))])
 (.cond (.t 9) (.seq (.region 0 [oP 10 (.move (.t 4)),
 oP 2 (.move (.c (.int .i64 0))),
 oP 3 (.move (.t 10))])
 (.ret))
 (.skip))))
 (.seq (.region 0 [oP 11 (.move (.t 0)),
 oQ 12 (.call 1 83 [(.t 11)]),
 oP 5 (.move (.t 12))])
 (.seq (.seq (.region 0 [oP 13 (.move (.t 5)),
 oP 14 (.bin .eql (.t 13) (.c (.int .i64 9223372036854775807)))])
 (.cond (.t 14) (.seq (.region 0 [oP 2 (.move (.c (.int .i64 0))),
 oP 3 (.move (.c (.int .i64 3)))])
 (.ret))
 (.skip)))
 (.seq (.region 0 [oP 15 (.move (.t 5)),
 oP 2 (.move (.t 15)),
 oP 3 (.move (.c (.int .i64 0)))])
 (.ret)))))⟩
/-- almadraba/cuts.Changed -/
def f45 : AFn := ⟨26, [.tmp 4, .tmp 5],
 .seq (.region 0 [oP 4 (.move (.c (.int .i64 0))),
 oP 5 (.move (.c (.int .i64 0)))])
 (.seq (.seq (.region 0 [oP 9 (.move (.t 0)),
 oP 10 (.move (.t 1)),
 oQ 11 (.call 1 69 [(.t 9), (.t 10)]),
 oP 6 (.move (.t 11))])
 (.seq (.region 0 [oP 12 (.move (.t 6)),
 oP 13 (.bin .neq (.t 12) (.c (.int .i64 0)))])
 (.cond (.t 13) (.seq (.region 0 [oP 14 (.move (.t 6)),
 oP 4 (.move (.c (.int .i64 0))),
 oP 5 (.move (.t 14))])
 (.ret))
 (.skip))))
 (.seq (.seq (.region 0 [oP 16 (.move (.t 0)),
 oQ 17 (.call 1 43 [(.t 16)]),
 oP 15 (.move (.t 17)),
 oP 18 (.extract (.t 15) 0),
 oP 19 (.extract (.t 15) 1),
 oP 7 (.move (.t 18)),
 oP 8 (.move (.t 19))])
 (.seq (.region 0 [oP 20 (.move (.t 8)),
 oP 21 (.bin .neq (.t 20) (.c (.int .i64 0)))])
 (.cond (.t 21) (.seq (.region 0 [oP 22 (.move (.t 8)),
 oP 4 (.move (.c (.int .i64 0))),
 oP 5 (.move (.t 22))])
 (.ret))
 (.skip))))
 (.seq (.region 0 [oP 23 (.move (.t 0)),
 oP 24 (.move (.t 1)),
 oQ 25 (.call 1 84 [(.t 23), (.t 24)]),
 oP 4 (.move (.t 25)),
 oP 5 (.move (.c (.int .i64 0)))])
 (.ret))))⟩
/-- almadraba/cuts.Cut -/
def f46 : AFn := ⟨21, [.tmp 2, .tmp 3],
 .seq (.region 0 [oP 2 (.move (.c (.nils))),
 oP 3 (.move (.c (.int .i64 0)))])
 (.seq (.seq (.region 0 [oP 8 (.move (.t 0)),
 oQ 9 (.call 1 52 [(.t 8)]),
 oP 4 (.move (.t 9))])
 (.seq (.region 0 [oP 10 (.move (.t 4)),
 oP 11 (.bin .neq (.t 10) (.c (.int .i64 0)))])
 (.cond (.t 11) (.seq (.region 0 [oP 12 (.move (.t 4)),
 oP 2 (.move (.c (.nils))),
 oP 3 (.move (.t 12))])
 (.ret))
 (.skip))))
 (.seq (.region 0 [oP 14 (.move (.t 0)),
 oQ 15 (.call 2 85 [(.t 14)]),
 oP 13 (.move (.t 15)),
 oP 16 (.extract (.t 13) 0),
 oP 17 (.extract (.t 13) 1),
 oP 18 (.extract (.t 13) 2),
 oP 5 (.move (.t 16)),
 oP 6 (.move (.t 17)),
 oP 7 (.move (.t 18))])
 (.seq (.region 0 [oP 19 (.move (.t 5)),
 oP 20 (.move (.t 7)),
 oP 2 (.move (.t 19)),
 oP 3 (.move (.t 20))])
 (.ret))))⟩
/-- almadraba/almadrabaref07.IsCut -/
def f47 : AFn := ⟨44, [.tmp 4],
 .seq (.region 0 [oP 4 (.move (.c (.bool false)))])
 (.seq (.seq (.region 0 [oP 7 (.move (.t 1)),
 oP 8 (.move (.t 0)),
 oP 9 (.lenS (.t 8)),
 oP 10 (.bin .sub (.t 9) (.c (.int .i64 1))),
 oQ 11 (.call 1 86 [(.t 7), (.c (.int .i64 0)), (.t 10)]),
 oP 12 (.un .not (.t 11))])
 (.cond (.t 12) (.seq (.region 0 [oP 4 (.move (.c (.bool false)))])
 (.ret))
 (.skip)))
 (.seq (.seq (.region 0 [oP 5 (.move (.c (.int .i64 0)))])
 (.block 0 (.loop (.seq (.seq (.region 0 [oP 13 (.move (.t 5)),
 oP 14 (.move (.t 1)),
 oP 15 (.lenS (.t 14)),
 oP 16 (.bin .lss (.t 13) (.t 15))])
 (.cond (.t 16) (.skip)
 (.exit 0)))
 (.seq (.block 1 (.seq (.region 0 [oP 19 (.move (.t 0)),
 oP 20 (.move (.t 1)),
 oP 21 (.move (.t 5)),
 oP 22 (.idxSl 1 (.t 20) (.t 21)),
 oQ 23 (.load false 1 (.t 22)),
 oP 24 (.idxSl 6 (.t 19) (.t 23)),
 oP 25 (.fieldAddr 0 (.t 24)),
 oQ 26 (.load false 1 (.t 25)),
 oP 6 (.move (.t 26))])
 (.seq (.region 0 [oP 27 (.move (.t 0)),
 oP 28 (.move (.t 1)),
 oP 29 (.move (.t 5)),
 oP 30 (.idxSl 1 (.t 28) (.t 29)),
 oQ 31 (.load false 1 (.t 30)),
 oQ 32 (.call 1 24 [(.t 27), (.t 31)]),
 oP 33 (.un .not (.t 32)),
 oP 34 (.move (.t 33)),
 oG 35 34 false (.move (.t 6)),
 oG 36 34 false (.bin .neq (.t 35) (.c (.int .i64 (-1)))),
 oG 37 34 false (.move (.t 36)),
 oG 38 37 true (.move (.t 1)),
 oG 39 37 true (.move (.t 6)),
 ⟨(some 40), .call 1 87 [(.t 38), (.t 39)], (some (37, true)), none, []⟩,
 oG 41 37 true (.un .not (.t 40)),
 oG 42 34 false (.pick (.t 37) (.t 41) (.c (.bool false))),
 oP 43 (.pick (.t 34) (.c (.bool true)) (.t 42))])
 (.cond (.t 43) (.seq (.region 0 [oP 4 (.move (.c (.bool false)))])
 (.ret))
 (.skip)))))
 (.region 0 [oP 17 (.move (.t 5)),
 oP 18 (.bin .add (.t 17) (.c (.int .i64 1))),
 oP 5 (.move (.t 18))]))))))
 (.seq (.region 0 [oP 4 (.move (.c (.bool true)))])
 (.ret))))⟩
/-- almadraba/cuts.Gain -/
def f48 : AFn := ⟨37, [.tmp 4, .tmp 5],
 .seq (.region 0 [oP 4 (.move (.c (.int .i64 0))),
 oP 5 (.move (.c (.int .i64 0)))])
 (.seq (.seq (.region 0 [oP 13 (.move (.t 0)),
 oP 14 (.move (.t 1)),
 oQ 15 (.call 1 69 [(.t 13), (.t 14)]),
 oP 6 (.move (.t 15))])
 (.seq (.region 0 [oP 16 (.move (.t 6)),
 oP 17 (.bin .neq (.t 16) (.c (.int .i64 0)))])
 (.cond (.t 17) (.seq (.region 0 [oP 18 (.move (.t 6)),
 oP 4 (.move (.c (.int .i64 0))),
 oP 5 (.move (.t 18))])
 (.ret))
 (.skip))))
 (.seq (.region 0 [oP 20 (.move (.t 0)),
 oQ 21 (.call 1 85 [(.t 20)]),
 oP 19 (.move (.t 21)),
 oP 22 (.extract (.t 19) 0),
 oP 23 (.extract (.t 19) 1),
 oP 24 (.extract (.t 19) 2),
 oP 7 (.move (.t 22)),
 oP 8 (.move (.t 23)),
 oP 9 (.move (.t 24))])
 (.seq (.region 0 [oP 26 (.move (.t 0)),
 oP 27 (.move (.t 1)),
 oQ 28 (.call 1 88 [(.t 26), (.t 27)]),
 oQ 29 (.call 1 85 [(.t 28)]),
 oP 25 (.move (.t 29)),
 oP 30 (.extract (.t 25) 0),
 oP 31 (.extract (.t 25) 1),
 oP 32 (.extract (.t 25) 2),
 oP 10 (.move (.t 30)),
 oP 11 (.move (.t 31)),
 oP 12 (.move (.t 32))])
 (.seq (.region 0 [oP 33 (.move (.t 11)),
 oP 34 (.move (.t 8)),
 oP 35 (.bin .sub (.t 33) (.t 34)),
 oP 36 (.move (.t 9)),
 oP 4 (.move (.t 35)),
 oP 5 (.move (.t 36))])
 (.ret)))))⟩
/-- almadraba/almadrabaref01.SameInts -/
def f50 : AFn := ⟨26, [.tmp 4],
 .seq (.region 0 [oP 4 (.move (.c (.bool false)))])
 (.seq (.seq (.region 0 [oP 6 (.move (.t 0)),
 oP 7 (.lenS (.t 6)),
 oP 8 (.move (.t 1)),
 oP 9 (.lenS (.t 8)),
 oP 10 (.bin .neq (.t 7) (.t 9))])
 (.cond (.t 10) (.seq (.region 0 [oP 4 (.move (.c (.bool false)))])
 (.ret))
 (.skip)))
 (.seq (.seq (.region 0 [oP 5 (.move (.c (.int .i64 0)))])
 (.block 0 (.loop (.seq (.seq (.region 0 [oP 11 (.move (.t 5)),
 oP 12 (.move (.t 0)),
 oP 13 (.lenS (.t 12)),
 oP 14 (.bin .lss (.t 11) (.t 13))])
 (.cond (.t 14) (.skip)
 (.exit 0)))
 (.seq (.block 1 (.seq (.region 0 [oP 17 (.move (.t 0)),
 oP 18 (.move (.t 5)),
 oP 19 (.idxSl 1 (.t 17) (.t 18)),
 oQ 20 (.load false 1 (.t 19)),
 oP 21 (.move (.t 1)),
 oP 22 (.move (.t 5)),
 oP 23 (.idxSl 1 (.t 21) (.t 22)),
 oQ 24 (.load false 1 (.t 23)),
 oP 25 (.bin .neq (.t 20) (.t 24))])
 (.cond (.t 25) (.seq (.region 0 [oP 4 (.move (.c (.bool false)))])
 (.ret))
 (.skip))))
 (.region 0 [oP 15 (.move (.t 5)),
 oP 16 (.bin .add (.t 15) (.c (.int .i64 1))),
 oP 5 (.move (.t 16))]))))))
 (.seq (.region 0 [oP 4 (.move (.c (.bool true)))])
 (.ret))))⟩
/-- almadraba/cuts.Check -/
def f52 : AFn := ⟨6, [.tmp 2],
 .seq (.region 0 [oP 2 (.move (.c (.int .i64 0)))])
 (.seq (.seq (.region 0 [oP 3 (.move (.t 0)),
 oQ 4 (.call 1 89 [(.t 3)]),
 oP 5 (.un .not (.t 4))])
 (.cond (.t 5) (.seq (.region 0 [oP 2 (.move (.c (.int .i64 70)))])
 (.ret))
 (.skip)))
 (.seq (.region 0 [oP 2 (.move (.c (.int .i64 0)))])
 (.ret)))⟩
/-- almadraba/almadrabaref07.Check -/
def f53 : AFn := ⟨42, [.tmp 2],
 .seq (.region 0 [oP 2 (.move (.c (.int .i64 0)))])
 (.seq (.seq (.region 0 [oP 5 (.move (.t 0)),
 oP 6 (.lenS (.t 5)),
 oP 7 (.bin .gtr (.t 6) (.c (.int .i64 8)))])
 (.cond (.t 7) (.seq (.region 0 [oP 2 (.move (.c (.int .i64 70)))])
 (.ret))
 (.skip)))
 (.seq (.seq (.region 0 [oP 3 (.move (.c (.int .i64 0)))])
 (.block 0 (.loop (.seq (.seq (.region 0 [oP 8 (.move (.t 3)),
 oP 9 (.move (.t 0)),
 oP 10 (.lenS (.t 9)),
 oP 11 (.bin .lss (.t 8) (.t 10))])
 (.cond (.t 11) (.skip)
 (.exit 0)))
 (.seq (.block 1 (.seq (.region 0 [oP 14 (.move (.t 0)),
 oP 15 (.move (.t 3)),
 oP 16 (.idxSl 6 (.t 14) (.t 15)),
 oQ 17 (.load true 6 (.t 16)),
 oQ 4 (.alloc [.int .i64 0, .int .i64 0, .int .i64 0, .int .i64 0, .int .i64 0, .int .i64 0]),
 ⟨none, .store 6 (.t 4) (.t 17), none, none, []⟩])
 (.seq (.region 0 [oP 18 (.fieldAddr 0 (.t 4)),
 oQ 19 (.load false 1 (.t 18)),
 oP 20 (.move (.t 3)),
 oP 21 (.bin .sub (.t 20) (.c (.int .i64 1))),
 oQ 22 (.call 1 76 [(.t 19), (.c (.int .i64 (-1))), (.t 21)]),
 oP 23 (.un .not (.t 22)),
 oP 24 (.move (.t 23)),
 oG 25 24 false (.fieldAddr 1 (.t 4)),
 ⟨(some 26), .load true 2 (.t 25), (some (24, false)), none, []⟩,
 ⟨(some 27), .call 1 90 [(.t 26)], (some (24, false)), none, []⟩,
 oG 28 24 false (.un .not (.t 27)),
 oP 29 (.pick (.t 24) (.c (.bool true)) (.t 28)),
 oP 30 (.move (.t 29)),
 oG 31 30 false (.fieldAddr 3 (.t 4)),
 ⟨(some 32), .load true 2 (.t 31), (some (30, false)), none, []⟩,
 ⟨(some 33), .call 1 90 [(.t 32)], (some (30, false)), none, []⟩,
 oG 34 30 false (.un .not (.t 33)),
 oP 35 (.pick (.t 30) (.c (.bool true)) (.t 34)),
 oP 36 (.move (.t 35)),
 oG 37 36 false (.fieldAddr 5 (.t 4)),
 ⟨(some 38), .load false 1 (.t 37), (some (36, false)), none, []⟩,
 ⟨(some 39), .call 1 76 [(.t 38), (.c (.int .i64 0)), (.c (.int .i64 99))], (some (36, false)), none, []⟩,
 oG 40 36 false (.un .not (.t 39)),
 oP 41 (.pick (.t 36) (.c (.bool true)) (.t 40))])
 (.cond (.t 41) (.seq (.region 0 [oP 2 (.move (.c (.int .i64 70)))])
 (.ret))
 (.skip)))))
 (.region 0 [oP 12 (.move (.t 3)),
 oP 13 (.bin .add (.t 12) (.c (.int .i64 1))),
 oP 3 (.move (.t 13))]))))))
 (.seq (.region 0 [oP 2 (.move (.c (.int .i64 0)))])
 (.ret))))⟩
/-- almadraba/almadrabalaw07.Same -/
def f57 : AFn := ⟨26, [.tmp 4],
 .seq (.region 0 [oP 4 (.move (.c (.bool false)))])
 (.seq (.seq (.region 0 [oP 6 (.move (.t 0)),
 oP 7 (.lenS (.t 6)),
 oP 8 (.move (.t 1)),
 oP 9 (.lenS (.t 8)),
 oP 10 (.bin .neq (.t 7) (.t 9))])
 (.cond (.t 10) (.seq (.region 0 [oP 4 (.move (.c (.bool false)))])
 (.ret))
 (.skip)))
 (.seq (.seq (.region 0 [oP 5 (.move (.c (.int .i64 0)))])
 (.block 0 (.loop (.seq (.seq (.region 0 [oP 11 (.move (.t 5)),
 oP 12 (.move (.t 0)),
 oP 13 (.lenS (.t 12)),
 oP 14 (.bin .lss (.t 11) (.t 13))])
 (.cond (.t 14) (.skip)
 (.exit 0)))
 (.seq (.block 1 (.seq (.region 0 [oP 17 (.move (.t 0)),
 oP 18 (.move (.t 5)),
 oP 19 (.idxSl 6 (.t 17) (.t 18)),
 oQ 20 (.load true 6 (.t 19)),
 oP 21 (.move (.t 1)),
 oP 22 (.move (.t 5)),
 oP 23 (.idxSl 6 (.t 21) (.t 22)),
 oQ 24 (.load true 6 (.t 23)),
 oP 25 (.eqS true [true, true, true, true, true, true] (.t 20) (.t 24))])
 (.cond (.t 25) (.seq (.region 0 [oP 4 (.move (.c (.bool false)))])
 (.ret))
 (.skip))))
 (.region 0 [oP 15 (.move (.t 5)),
 oP 16 (.bin .add (.t 15) (.c (.int .i64 1))),
 oP 5 (.move (.t 16))]))))))
 (.seq (.region 0 [oP 4 (.move (.c (.bool true)))])
 (.ret))))⟩
/-- almadraba/almadrabaref07.Change -/
def f58 : AFn := ⟨14, [.tmp 2, .tmp 3],
 .seq (.region 0 [oP 2 (.move (.c (.int .i64 0))),
 oP 3 (.move (.c (.int .i64 0)))])
 (.seq (.seq (.region 0 [oP 5 (.move (.t 0)),
 oQ 6 (.call 1 95 [(.t 5), (.c (.bool true))]),
 oP 4 (.move (.t 6))])
 (.seq (.region 0 [oP 7 (.move (.t 4)),
 oP 8 (.bin .neq (.t 7) (.c (.int .i64 0)))])
 (.cond (.t 8) (.seq (.region 0 [oP 9 (.move (.t 4)),
 oP 2 (.move (.c (.int .i64 0))),
 oP 3 (.move (.t 9))])
 (.ret))
 (.skip))))
 (.seq (.region 0 [oP 10 (.move (.t 0)),
 oP 11 (.move (.t 0)),
 oQ 12 (.call 1 96 [(.t 11)]),
 oQ 13 (.call 1 79 [(.t 10), (.t 12)]),
 oP 2 (.move (.t 13)),
 oP 3 (.move (.c (.int .i64 0)))])
 (.ret)))⟩
/-- almadraba/almadrabaref07.Fix -/
def f59 : AFn := ⟨73, [.tmp 2, .tmp 3],
 .seq (.region 0 [oP 2 (.move (.c (.nils))),
 oP 3 (.move (.c (.int .i64 0)))])
 (.seq (.seq (.region 0 [oP 11 (.move (.t 0)),
 oQ 12 (.call 1 95 [(.t 11), (.c (.bool true))]),
 oP 4 (.move (.t 12))])
 (.seq (.region 0 [oP 13 (.move (.t 4)),
 oP 14 (.bin .neq (.t 13) (.c (.int .i64 0)))])
 (.cond (.t 14) (.seq (.region 0 [oP 15 (.move (.t 4)),
 oP 2 (.move (.c (.nils))),
 oP 3 (.move (.t 15))])
 (.ret))
 (.skip))))
 (.seq (.region 0 [oP 16 (.move (.t 0)),
 oQ 17 (.call 0 96 [(.t 16)]),
 oP 5 (.move (.t 17))])
 (.seq (.region 0 [oP 18 (.move (.t 0)),
 oP 19 (.move (.t 5)),
 oQ 20 (.call 1 79 [(.t 18), (.t 19)]),
 oP 6 (.move (.t 20))])
 (.seq (.region 0 [oP 7 (.move (.c (.nils)))])
 (.seq (.seq (.region 0 [oP 8 (.move (.c (.int .i64 0)))])
 (.block 0 (.loop (.seq (.seq (.region 0 [oP 21 (.move (.t 8)),
 oP 22 (.move (.t 0)),
 oP 23 (.lenS (.t 22)),
 oP 24 (.bin .lss (.t 21) (.t 23))])
 (.cond (.t 24) (.skip)
 (.exit 0)))
 (.seq (.block 1 (.seq (.region 0 [oP 27 (.move (.t 5)),
 oP 28 (.move (.t 8)),
 oP 29 (.idxSl 1 (.t 27) (.t 28)),
 oQ 30 (.load false 1 (.t 29)),
 oP 9 (.move (.t 30))])
 (.seq (.region 0 [oP 10 (.move (.c (.int .i64 0)))])
 (.seq (.block 2 (.loop (.seq (.seq (.region 0 [oP 31 (.move (.t 10)),
 oP 32 (.bin .lss (.t 31) (.c (.int .i64 30)))])
 (.cond (.t 32) (.skip)
 (.exit 2)))
 (.seq (.block 3 (.seq (.region 0 [oP 35 (.move (.t 5)),
 oP 36 (.move (.t 8)),
 oQ 37 (.call 0 97 []),
 oP 38 (.idxSl 1 (.t 35) (.t 36)),
 ⟨none, .store 1 (.t 38) (.t 37), none, none, []⟩])
 (.seq (.region 0 [oP 39 (.move (.t 5)),
 oP 40 (.move (.t 8)),
 oP 41 (.idxSl 1 (.t 39) (.t 40)),
 oQ 42 (.load false 1 (.t 41)),
 oP 43 (.move (.t 10)),
 oP 44 (.move (.t 9)),
 oP 45 (.move (.t 10)),
 oP 46 (.idxSl 1 (.t 44) (.t 45)),
 oQ 47 (.load false 1 (.t 46)),
 oP 48 (.idxSl 1 (.t 42) (.t 43)),
 ⟨none, .store 1 (.t 48) (.t 47), none, none, []⟩])
 (.seq (.region 0 [oP 49 (.move (.t 0)),
 oP 50 (.move (.t 5)),
 oQ 51 (.call 1 79 [(.t 49), (.t 50)]),
 oP 52 (.move (.t 6)),
 oP 53 (.bin .eql (.t 51) (.t 52))])
 (.cond (.t 53) (.exit 2)
 (.skip))))))
 (.region 0 [oP 33 (.move (.t 10)),
 oP 34 (.bin .add (.t 33) (.c (.int .i64 1))),
 oP 10 (.move (.t 34))])))))
 (.seq (.region 0 [oP 54 (.move (.t 5)),
 oP 55 (.move (.t 8)),
 oQ 56 (.call 0 97 []),
 oP 57 (.idxSl 1 (.t 54) (.t 55)),
 ⟨none, .store 1 (.t 57) (.t 56), none, none, []⟩])
 (.seq (.region 0 [oP 58 (.move (.t 5)),
 oP 59 (.move (.t 8)),
 oP 60 (.idxSl 1 (.t 58) (.t 59)),
 oQ 61 (.load false 1 (.t 60)),
 oP 62 (.move (.t 10)),
 oP 63 (.move (.t 9)),
 oP 64 (.move (.t 10)),
 oP 65 (.idxSl 1 (.t 63) (.t 64)),
 oQ 66 (.load false 1 (.t 65)),
 oP 67 (.idxSl 1 (.t 61) (.t 62)),
 ⟨none, .store 1 (.t 67) (.t 66), none, none, []⟩])
 (.region 0 [oP 68 (.move (.t 7)),
 oP 69 (.move (.t 10)),
 oQ 70 (.litS 1 1 [.int .i64 0] [(0, (.t 69))]),
 oQ 71 (.append false 1 8 (.t 68) (.t 70)),
 oP 7 (.move (.t 71))])))))))
 (.region 0 [oP 25 (.move (.t 8)),
 oP 26 (.bin .add (.t 25) (.c (.int .i64 1))),
 oP 8 (.move (.t 26))]))))))
 (.seq (.region 0 [oP 72 (.move (.t 7)),
 oP 2 (.move (.t 72)),
 oP 3 (.move (.c (.int .i64 0)))])
 (.ret)))))))⟩
/-- almadraba/almadrabaref07.Changed -/
def f60 : AFn := ⟨63, [.tmp 4, .tmp 5],
 .seq (.region 0 [oP 4 (.move (.c (.int .i64 0))),
 oP 5 (.move (.c (.int .i64 0)))])
 (.seq (.seq (.region 0 [oP 11 (.move (.t 0)),
 oP 12 (.move (.t 0)),
 oP 13 (.move (.t 1)),
 oQ 14 (.call 1 31 [(.t 12), (.t 13)]),
 oQ 15 (.call 1 95 [(.t 11), (.t 14)]),
 oP 6 (.move (.t 15))])
 (.seq (.region 0 [oP 16 (.move (.t 6)),
 oP 17 (.bin .neq (.t 16) (.c (.int .i64 0)))])
 (.cond (.t 17) (.seq (.region 0 [oP 18 (.move (.t 6)),
 oP 4 (.move (.c (.int .i64 0))),
 oP 5 (.move (.t 18))])
 (.ret))
 (.skip))))
 (.seq (.region 0 [oP 19 (.move (.t 0)),
 oP 20 (.move (.t 0)),
 oQ 21 (.call 0 96 [(.t 20)]),
 oQ 22 (.call 1 79 [(.t 19), (.t 21)]),
 oP 7 (.move (.t 22))])
 (.seq (.region 0 [oP 23 (.move (.t 0)),
 oQ 24 (.call 0 96 [(.t 23)]),
 oP 25 (.move (.t 0)),
 oQ 26 (.call 0 96 [(.t 25)]),
 oP 8 (.move (.t 24)),
 oP 9 (.move (.t 26))])
 (.seq (.seq (.region 0 [oP 10 (.move (.c (.int .i64 0)))])
 (.block 0 (.loop (.seq (.seq (.region 0 [oP 27 (.move (.t 10)),
 oP 28 (.bin .leq (.t 27) (.c (.int .i64 30)))])
 (.cond (.t 28) (.skip)
 (.exit 0)))
 (.seq (.block 1 (.seq (.region 0 [oP 31 (.move (.t 8)),
 oP 32 (.move (.t 1)),
 oP 33 (.idxSl 1 (.t 31) (.t 32)),
 oQ 34 (.load false 1 (.t 33)),
 oP 35 (.move (.t 10)),
 oP 36 (.idxSl 1 (.t 34) (.t 35)),
 oQ 37 (.load false 1 (.t 36)),
 oP 38 (.bin .gtr (.t 37) (.c (.int .i64 0)))])
 (.cond (.t 38) (.region 0 [oP 39 (.move (.t 8)),
 oP 40 (.move (.t 1)),
 oP 41 (.idxSl 1 (.t 39) (.t 40)),
 oQ 42 (.load false 1 (.t 41)),
 oP 43 (.move (.t 10)),
 oP 44 (.idxSl 1 (.t 42) (.t 43)),
 ⟨none, .store 1 (.t 44) (.c (.int .i64 1099511627776)), none, none, []⟩])
 (.region 0 [oP 45 (.move (.t 9)),
 oP 46 (.move (.t 1)),
 oP 47 (.idxSl 1 (.t 45) (.t 46)),
 oQ 48 (.load false 1 (.t 47)),
 oP 49 (.move (.t 10)),
 oP 50 (.idxSl 1 (.t 48) (.t 49)),
 ⟨none, .store 1 (.t 50) (.c (.int .i64 1099511627776)), none, none, []⟩]))))
 (.region 0 [oP 29 (.move (.t 10)),
 oP 30 (.bin .add (.t 29) (.c (.int .i64 1))),
 oP 10 (.move (.t 30))]))))))
 (.seq (.block 2 (.seq (.region 0 [oP 52 (.move (.t 0)),
 oP 53 (.move (.t 8)),
 oQ 54 (.call 1 79 [(.t 52), (.t 53)]),
 oP 55 (.move (.t 7)),
 oP 56 (.bin .gtr (.t 54) (.t 55)),
 oP 51 (.move (.t 56))])
 (.cond (.t 51) (.seq (.region 0 [oP 4 (.move (.c (.int .i64 1))),
 oP 5 (.move (.c (.int .i64 0)))])
 (.ret))
 (.seq (.region 0 [oP 58 (.move (.t 0)),
 oP 59 (.move (.t 9)),
 oQ 60 (.call 1 79 [(.t 58), (.t 59)]),
 oP 61 (.move (.t 7)),
 oP 62 (.bin .gtr (.t 60) (.t 61)),
 oP 57 (.move (.t 62))])
 (.cond (.t 57) (.seq (.region 0 [oP 4 (.move (.c (.int .i64 2))),
 oP 5 (.move (.c (.int .i64 0)))])
 (.ret))
 (.skip))))))
 (.seq (.region 0 [oP 4 (.move (.c (.int .i64 3))),
 oP 5 (.move (.c (.int .i64 0)))])
 (.ret)))))))⟩
/-- almadraba/almadrabaref07.Cut -/
def f63 : AFn := ⟨18, [.tmp 2, .tmp 3],
 .seq (.region 0 [oP 2 (.move (.c (.nils))),
 oP 3 (.move (.c (.int .i64 0)))])
 (.seq (.seq (.region 0 [oP 7 (.move (.t 0)),
 oQ 8 (.call 1 91 [(.t 7), (.c (.bool true))]),
 oP 4 (.move (.t 8))])
 (.seq (.region 0 [oP 9 (.move (.t 4)),
 oP 10 (.bin .neq (.t 9) (.c (.int .i64 0)))])
 (.cond (.t 10) (.seq (.region 0 [oP 11 (.move (.t 4)),
 oP 2 (.move (.c (.nils))),
 oP 3 (.move (.t 11))])
 (.ret))
 (.skip))))
 (.seq (.region 0 [oP 13 (.move (.t 0)),
 oQ 14 (.call 1 99 [(.t 13)]),
 oP 12 (.move (.t 14)),
 oP 15 (.extract (.t 12) 0),
 oP 16 (.extract (.t 12) 1),
 oP 5 (.move (.t 15)),
 oP 6 (.move (.t 16))])
 (.seq (.region 0 [oP 17 (.move (.t 5)),
 oP 2 (.move (.t 17)),
 oP 3 (.move (.c (.int .i64 0)))])
 (.ret))))⟩
/-- almadraba/almadrabaref07.Gain -/
def f64 : AFn := ⟨34, [.tmp 4, .tmp 5],
 .seq (.region 0 [oP 4 (.move (.c (.int .i64 0))),
 oP 5 (.move (.c (.int .i64 0)))])
 (.seq (.seq (.region 0 [oP 11 (.move (.t 0)),
 oP 12 (.move (.t 0)),
 oP 13 (.move (.t 1)),
 oQ 14 (.call 1 31 [(.t 12), (.t 13)]),
 oQ 15 (.call 1 91 [(.t 11), (.t 14)]),
 oP 6 (.move (.t 15))])
 (.seq (.region 0 [oP 16 (.move (.t 6)),
 oP 17 (.bin .neq (.t 16) (.c (.int .i64 0)))])
 (.cond (.t 17) (.seq (.region 0 [oP 18 (.move (.t 6)),
 oP 4 (.move (.c (.int .i64 0))),
 oP 5 (.move (.t 18))])
 (.ret))
 (.skip))))
 (.seq (.region 0 [oP 20 (.move (.t 0)),
 oP 21 (.move (.t 1)),
 oQ 22 (.call 1 100 [(.t 20), (.t 21)]),
 oQ 23 (.call 1 99 [(.t 22)]),
 oP 19 (.move (.t 23)),
 oP 24 (.extract (.t 19) 0),
 oP 25 (.extract (.t 19) 1),
 oP 7 (.move (.t 24)),
 oP 8 (.move (.t 25))])
 (.seq (.region 0 [oP 27 (.move (.t 0)),
 oQ 28 (.call 1 99 [(.t 27)]),
 oP 26 (.move (.t 28)),
 oP 29 (.extract (.t 26) 0),
 oP 30 (.extract (.t 26) 1),
 oP 9 (.move (.t 29)),
 oP 10 (.move (.t 30))])
 (.seq (.region 0 [oP 31 (.move (.t 8)),
 oP 32 (.move (.t 10)),
 oP 33 (.bin .sub (.t 31) (.t 32)),
 oP 4 (.move (.t 33)),
 oP 5 (.move (.c (.int .i64 0)))])
 (.ret)))))⟩
/-- almadraba/almadrabalaw07.Example -/
def f65 : AFn := ⟨16, [.tmp 0, .tmp 1],
 .seq (.region 0 [oP 0 (.move (.c (.nils))),
 oP 1 (.move (.c (.nils)))])
 (.seq (.region 0 [oQ 2 (.call 1 101 [(.c (.int .i64 (-1))), (.c (.int .i64 20)), (.c (.int .i64 24)), (.c (.int .i64 1)), (.c (.int .i64 3)), (.c (.int .i64 2))]),
 oQ 3 (.call 1 101 [(.c (.int .i64 0)), (.c (.int .i64 8)), (.c (.int .i64 12)), (.c (.int .i64 0)), (.c (.int .i64 2)), (.c (.int .i64 3))]),
 oQ 4 (.call 1 101 [(.c (.int .i64 0)), (.c (.int .i64 9)), (.c (.int .i64 10)), (.c (.int .i64 0)), (.c (.int .i64 0)), (.c (.int .i64 4))]),
 oQ 5 (.call 1 101 [(.c (.int .i64 1)), (.c (.int .i64 6)), (.c (.int .i64 7)), (.c (.int .i64 0)), (.c (.int .i64 0)), (.c (.int .i64 6))]),
 oQ 6 (.call 1 101 [(.c (.int .i64 1)), (.c (.int .i64 0)), (.c (.int .i64 30)), (.c (.int .i64 0)), (.c (.int .i64 0)), (.c (.int .i64 1))]),
 oQ 7 (.litS 6 5 [.int .i64 0, .int .i64 0, .int .i64 0, .int .i64 0, .int .i64 0, .int .i64 0] [(0, (.t 2)), (1, (.t 3)), (2, (.t 4)), (3, (.t 5)), (4, (.t 6))]),
 oP 0 (.move (.t 7))])
 (.seq (.region 0 [oQ 8 (.buildSlice 6 0 [.int .i64 0, .int .i64 0, .int .i64 0, .int .i64 0, .int .i64 0, .int .i64 0] []),
 oP 9 (.move (.t 0)),
 oQ 10 (.append false 6 48 (.t 8) (.t 9)),
 oP 1 (.move (.t 10))])
 (.seq (.region 0 [oP 11 (.move (.t 1)),
 oQ 12 (.call 1 101 [(.c (.int .i64 0)), (.c (.int .i64 0)), (.c (.int .i64 5)), (.c (.int .i64 0)), (.c (.int .i64 2)), (.c (.int .i64 3))]),
 oP 13 (.idxSl 6 (.t 11) (.c (.int .i64 1))),
 ⟨none, .store 6 (.t 13) (.t 12), none, none, []⟩])
 (.seq (.region 0 [oP 14 (.move (.t 0)),
 oP 15 (.move (.t 1)),
 oP 0 (.move (.t 14)),
 oP 1 (.move (.t 15))])
 (.ret)))))⟩
/-- (almadraba/cuts.table).between -/
def f66 : AFn := ⟨29, [.cell true 2 4, .tmp 5],
 .seq (.region 0 [oQ 3 (.box (.t 1)),
 oQ 4 (.alloc [.int .i64 0, .int .i64 0]),
 oP 5 (.move (.c (.int .i64 0)))])
 (.seq (.region 0 [oP 8 (.move (.t 0)),
 oP 9 (.move (.t 0)),
 oQ 10 (.load true 8 (.t 3)),
 oP 11 (.mkFn 104 [(.t 10)] []),
 oQ 12 (.call 0 103 [(.t 9), (.t 11)]),
 oQ 13 (.call 3 102 [(.t 8), (.t 12)]),
 oP 6 (.move (.t 13))])
 (.seq (.seq (.region 0 [oP 14 (.move (.t 6)),
 oP 15 (.bin .eql (.t 14) (.c (.int .i64 9223372036854775807)))])
 (.cond (.t 15) (.seq (.region 0 [oP 16 (.build [.int .i64 0, .int .i64 0] []),
 ⟨none, .store 2 (.t 4) (.t 16), none, none, []⟩,
 oP 5 (.move (.c (.int .i64 3)))])
 (.ret))
 (.skip)))
 (.seq (.region 0 [oP 17 (.move (.t 0)),
 oP 18 (.move (.t 0)),
 oP 19 (.build [.int .i64 0, .int .i64 0, .int .i64 0, .int .i64 0, .int .i64 0, .int .i64 0, .int .i64 0, .int .i64 0] []),
 oQ 20 (.load true 8 (.t 3)),
 oQ 21 (.call 1 74 [(.t 19), (.t 20)]),
 oP 22 (.mkFn 104 [(.t 21)] []),
 oQ 23 (.call 0 103 [(.t 18), (.t 22)]),
 oQ 24 (.call 3 102 [(.t 17), (.t 23)]),
 oP 25 (.un .neg (.t 24)),
 oP 7 (.move (.t 25))])
 (.seq (.region 0 [oP 26 (.move (.t 6)),
 oP 27 (.move (.t 7)),
 oP 28 (.build [.int .i64 0, .int .i64 0] [(0, 1, (.t 26)), (1, 1, (.t 27))]),
 ⟨none, .store 2 (.t 4) (.t 28), none, none, []⟩,
 oP 5 (.move (.c (.int .i64 0)))])
 (.ret)))))⟩
/-- almadraba/cuts.fitPart -/
def f69 : AFn := ⟨17, [.tmp 4],
 .seq (.region 0 [oP 4 (.move (.c (.int .i64 0)))])
 (.seq (.region 0 [oP 6 (.move (.t 0)),
 oQ 7 (.call 1 52 [(.t 6)]),
 oP 5 (.move (.t 7))])
 (.seq (.seq (.region 0 [oP 8 (.move (.t 5)),
 oP 9 (.bin .eql (.t 8) (.c (.int .i64 0))),
 oP 10 (.move (.t 9)),
 oG 11 10 true (.move (.t 0)),
 oG 12 10 true (.move (.t 1)),
 ⟨(some 13), .call 1 108 [(.t 11), (.t 12)], (some (10, true)), none, []⟩,
 oG 14 10 true (.un .not (.t 13)),
 oP 15 (.pick (.t 10) (.t 14) (.c (.bool false)))])
 (.cond (.t 15) (.seq (.region 0 [oP 4 (.move (.c (.int .i64 1)))])
 (.ret))
 (.skip)))
 (.seq (.region 0 [oP 16 (.move (.t 5)),
 oP 4 (.move (.t 16))])
 (.ret))))⟩
/-- (almadraba/cuts.table).canCut -/
def f70 : AFn := ⟨8, [.tmp 4],
 .seq (.region 0 [oQ 3 (.box (.t 1)),
 oP 4 (.move (.c (.bool false)))])
 (.seq (.region 0 [oP 5 (.move (.t 0)),
 oP 6 (.mkFn 110 [] [(.t 3)]),
 oQ 7 (.call 3 109 [(.t 5), (.t 6)]),
 oP 4 (.move (.t 7))])
 (.ret))⟩
/-- almadraba/cuts.fitCuts -/
def f72 : AFn := ⟨24, [.tmp 4],
 .seq (.region 0 [oP 4 (.move (.c (.int .i64 0)))])
 (.seq (.seq (.region 0 [oP 8 (.move (.t 0)),
 oQ 9 (.call 1 52 [(.t 8)]),
 oP 5 (.move (.t 9))])
 (.seq (.region 0 [oP 10 (.move (.t 5)),
 oP 11 (.bin .neq (.t 10) (.c (.int .i64 0)))])
 (.cond (.t 11) (.seq (.region 0 [oP 12 (.move (.t 5)),
 oP 4 (.move (.t 12))])
 (.ret))
 (.skip))))
 (.seq (.seq (.region 0 [oP 13 (.move (.t 1)),
 oP 14 (.lenS (.t 13)),
 oP 15 (.move (.c (.int .i64 0)))])
 (.block 0 (.loop (.seq (.region 0 [oP 16 (.bin .lss (.t 15) (.t 14))])
 (.seq (.cond (.t 16) (.skip)
 (.exit 0))
 (.seq (.block 1 (.seq (.region 0 [oP 17 (.idxSl 1 (.t 13) (.t 15)),
 oQ 18 (.load false 1 (.t 17)),
 oP 7 (.move (.t 18))])
 (.seq (.region 0 [oP 19 (.move (.t 0)),
 oP 20 (.move (.t 7)),
 oQ 21 (.call 1 111 [(.t 19), (.t 20)]),
 oP 22 (.un .not (.t 21))])
 (.cond (.t 22) (.seq (.region 0 [oP 4 (.move (.c (.int .i64 1)))])
 (.ret))
 (.skip)))))
 (.region 0 [oP 23 (.bin .add (.t 15) (.c (.int .i64 1))),
 oP 15 (.move (.t 23))])))))))
 (.seq (.region 0 [oP 4 (.move (.c (.int .i64 0)))])
 (.ret))))⟩
/-- (almadraba/cuts.table).sold -/
def f73 : AFn := ⟨31, [.cell true 8 4],
 .seq (.region 0 [oQ 4 (.alloc [.int .i64 0, .int .i64 0, .int .i64 0, .int .i64 0, .int .i64 0, .int .i64 0, .int .i64 0, .int .i64 0])])
 (.seq (.region 0 [oQ 5 (.alloc [.int .i64 0, .int .i64 0, .int .i64 0, .int .i64 0, .int .i64 0, .int .i64 0, .int .i64 0, .int .i64 0])])
 (.seq (.seq (.region 0 [oP 8 (.move (.t 0)),
 oP 9 (.lenS (.t 8)),
 oP 10 (.move (.c (.int .i64 0)))])
 (.block 0 (.loop (.seq (.region 0 [oP 11 (.bin .lss (.t 10) (.t 9))])
 (.seq (.cond (.t 11) (.skip)
 (.exit 0))
 (.seq (.block 1 (.seq (.region 0 [oP 12 (.move (.t 10)),
 oP 13 (.idxSl 6 (.t 8) (.t 10)),
 oQ 14 (.load true 6 (.t 13)),
 oQ 7 (.alloc [.int .i64 0, .int .i64 0, .int .i64 0, .int .i64 0, .int .i64 0, .int .i64 0]),
 oP 6 (.move (.t 12)),
 ⟨none, .store 6 (.t 7) (.t 14), none, none, []⟩])
 (.seq (.region 0 [oP 15 (.move (.t 0)),
 oP 16 (.move (.t 6)),
 oP 17 (.move (.t 1)),
 oQ 18 (.call 1 112 [(.t 15), (.t 16), (.t 17)]),
 oP 19 (.move (.t 18)),
 oG 20 19 true (.move (.t 1)),
 oG 21 19 true (.move (.t 6)),
 ⟨(some 22), .call 1 113 [(.t 20), (.t 21)], (some (19, true)), none, []⟩,
 oG 23 19 true (.un .not (.t 22)),
 oP 24 (.pick (.t 19) (.t 23) (.c (.bool false)))])
 (.cond (.t 24) (.region 0 [oP 25 (.move (.t 6)),
 oP 26 (.fieldAddr 5 (.t 7)),
 oQ 27 (.load false 1 (.t 26)),
 oP 28 (.idxArr 8 1 (.t 5) (.t 25)),
 ⟨none, .store 1 (.t 28) (.t 27), none, none, []⟩])
 (.skip)))))
 (.region 0 [oP 29 (.bin .add (.t 10) (.c (.int .i64 1))),
 oP 10 (.move (.t 29))])))))))
 (.seq (.region 0 [oQ 30 (.load true 8 (.t 5)),
 ⟨none, .store 8 (.t 4) (.t 30), none, none, []⟩])
 (.ret))))⟩
/-- (almadraba/cuts.rates).minus -/
def f74 : AFn := ⟨19, [.cell true 8 4],
 .seq (.region 0 [oQ 2 (.box (.t 0)),
 oQ 3 (.box (.t 1)),
 oQ 4 (.alloc [.int .i64 0, .int .i64 0, .int .i64 0, .int .i64 0, .int .i64 0, .int .i64 0, .int .i64 0, .int .i64 0])])
 (.seq (.seq (.region 0 [oP 6 (.move (.c (.int .i64 0)))])
 (.block 0 (.loop (.seq (.region 0 [oP 7 (.bin .lss (.t 6) (.c (.int .i64 8)))])
 (.seq (.cond (.t 7) (.skip)
 (.exit 0))
 (.seq (.block 1 (.seq (.region 0 [oP 8 (.move (.t 6)),
 oP 5 (.move (.t 8))])
 (.region 0 [oP 9 (.move (.t 5)),
 oP 10 (.idxArr 8 1 (.t 2) (.t 9)),
 oQ 11 (.load false 1 (.t 10)),
 oP 12 (.move (.t 5)),
 oP 13 (.idxArr 8 1 (.t 3) (.t 12)),
 oQ 14 (.load false 1 (.t 13)),
 oP 15 (.bin .sub (.t 11) (.t 14)),
 oP 16 (.idxArr 8 1 (.t 2) (.t 9)),
 ⟨none, .store 1 (.t 16) (.t 15), none, none, []⟩])))
 (.region 0 [oP 17 (.bin .add (.t 6) (.c (.int .i64 1))),
 oP 6 (.move (.t 17))])))))))
 (.seq (.region 0 [oQ 18 (.load true 8 (.t 2)),
 ⟨none, .store 8 (.t 4) (.t 18), none, none, []⟩])
 (.ret)))⟩
/-- almadraba/almadrabaref07.Pays -/
def f75 : AFn := ⟨29, [.tmp 4],
 .seq (.region 0 [oP 4 (.move (.c (.nils)))])
 (.seq (.region 0 [oP 7 (.move (.t 0)),
 oP 8 (.lenS (.t 7)),
 oQ 9 (.makeSlice false 1 8 [.int .i64 0] (.t 8) (.t 8)),
 oP 5 (.move (.t 9))])
 (.seq (.seq (.region 0 [oP 6 (.move (.c (.int .i64 0)))])
 (.block 0 (.loop (.seq (.seq (.region 0 [oP 10 (.move (.t 6)),
 oP 11 (.move (.t 0)),
 oP 12 (.lenS (.t 11)),
 oP 13 (.bin .lss (.t 10) (.t 12))])
 (.cond (.t 13) (.skip)
 (.exit 0)))
 (.seq (.block 1 (.seq (.region 0 [oP 16 (.move (.t 0)),
 oP 17 (.move (.t 1)),
 oP 18 (.move (.t 6)),
 oQ 19 (.call 1 114 [(.t 16), (.t 17), (.t 18)])])
 (.cond (.t 19) (.region 0 [oP 20 (.move (.t 5)),
 oP 21 (.move (.t 6)),
 oP 22 (.move (.t 0)),
 oP 23 (.move (.t 6)),
 oP 24 (.idxSl 6 (.t 22) (.t 23)),
 oP 25 (.fieldAddr 5 (.t 24)),
 oQ 26 (.load false 1 (.t 25)),
 oP 27 (.idxSl 1 (.t 20) (.t 21)),
 ⟨none, .store 1 (.t 27) (.t 26), none, none, []⟩])
 (.skip))))
 (.region 0 [oP 14 (.move (.t 6)),
 oP 15 (.bin .add (.t 14) (.c (.int .i64 1))),
 oP 6 (.move (.t 15))]))))))
 (.seq (.region 0 [oP 28 (.move (.t 5)),
 oP 4 (.move (.t 28))])
 (.ret))))⟩
/-- almadraba/almadrabaref07.within -/
def f76 : AFn := ⟨11, [.tmp 6],
 .seq (.region 0 [oP 6 (.move (.c (.bool false)))])
 (.seq (.region 0 [oP 7 (.move (.t 0)),
 oP 8 (.move (.t 1)),
 oP 9 (.move (.t 2)),
 oQ 10 (.call 1 30 [(.t 7), (.t 8), (.t 9)]),
 oP 6 (.move (.t 10))])
 (.ret))⟩
/-- almadraba/cuts.alone -/
def f77 : AFn := ⟨7, [.cell true 8 2],
 .seq (.region 0 [oQ 2 (.alloc [.int .i64 0, .int .i64 0, .int .i64 0, .int .i64 0, .int .i64 0, .int .i64 0, .int .i64 0, .int .i64 0])])
 (.seq (.region 0 [oQ 3 (.alloc [.int .i64 0, .int .i64 0, .int .i64 0, .int .i64 0, .int .i64 0, .int .i64 0, .int .i64 0, .int .i64 0])])
 (.seq (.region 0 [oP 4 (.move (.t 0)),
 oP 5 (.idxArr 8 1 (.t 3) (.t 4)),
 ⟨none, .store 1 (.t 5) (.c (.int .i64 1)), none, none, []⟩])
 (.seq (.region 0 [oQ 6 (.load true 8 (.t 3)),
 ⟨none, .store 8 (.t 2) (.t 6), none, none, []⟩])
 (.ret))))⟩
/-- almadraba/almadrabaref07.isOne -/
def f78 : AFn := ⟨5, [.tmp 2],
 .seq (.region 0 [oP 2 (.move (.c (.bool false)))])
 (.seq (.region 0 [oP 3 (.move (.t 0)),
 oP 4 (.bin .lss (.t 3) (.c (.int .i64 549755813888))),
 oP 2 (.move (.t 4))])
 (.ret))⟩
end Go.Proofs.Yteonklnjchefiaa.T
