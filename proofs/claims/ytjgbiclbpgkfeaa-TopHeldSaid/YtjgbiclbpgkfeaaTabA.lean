/-
The code of functions of the seat, as the abstract machine has it (printed by a tool of ours off the dump).
-/
import Derived.Test.YtjgbiclbpgkfeaaAmX
namespace Go.Proofs.Ytjgbiclbpgkfeaa.T
open Go Go.Am
abbrev oP (n : Nat) (p : POp) : AOper := ⟨some n, .p p, none, none, []⟩
abbrev oQ (n : Nat) (p : AOp) : AOper := ⟨some n, p, none, none, []⟩
abbrev oG (n m : Nat) (b : Bool) (p : POp) : AOper := ⟨some n, .p p, some (m, b), none, []⟩
/-- gosem.cut.init -/
def f2 : AFn := ⟨1, [],
 .region 0 [oQ 0 (.call 1 1 [])]⟩
/-- almadraba/almadrabatop.TopHeld -/
def f3 : AFn := ⟨208, [.tmp 6],
 .seq (.region 0 [oQ 3 (.box (.t 0)),
 oQ 4 (.box (.t 1)),
 oQ 5 (.box (.t 2)),
 oP 6 (.move (.c (.bool false)))])
 (.seq (.seq (.region 0 [oQ 24 (.load true 4 (.t 3)),
 oQ 25 (.call 1 4 [(.t 24)]),
 oP 26 (.move (.t 25)),
 ⟨(some 27), .load true 4 (.t 3), (some (26, false)), none, []⟩,
 ⟨(some 28), .call 1 5 [(.t 27)], (some (26, false)), none, []⟩,
 oG 29 26 false (.bin .neq (.t 28) (.c (.int .i64 0))),
 oP 30 (.pick (.t 26) (.c (.bool true)) (.t 29)),
 oP 31 (.move (.t 30)),
 ⟨(some 32), .load true 7 (.t 4), (some (31, false)), none, []⟩,
 oG 33 31 false (.fieldAddr 2 (.t 5)),
 ⟨(some 34), .load true 3 (.t 33), (some (31, false)), none, []⟩,
 ⟨(some 35), .call 1 6 [(.t 32), (.t 34)], (some (31, false)), none, []⟩,
 oP 36 (.pick (.t 31) (.c (.bool true)) (.t 35)),
 oP 37 (.move (.t 36)),
 ⟨(some 38), .load true 7 (.t 4), (some (37, false)), none, []⟩,
 ⟨(some 39), .call 1 7 [(.t 38)], (some (37, false)), none, []⟩,
 oG 40 37 false (.bin .neq (.t 39) (.c (.int .i64 0))),
 oP 41 (.pick (.t 37) (.c (.bool true)) (.t 40)),
 oP 42 (.move (.t 41)),
 ⟨(some 43), .load true 7 (.t 4), (some (42, false)), none, []⟩,
 oG 44 42 false (.fieldAddr 2 (.t 5)),
 ⟨(some 45), .load true 3 (.t 44), (some (42, false)), none, []⟩,
 ⟨(some 46), .call 1 8 [(.t 43), (.t 45)], (some (42, false)), none, []⟩,
 oG 47 42 false (.un .not (.t 46)),
 oP 48 (.pick (.t 42) (.c (.bool true)) (.t 47)),
 oP 49 (.move (.t 48)),
 ⟨(some 50), .load true 4 (.t 3), (some (49, false)), none, []⟩,
 oG 51 49 false (.fieldAddr 1 (.t 5)),
 ⟨(some 52), .load false 1 (.t 51), (some (49, false)), none, []⟩,
 ⟨(some 53), .call 1 9 [(.t 50), (.t 52)], (some (49, false)), none, []⟩,
 oG 54 49 false (.un .not (.t 53)),
 oP 55 (.pick (.t 49) (.c (.bool true)) (.t 54)),
 oP 56 (.move (.t 55)),
 oG 57 56 false (.fieldAddr 0 (.t 5)),
 ⟨(some 58), .load false 1 (.t 57), (some (56, false)), none, []⟩,
 oG 59 56 false (.lenS (.t 58)),
 oG 60 56 false (.bin .gtr (.t 59) (.c (.int .i64 40))),
 oP 61 (.pick (.t 56) (.c (.bool true)) (.t 60)),
 oP 62 (.move (.t 61)),
 ⟨(some 63), .load true 4 (.t 3), (some (62, false)), none, []⟩,
 oG 64 62 false (.fieldAddr 0 (.t 5)),
 ⟨(some 65), .load false 1 (.t 64), (some (62, false)), none, []⟩,
 ⟨(some 66), .call 1 10 [(.t 63), (.t 65)], (some (62, false)), none, []⟩,
 oG 67 62 false (.un .not (.t 66)),
 oP 68 (.pick (.t 62) (.c (.bool true)) (.t 67))])
 (.cond (.t 68) (.seq (.region 0 [oQ 69 (.call 1 11 []),
 oP 6 (.move (.t 69))])
 (.ret))
 (.skip)))
 (.seq (.region 0 [oQ 71 (.load true 4 (.t 3)),
 oP 72 (.fieldAddr 1 (.t 5)),
 oQ 73 (.load false 1 (.t 72)),
 oQ 74 (.call 1 12 [(.t 71), (.t 73)]),
 oP 70 (.move (.t 74)),
 oP 75 (.extract (.t 70) 0),
 oP 76 (.extract (.t 70) 1),
 oP 77 (.extract (.t 70) 2),
 oP 7 (.move (.t 75)),
 oP 8 (.move (.t 76)),
 oP 9 (.move (.t 77))])
 (.seq (.region 0 [oQ 79 (.load true 7 (.t 4)),
 oP 80 (.move (.t 7)),
 oP 81 (.fieldAddr 2 (.t 5)),
 oQ 82 (.load true 3 (.t 81)),
 oQ 83 (.call 1 13 [(.t 79), (.t 80), (.t 82)]),
 oP 78 (.move (.t 83)),
 oP 84 (.extract (.t 78) 0),
 oP 85 (.extract (.t 78) 1),
 oP 10 (.move (.t 84)),
 oP 11 (.move (.t 85))])
 (.seq (.region 0 [oQ 87 (.load true 7 (.t 4)),
 oP 88 (.fieldAddr 0 (.t 5)),
 oQ 89 (.load false 1 (.t 88)),
 oP 90 (.fieldAddr 1 (.t 5)),
 oQ 91 (.load false 1 (.t 90)),
 oP 92 (.idxSl 1 (.t 89) (.t 91)),
 oQ 93 (.load false 1 (.t 92)),
 oP 94 (.fieldAddr 2 (.t 5)),
 oQ 95 (.load true 3 (.t 94)),
 oQ 96 (.call 1 13 [(.t 87), (.t 93), (.t 95)]),
 oP 86 (.move (.t 96)),
 oP 97 (.extract (.t 86) 0),
 oP 98 (.extract (.t 86) 1),
 oP 12 (.move (.t 97)),
 oP 13 (.move (.t 98))])
 (.seq (.region 0 [oQ 100 (.load true 7 (.t 4)),
 oP 101 (.move (.t 8)),
 oP 102 (.fieldAddr 2 (.t 5)),
 oQ 103 (.load true 3 (.t 102)),
 oQ 104 (.call 1 13 [(.t 100), (.t 101), (.t 103)]),
 oP 99 (.move (.t 104)),
 oP 105 (.extract (.t 99) 0),
 oP 106 (.extract (.t 99) 1),
 oP 14 (.move (.t 105)),
 oP 15 (.move (.t 106))])
 (.seq (.seq (.region 0 [oP 107 (.move (.t 9)),
 oP 108 (.un .not (.t 107)),
 oP 109 (.move (.t 108)),
 oG 110 109 false (.move (.t 11)),
 oG 111 109 false (.un .not (.t 110)),
 oP 112 (.pick (.t 109) (.c (.bool true)) (.t 111)),
 oP 113 (.move (.t 112)),
 oG 114 113 false (.move (.t 13)),
 oG 115 113 false (.un .not (.t 114)),
 oP 116 (.pick (.t 113) (.c (.bool true)) (.t 115)),
 oP 117 (.move (.t 116)),
 oG 118 117 false (.move (.t 15)),
 oG 119 117 false (.un .not (.t 118)),
 oP 120 (.pick (.t 117) (.c (.bool true)) (.t 119)),
 oP 121 (.move (.t 120)),
 oG 122 121 false (.move (.t 10)),
 oG 123 121 false (.move (.t 12)),
 ⟨(some 124), .call 1 14 [(.t 122), (.t 123)], (some (121, false)), none, []⟩,
 oG 125 121 false (.un .not (.t 124)),
 oP 126 (.pick (.t 121) (.c (.bool true)) (.t 125)),
 oP 127 (.move (.t 126)),
 oG 128 127 false (.move (.t 12)),
 oG 129 127 false (.move (.t 14)),
 ⟨(some 130), .call 1 14 [(.t 128), (.t 129)], (some (127, false)), none, []⟩,
 oG 131 127 false (.un .not (.t 130)),
 oP 132 (.pick (.t 127) (.c (.bool true)) (.t 131))])
 (.cond (.t 132) (.seq (.region 0 [oP 6 (.move (.c (.bool false)))])
 (.ret))
 (.skip)))
 (.seq (.seq (.region 0 [oQ 133 (.load true 4 (.t 3)),
 oP 134 (.fieldAddr 5 (.t 5)),
 oQ 135 (.load true 4 (.t 134)),
 oQ 136 (.call 1 15 [(.t 133), (.t 135)]),
 oP 137 (.un .not (.t 136))])
 (.cond (.t 137) (.seq (.region 0 [oQ 138 (.call 1 11 []),
 oP 6 (.move (.t 138))])
 (.ret))
 (.skip)))
 (.seq (.region 0 [oQ 139 (.load true 4 (.t 3)),
 oP 140 (.fieldAddr 5 (.t 5)),
 oQ 141 (.load true 4 (.t 140)),
 oQ 142 (.call 1 16 [(.t 139), (.t 141)]),
 oQ 16 (.alloc [.int .i64 0, .int .i64 0, .nils, .nils]),
 ⟨none, .store 4 (.t 16) (.t 142), none, none, []⟩])
 (.seq (.seq (.region 0 [oQ 143 (.load true 4 (.t 16)),
 oQ 144 (.call 1 5 [(.t 143)]),
 oP 145 (.bin .neq (.t 144) (.c (.int .i64 0))),
 oP 146 (.move (.t 145)),
 ⟨(some 147), .load true 4 (.t 16), (some (146, false)), none, []⟩,
 oG 148 146 false (.fieldAddr 0 (.t 5)),
 ⟨(some 149), .load false 1 (.t 148), (some (146, false)), none, []⟩,
 ⟨(some 150), .call 1 10 [(.t 147), (.t 149)], (some (146, false)), none, []⟩,
 oG 151 146 false (.un .not (.t 150)),
 oP 152 (.pick (.t 146) (.c (.bool true)) (.t 151))])
 (.cond (.t 152) (.seq (.region 0 [oQ 153 (.call 1 11 []),
 oP 6 (.move (.t 153))])
 (.ret))
 (.skip)))
 (.seq (.region 0 [oQ 155 (.load true 4 (.t 16)),
 oP 156 (.fieldAddr 1 (.t 5)),
 oQ 157 (.load false 1 (.t 156)),
 oQ 158 (.call 1 12 [(.t 155), (.t 157)]),
 oP 154 (.move (.t 158)),
 oP 159 (.extract (.t 154) 0),
 oP 160 (.extract (.t 154) 1),
 oP 161 (.extract (.t 154) 2),
 oP 17 (.move (.t 159)),
 oP 18 (.move (.t 160)),
 oP 19 (.move (.t 161))])
 (.seq (.region 0 [oQ 163 (.load true 7 (.t 4)),
 oP 164 (.move (.t 17)),
 oP 165 (.fieldAddr 2 (.t 5)),
 oQ 166 (.load true 3 (.t 165)),
 oQ 167 (.call 1 13 [(.t 163), (.t 164), (.t 166)]),
 oP 162 (.move (.t 167)),
 oP 168 (.extract (.t 162) 0),
 oP 169 (.extract (.t 162) 1),
 oP 20 (.move (.t 168)),
 oP 21 (.move (.t 169))])
 (.seq (.region 0 [oQ 171 (.load true 7 (.t 4)),
 oP 172 (.move (.t 18)),
 oP 173 (.fieldAddr 2 (.t 5)),
 oQ 174 (.load true 3 (.t 173)),
 oQ 175 (.call 1 13 [(.t 171), (.t 172), (.t 174)]),
 oP 170 (.move (.t 175)),
 oP 176 (.extract (.t 170) 0),
 oP 177 (.extract (.t 170) 1),
 oP 22 (.move (.t 176)),
 oP 23 (.move (.t 177))])
 (.seq (.region 0 [oP 178 (.move (.t 19)),
 oP 179 (.move (.t 178)),
 oG 180 179 true (.move (.t 21)),
 oP 181 (.pick (.t 179) (.t 180) (.c (.bool false))),
 oP 182 (.move (.t 181)),
 oG 183 182 true (.move (.t 23)),
 oP 184 (.pick (.t 182) (.t 183) (.c (.bool false))),
 oP 185 (.move (.t 184)),
 oG 186 185 true (.move (.t 10)),
 oG 187 185 true (.move (.t 20)),
 ⟨(some 188), .call 1 14 [(.t 186), (.t 187)], (some (185, true)), none, []⟩,
 oP 189 (.pick (.t 185) (.t 188) (.c (.bool false))),
 oP 190 (.move (.t 189)),
 oG 191 190 true (.move (.t 20)),
 oG 192 190 true (.move (.t 12)),
 ⟨(some 193), .call 1 14 [(.t 191), (.t 192)], (some (190, true)), none, []⟩,
 oP 194 (.pick (.t 190) (.t 193) (.c (.bool false))),
 oP 195 (.move (.t 194)),
 oG 196 195 true (.move (.t 12)),
 oG 197 195 true (.move (.t 22)),
 ⟨(some 198), .call 1 14 [(.t 196), (.t 197)], (some (195, true)), none, []⟩,
 oP 199 (.pick (.t 195) (.t 198) (.c (.bool false))),
 oP 200 (.move (.t 199)),
 oG 201 200 true (.move (.t 22)),
 oG 202 200 true (.move (.t 14)),
 ⟨(some 203), .call 1 14 [(.t 201), (.t 202)], (some (200, true)), none, []⟩,
 oP 204 (.pick (.t 200) (.t 203) (.c (.bool false))),
 oP 205 (.move (.t 204)),
 ⟨(some 206), .call 1 11 [], (some (205, true)), none, []⟩,
 oP 207 (.pick (.t 205) (.t 206) (.c (.bool false))),
 oP 6 (.move (.t 207))])
 (.ret))))))))))))))⟩
/-- almadraba/almadrabalaw01.Far -/
def f4 : AFn := ⟨20, [.tmp 2],
 .seq (.region 0 [oQ 1 (.box (.t 0)),
 oP 2 (.move (.c (.bool false)))])
 (.seq (.region 0 [oQ 3 (.load true 4 (.t 1)),
 oQ 4 (.call 1 17 [(.t 3)]),
 oP 5 (.move (.t 4)),
 oG 6 5 false (.fieldAddr 0 (.t 1)),
 ⟨(some 7), .load false 1 (.t 6), (some (5, false)), none, []⟩,
 oG 8 5 false (.bin .gtr (.t 7) (.c (.int .i64 3))),
 oG 9 5 false (.move (.t 8)),
 oG 10 9 false (.fieldAddr 1 (.t 1)),
 ⟨(some 11), .load false 1 (.t 10), (some (9, false)), none, []⟩,
 oG 12 9 false (.bin .gtr (.t 11) (.c (.int .i64 3))),
 oG 13 5 false (.pick (.t 9) (.c (.bool true)) (.t 12)),
 oG 14 5 false (.move (.t 13)),
 ⟨(some 15), .load true 4 (.t 1), (some (14, true)), none, []⟩,
 ⟨(some 16), .call 1 5 [(.t 15)], (some (14, true)), none, []⟩,
 oG 17 14 true (.bin .eql (.t 16) (.c (.int .i64 0))),
 oG 18 5 false (.pick (.t 14) (.t 17) (.c (.bool false))),
 oP 19 (.pick (.t 5) (.c (.bool true)) (.t 18)),
 oP 2 (.move (.t 19))])
 (.ret))⟩
/-- almadraba/almadrabaref01.Check -/
def f5 : AFn := ⟨62, [.tmp 2],
 .seq (.region 0 [oQ 1 (.box (.t 0)),
 oP 2 (.move (.c (.int .i64 0)))])
 (.seq (.seq (.region 0 [oP 5 (.fieldAddr 0 (.t 1)),
 oQ 6 (.load false 1 (.t 5)),
 oQ 7 (.call 1 18 [(.t 6), (.c (.int .i64 1)), (.c (.int .i64 4))]),
 oP 8 (.un .not (.t 7)),
 oP 9 (.move (.t 8)),
 oG 10 9 false (.fieldAddr 1 (.t 1)),
 ⟨(some 11), .load false 1 (.t 10), (some (9, false)), none, []⟩,
 ⟨(some 12), .call 1 18 [(.t 11), (.c (.int .i64 1)), (.c (.int .i64 5))], (some (9, false)), none, []⟩,
 oG 13 9 false (.un .not (.t 12)),
 oP 14 (.pick (.t 9) (.c (.bool true)) (.t 13)),
 oP 15 (.move (.t 14)),
 oG 16 15 false (.fieldAddr 2 (.t 1)),
 ⟨(some 17), .load false 1 (.t 16), (some (15, false)), none, []⟩,
 oG 18 15 false (.lenS (.t 17)),
 oG 19 15 false (.fieldAddr 1 (.t 1)),
 ⟨(some 20), .load false 1 (.t 19), (some (15, false)), none, []⟩,
 oG 21 15 false (.bin .sub (.t 20) (.c (.int .i64 1))),
 oG 22 15 false (.bin .neq (.t 18) (.t 21)),
 oP 23 (.pick (.t 15) (.c (.bool true)) (.t 22)),
 oP 24 (.move (.t 23)),
 oG 25 24 false (.fieldAddr 3 (.t 1)),
 ⟨(some 26), .load false 1 (.t 25), (some (24, false)), none, []⟩,
 oG 27 24 false (.lenS (.t 26)),
 oG 28 24 false (.bin .gtr (.t 27) (.c (.int .i64 8))),
 oP 29 (.pick (.t 24) (.c (.bool true)) (.t 28))])
 (.cond (.t 29) (.seq (.region 0 [oP 2 (.move (.c (.int .i64 10)))])
 (.ret))
 (.skip)))
 (.seq (.seq (.region 0 [oP 3 (.move (.c (.int .i64 0)))])
 (.block 0 (.loop (.seq (.seq (.region 0 [oP 30 (.move (.t 3)),
 oP 31 (.fieldAddr 2 (.t 1)),
 oQ 32 (.load false 1 (.t 31)),
 oP 33 (.lenS (.t 32)),
 oP 34 (.bin .lss (.t 30) (.t 33))])
 (.cond (.t 34) (.skip)
 (.exit 0)))
 (.seq (.block 1 (.seq (.region 0 [oP 37 (.fieldAddr 2 (.t 1)),
 oQ 38 (.load false 1 (.t 37)),
 oP 39 (.move (.t 3)),
 oP 40 (.idxSl 1 (.t 38) (.t 39)),
 oQ 41 (.load false 1 (.t 40)),
 oP 42 (.fieldAddr 0 (.t 1)),
 oQ 43 (.load false 1 (.t 42)),
 oP 44 (.bin .sub (.t 43) (.c (.int .i64 1))),
 oQ 45 (.call 1 19 [(.t 41), (.c (.int .i64 0)), (.t 44)]),
 oP 46 (.un .not (.t 45))])
 (.cond (.t 46) (.seq (.region 0 [oP 2 (.move (.c (.int .i64 10)))])
 (.ret))
 (.skip))))
 (.region 0 [oP 35 (.move (.t 3)),
 oP 36 (.bin .add (.t 35) (.c (.int .i64 1))),
 oP 3 (.move (.t 36))]))))))
 (.seq (.seq (.region 0 [oP 4 (.move (.c (.int .i64 0)))])
 (.block 2 (.loop (.seq (.seq (.region 0 [oP 47 (.move (.t 4)),
 oP 48 (.fieldAddr 3 (.t 1)),
 oQ 49 (.load false 1 (.t 48)),
 oP 50 (.lenS (.t 49)),
 oP 51 (.bin .lss (.t 47) (.t 50))])
 (.cond (.t 51) (.skip)
 (.exit 2)))
 (.seq (.block 3 (.seq (.region 0 [oQ 54 (.load true 4 (.t 1)),
 oP 55 (.fieldAddr 3 (.t 1)),
 oQ 56 (.load false 1 (.t 55)),
 oP 57 (.move (.t 4)),
 oP 58 (.idxSl 4 (.t 56) (.t 57)),
 oQ 59 (.load true 4 (.t 58)),
 oQ 60 (.call 1 15 [(.t 54), (.t 59)]),
 oP 61 (.un .not (.t 60))])
 (.cond (.t 61) (.seq (.region 0 [oP 2 (.move (.c (.int .i64 10)))])
 (.ret))
 (.skip))))
 (.region 0 [oP 52 (.move (.t 4)),
 oP 53 (.bin .add (.t 52) (.c (.int .i64 1))),
 oP 4 (.move (.t 53))]))))))
 (.seq (.region 0 [oP 2 (.move (.c (.int .i64 0)))])
 (.ret)))))⟩
/-- almadraba/almadrabalaw02.Huge -/
def f6 : AFn := ⟨27, [.tmp 4],
 .seq (.region 0 [oQ 2 (.box (.t 0)),
 oQ 3 (.box (.t 1)),
 oP 4 (.move (.c (.bool false)))])
 (.seq (.region 0 [oP 5 (.fieldAddr 4 (.t 2)),
 oQ 6 (.load false 1 (.t 5)),
 oP 7 (.lenS (.t 6)),
 oP 8 (.bin .gtr (.t 7) (.c (.int .i64 40))),
 oP 9 (.move (.t 8)),
 oG 10 9 false (.fieldAddr 5 (.t 2)),
 ⟨(some 11), .load false 1 (.t 10), (some (9, false)), none, []⟩,
 oG 12 9 false (.lenS (.t 11)),
 oG 13 9 false (.bin .gtr (.t 12) (.c (.int .i64 40))),
 oP 14 (.pick (.t 9) (.c (.bool true)) (.t 13)),
 oP 15 (.move (.t 14)),
 oG 16 15 false (.fieldAddr 6 (.t 2)),
 ⟨(some 17), .load false 1 (.t 16), (some (15, false)), none, []⟩,
 oG 18 15 false (.lenS (.t 17)),
 oG 19 15 false (.bin .gtr (.t 18) (.c (.int .i64 40))),
 oP 20 (.pick (.t 15) (.c (.bool true)) (.t 19)),
 oP 21 (.move (.t 20)),
 oG 22 21 false (.fieldAddr 2 (.t 3)),
 ⟨(some 23), .load false 1 (.t 22), (some (21, false)), none, []⟩,
 oG 24 21 false (.lenS (.t 23)),
 oG 25 21 false (.bin .gtr (.t 24) (.c (.int .i64 40))),
 oP 26 (.pick (.t 21) (.c (.bool true)) (.t 25)),
 oP 4 (.move (.t 26))])
 (.ret))⟩
/-- almadraba/almadrabaref02.Check -/
def f7 : AFn := ⟨123, [.tmp 2],
 .seq (.region 0 [oQ 1 (.box (.t 0)),
 oP 2 (.move (.c (.int .i64 0)))])
 (.seq (.seq (.region 0 [oP 7 (.fieldAddr 0 (.t 1)),
 oQ 8 (.load true 2 (.t 7)),
 oQ 9 (.call 1 20 [(.t 8), (.c (.int .i64 20))]),
 oP 10 (.un .not (.t 9)),
 oP 11 (.move (.t 10)),
 oG 12 11 false (.fieldAddr 2 (.t 1)),
 ⟨(some 13), .load true 2 (.t 12), (some (11, false)), none, []⟩,
 ⟨(some 14), .call 1 20 [(.t 13), (.c (.int .i64 20))], (some (11, false)), none, []⟩,
 oG 15 11 false (.un .not (.t 14)),
 oP 16 (.pick (.t 11) (.c (.bool true)) (.t 15)),
 oP 17 (.move (.t 16)),
 oG 18 17 false (.fieldAddr 4 (.t 1)),
 ⟨(some 19), .load false 1 (.t 18), (some (17, false)), none, []⟩,
 oG 20 17 false (.lenS (.t 19)),
 oG 21 17 false (.bin .gtr (.t 20) (.c (.int .i64 3))),
 oP 22 (.pick (.t 17) (.c (.bool true)) (.t 21)),
 oP 23 (.move (.t 22)),
 oG 24 23 false (.fieldAddr 5 (.t 1)),
 ⟨(some 25), .load false 1 (.t 24), (some (23, false)), none, []⟩,
 oG 26 23 false (.lenS (.t 25)),
 oG 27 23 false (.bin .gtr (.t 26) (.c (.int .i64 6))),
 oP 28 (.pick (.t 23) (.c (.bool true)) (.t 27)),
 oP 29 (.move (.t 28)),
 oG 30 29 false (.fieldAddr 6 (.t 1)),
 ⟨(some 31), .load false 1 (.t 30), (some (29, false)), none, []⟩,
 oG 32 29 false (.lenS (.t 31)),
 oG 33 29 false (.fieldAddr 5 (.t 1)),
 ⟨(some 34), .load false 1 (.t 33), (some (29, false)), none, []⟩,
 oG 35 29 false (.lenS (.t 34)),
 oG 36 29 false (.bin .sub (.t 35) (.c (.int .i64 1))),
 oG 37 29 false (.minmax true (.c (.int .i64 0)) [(.t 36)]),
 oG 38 29 false (.bin .neq (.t 32) (.t 37)),
 oP 39 (.pick (.t 29) (.c (.bool true)) (.t 38))])
 (.cond (.t 39) (.seq (.region 0 [oP 2 (.move (.c (.int .i64 20)))])
 (.ret))
 (.skip)))
 (.seq (.seq (.region 0 [oP 3 (.move (.c (.int .i64 0)))])
 (.block 0 (.loop (.seq (.seq (.region 0 [oP 40 (.move (.t 3)),
 oP 41 (.fieldAddr 4 (.t 1)),
 oQ 42 (.load false 1 (.t 41)),
 oP 43 (.lenS (.t 42)),
 oP 44 (.bin .lss (.t 40) (.t 43))])
 (.cond (.t 44) (.skip)
 (.exit 0)))
 (.seq (.block 1 (.seq (.region 0 [oP 47 (.fieldAddr 4 (.t 1)),
 oQ 48 (.load false 1 (.t 47)),
 oP 49 (.move (.t 3)),
 oP 50 (.idxSl 2 (.t 48) (.t 49)),
 oQ 51 (.load true 2 (.t 50)),
 oQ 52 (.call 1 20 [(.t 51), (.c (.int .i64 9))]),
 oP 53 (.un .not (.t 52))])
 (.cond (.t 53) (.seq (.region 0 [oP 2 (.move (.c (.int .i64 20)))])
 (.ret))
 (.skip))))
 (.region 0 [oP 45 (.move (.t 3)),
 oP 46 (.bin .add (.t 45) (.c (.int .i64 1))),
 oP 3 (.move (.t 46))]))))))
 (.seq (.seq (.region 0 [oP 4 (.move (.c (.int .i64 0)))])
 (.block 2 (.loop (.seq (.seq (.region 0 [oP 54 (.move (.t 4)),
 oP 55 (.fieldAddr 5 (.t 1)),
 oQ 56 (.load false 1 (.t 55)),
 oP 57 (.lenS (.t 56)),
 oP 58 (.bin .lss (.t 54) (.t 57))])
 (.cond (.t 58) (.skip)
 (.exit 2)))
 (.seq (.block 3 (.seq (.region 0 [oP 61 (.fieldAddr 5 (.t 1)),
 oQ 62 (.load false 1 (.t 61)),
 oP 63 (.move (.t 4)),
 oP 64 (.idxSl 2 (.t 62) (.t 63)),
 oP 65 (.fieldAddr 0 (.t 64)),
 oQ 66 (.load false 1 (.t 65)),
 oQ 67 (.call 1 21 [(.t 66), (.c (.int .i64 0)), (.c (.int .i64 20))]),
 oP 68 (.un .not (.t 67)),
 oP 69 (.move (.t 68)),
 oG 70 69 false (.fieldAddr 5 (.t 1)),
 ⟨(some 71), .load false 1 (.t 70), (some (69, false)), none, []⟩,
 oG 72 69 false (.move (.t 4)),
 oG 73 69 false (.idxSl 2 (.t 71) (.t 72)),
 oG 74 69 false (.fieldAddr 1 (.t 73)),
 ⟨(some 75), .load false 1 (.t 74), (some (69, false)), none, []⟩,
 oG 76 69 false (.fieldAddr 4 (.t 1)),
 ⟨(some 77), .load false 1 (.t 76), (some (69, false)), none, []⟩,
 oG 78 69 false (.lenS (.t 77)),
 oG 79 69 false (.bin .sub (.t 78) (.c (.int .i64 1))),
 ⟨(some 80), .call 1 21 [(.t 75), (.c (.int .i64 0)), (.t 79)], (some (69, false)), none, []⟩,
 oG 81 69 false (.un .not (.t 80)),
 oP 82 (.pick (.t 69) (.c (.bool true)) (.t 81))])
 (.cond (.t 82) (.seq (.region 0 [oP 2 (.move (.c (.int .i64 20)))])
 (.ret))
 (.skip))))
 (.region 0 [oP 59 (.move (.t 4)),
 oP 60 (.bin .add (.t 59) (.c (.int .i64 1))),
 oP 4 (.move (.t 60))]))))))
 (.seq (.seq (.region 0 [oP 5 (.move (.c (.int .i64 0)))])
 (.block 4 (.loop (.seq (.seq (.region 0 [oP 83 (.move (.t 5)),
 oP 84 (.fieldAddr 6 (.t 1)),
 oQ 85 (.load false 1 (.t 84)),
 oP 86 (.lenS (.t 85)),
 oP 87 (.bin .lss (.t 83) (.t 86))])
 (.cond (.t 87) (.skip)
 (.exit 4)))
 (.seq (.block 5 (.seq (.region 0 [oP 90 (.fieldAddr 6 (.t 1)),
 oQ 91 (.load false 1 (.t 90)),
 oP 92 (.move (.t 5)),
 oP 93 (.idxSl 5 (.t 91) (.t 92)),
 oQ 94 (.load true 5 (.t 93)),
 oQ 6 (.alloc [.int .i64 0, .int .i64 0, .int .i64 0, .int .i64 0, .int .i64 0]),
 ⟨none, .store 5 (.t 6) (.t 94), none, none, []⟩])
 (.seq (.region 0 [oP 95 (.fieldAddr 0 (.t 6)),
 oQ 96 (.load false 1 (.t 95)),
 oQ 97 (.call 1 21 [(.t 96), (.c (.int .i64 0)), (.c (.int .i64 9))]),
 oP 98 (.un .not (.t 97)),
 oP 99 (.move (.t 98)),
 oG 100 99 false (.fieldAddr 1 (.t 6)),
 ⟨(some 101), .load false 1 (.t 100), (some (99, false)), none, []⟩,
 ⟨(some 102), .call 1 21 [(.t 101), (.c (.int .i64 0)), (.c (.int .i64 9))], (some (99, false)), none, []⟩,
 oG 103 99 false (.un .not (.t 102)),
 oP 104 (.pick (.t 99) (.c (.bool true)) (.t 103)),
 oP 105 (.move (.t 104)),
 oG 106 105 false (.fieldAddr 2 (.t 6)),
 ⟨(some 107), .load false 1 (.t 106), (some (105, false)), none, []⟩,
 ⟨(some 108), .call 1 21 [(.t 107), (.c (.int .i64 0)), (.c (.int .i64 9))], (some (105, false)), none, []⟩,
 oG 109 105 false (.un .not (.t 108)),
 oP 110 (.pick (.t 105) (.c (.bool true)) (.t 109)),
 oP 111 (.move (.t 110)),
 oG 112 111 false (.fieldAddr 3 (.t 6)),
 ⟨(some 113), .load false 1 (.t 112), (some (111, false)), none, []⟩,
 ⟨(some 114), .call 1 21 [(.t 113), (.c (.int .i64 0)), (.c (.int .i64 99))], (some (111, false)), none, []⟩,
 oG 115 111 false (.un .not (.t 114)),
 oP 116 (.pick (.t 111) (.c (.bool true)) (.t 115)),
 oP 117 (.move (.t 116)),
 oG 118 117 false (.fieldAddr 4 (.t 6)),
 ⟨(some 119), .load false 1 (.t 118), (some (117, false)), none, []⟩,
 ⟨(some 120), .call 1 21 [(.t 119), (.c (.int .i64 0)), (.c (.int .i64 99))], (some (117, false)), none, []⟩,
 oG 121 117 false (.un .not (.t 120)),
 oP 122 (.pick (.t 117) (.c (.bool true)) (.t 121))])
 (.cond (.t 122) (.seq (.region 0 [oP 2 (.move (.c (.int .i64 20)))])
 (.ret))
 (.skip)))))
 (.region 0 [oP 88 (.move (.t 5)),
 oP 89 (.bin .add (.t 88) (.c (.int .i64 1))),
 oP 5 (.move (.t 89))]))))))
 (.seq (.region 0 [oP 2 (.move (.c (.int .i64 0)))])
 (.ret))))))⟩
/-- almadraba/almadrabaref02.IsTruth -/
def f8 : AFn := ⟨63, [.tmp 4],
 .seq (.region 0 [oQ 2 (.box (.t 0)),
 oQ 3 (.box (.t 1)),
 oP 4 (.move (.c (.bool false)))])
 (.seq (.seq (.region 0 [oP 6 (.fieldAddr 0 (.t 3)),
 oQ 7 (.load false 1 (.t 6)),
 oP 8 (.fieldAddr 0 (.t 2)),
 oP 9 (.fieldAddr 0 (.t 8)),
 oQ 10 (.load false 1 (.t 9)),
 oP 11 (.fieldAddr 0 (.t 2)),
 oP 12 (.fieldAddr 1 (.t 11)),
 oQ 13 (.load false 1 (.t 12)),
 oQ 14 (.call 1 21 [(.t 7), (.t 10), (.t 13)]),
 oP 15 (.un .not (.t 14)),
 oP 16 (.move (.t 15)),
 oG 17 16 false (.fieldAddr 1 (.t 3)),
 ⟨(some 18), .load false 1 (.t 17), (some (16, false)), none, []⟩,
 oG 19 16 false (.fieldAddr 2 (.t 2)),
 oG 20 16 false (.fieldAddr 0 (.t 19)),
 ⟨(some 21), .load false 1 (.t 20), (some (16, false)), none, []⟩,
 oG 22 16 false (.fieldAddr 2 (.t 2)),
 oG 23 16 false (.fieldAddr 1 (.t 22)),
 ⟨(some 24), .load false 1 (.t 23), (some (16, false)), none, []⟩,
 ⟨(some 25), .call 1 21 [(.t 18), (.t 21), (.t 24)], (some (16, false)), none, []⟩,
 oG 26 16 false (.un .not (.t 25)),
 oP 27 (.pick (.t 16) (.c (.bool true)) (.t 26)),
 oP 28 (.move (.t 27)),
 oG 29 28 false (.fieldAddr 2 (.t 3)),
 ⟨(some 30), .load false 1 (.t 29), (some (28, false)), none, []⟩,
 oG 31 28 false (.lenS (.t 30)),
 oG 32 28 false (.fieldAddr 4 (.t 2)),
 ⟨(some 33), .load false 1 (.t 32), (some (28, false)), none, []⟩,
 oG 34 28 false (.lenS (.t 33)),
 oG 35 28 false (.bin .neq (.t 31) (.t 34)),
 oP 36 (.pick (.t 28) (.c (.bool true)) (.t 35))])
 (.cond (.t 36) (.seq (.region 0 [oP 4 (.move (.c (.bool false)))])
 (.ret))
 (.skip)))
 (.seq (.seq (.region 0 [oP 5 (.move (.c (.int .i64 0)))])
 (.block 0 (.loop (.seq (.seq (.region 0 [oP 37 (.move (.t 5)),
 oP 38 (.fieldAddr 2 (.t 3)),
 oQ 39 (.load false 1 (.t 38)),
 oP 40 (.lenS (.t 39)),
 oP 41 (.bin .lss (.t 37) (.t 40))])
 (.cond (.t 41) (.skip)
 (.exit 0)))
 (.seq (.block 1 (.seq (.region 0 [oP 44 (.fieldAddr 2 (.t 3)),
 oQ 45 (.load false 1 (.t 44)),
 oP 46 (.move (.t 5)),
 oP 47 (.idxSl 1 (.t 45) (.t 46)),
 oQ 48 (.load false 1 (.t 47)),
 oP 49 (.fieldAddr 4 (.t 2)),
 oQ 50 (.load false 1 (.t 49)),
 oP 51 (.move (.t 5)),
 oP 52 (.idxSl 2 (.t 50) (.t 51)),
 oP 53 (.fieldAddr 0 (.t 52)),
 oQ 54 (.load false 1 (.t 53)),
 oP 55 (.fieldAddr 4 (.t 2)),
 oQ 56 (.load false 1 (.t 55)),
 oP 57 (.move (.t 5)),
 oP 58 (.idxSl 2 (.t 56) (.t 57)),
 oP 59 (.fieldAddr 1 (.t 58)),
 oQ 60 (.load false 1 (.t 59)),
 oQ 61 (.call 1 21 [(.t 48), (.t 54), (.t 60)]),
 oP 62 (.un .not (.t 61))])
 (.cond (.t 62) (.seq (.region 0 [oP 4 (.move (.c (.bool false)))])
 (.ret))
 (.skip))))
 (.region 0 [oP 42 (.move (.t 5)),
 oP 43 (.bin .add (.t 42) (.c (.int .i64 1))),
 oP 5 (.move (.t 43))]))))))
 (.seq (.region 0 [oP 4 (.move (.c (.bool true)))])
 (.ret))))⟩
/-- almadraba/almadrabaref01.IsTime -/
def f9 : AFn := ⟨10, [.tmp 4],
 .seq (.region 0 [oQ 2 (.box (.t 0)),
 oP 4 (.move (.c (.bool false)))])
 (.seq (.region 0 [oP 5 (.move (.t 1)),
 oP 6 (.fieldAddr 1 (.t 2)),
 oQ 7 (.load false 1 (.t 6)),
 oP 8 (.bin .sub (.t 7) (.c (.int .i64 1))),
 oQ 9 (.call 1 18 [(.t 5), (.c (.int .i64 0)), (.t 8)]),
 oP 4 (.move (.t 9))])
 (.ret))⟩
/-- almadraba/almadrabaref01.IsTruth -/
def f10 : AFn := ⟨122, [.tmp 4],
 .seq (.region 0 [oQ 2 (.box (.t 0)),
 oP 4 (.move (.c (.bool false)))])
 (.seq (.seq (.region 0 [oP 11 (.move (.t 1)),
 oP 12 (.lenS (.t 11)),
 oP 13 (.fieldAddr 1 (.t 2)),
 oQ 14 (.load false 1 (.t 13)),
 oP 15 (.bin .neq (.t 12) (.t 14))])
 (.cond (.t 15) (.seq (.region 0 [oP 4 (.move (.c (.bool false)))])
 (.ret))
 (.skip)))
 (.seq (.seq (.region 0 [oP 5 (.move (.c (.int .i64 0)))])
 (.block 0 (.loop (.seq (.seq (.region 0 [oP 16 (.move (.t 5)),
 oP 17 (.move (.t 1)),
 oP 18 (.lenS (.t 17)),
 oP 19 (.bin .lss (.t 16) (.t 18))])
 (.cond (.t 19) (.skip)
 (.exit 0)))
 (.seq (.block 1 (.seq (.seq (.region 0 [oP 22 (.move (.t 1)),
 oP 23 (.move (.t 5)),
 oP 24 (.idxSl 1 (.t 22) (.t 23)),
 oQ 25 (.load false 1 (.t 24)),
 oP 26 (.lenS (.t 25)),
 oP 27 (.fieldAddr 0 (.t 2)),
 oQ 28 (.load false 1 (.t 27)),
 oP 29 (.bin .neq (.t 26) (.t 28))])
 (.cond (.t 29) (.seq (.region 0 [oP 4 (.move (.c (.bool false)))])
 (.ret))
 (.skip)))
 (.seq (.seq (.region 0 [oP 6 (.move (.c (.int .i64 0)))])
 (.block 2 (.loop (.seq (.seq (.region 0 [oP 30 (.move (.t 6)),
 oP 31 (.move (.t 1)),
 oP 32 (.move (.t 5)),
 oP 33 (.idxSl 1 (.t 31) (.t 32)),
 oQ 34 (.load false 1 (.t 33)),
 oP 35 (.lenS (.t 34)),
 oP 36 (.bin .lss (.t 30) (.t 35))])
 (.cond (.t 36) (.skip)
 (.exit 2)))
 (.seq (.block 3 (.seq (.region 0 [oP 39 (.move (.t 1)),
 oP 40 (.move (.t 5)),
 oP 41 (.idxSl 1 (.t 39) (.t 40)),
 oQ 42 (.load false 1 (.t 41)),
 oP 43 (.move (.t 6)),
 oP 44 (.idxSl 1 (.t 42) (.t 43)),
 oQ 45 (.load false 1 (.t 44)),
 oQ 46 (.call 1 18 [(.t 45), (.c (.int .i64 0)), (.c (.int .i64 40))]),
 oP 47 (.un .not (.t 46))])
 (.cond (.t 47) (.seq (.region 0 [oP 4 (.move (.c (.bool false)))])
 (.ret))
 (.skip))))
 (.region 0 [oP 37 (.move (.t 6)),
 oP 38 (.bin .add (.t 37) (.c (.int .i64 1))),
 oP 6 (.move (.t 38))]))))))
 (.seq (.seq (.region 0 [oP 48 (.move (.t 1)),
 oP 49 (.move (.t 5)),
 oP 50 (.idxSl 1 (.t 48) (.t 49)),
 oQ 51 (.load false 1 (.t 50)),
 oQ 52 (.call 1 22 [(.t 51), (.c (.int .i64 0))]),
 oP 53 (.bin .gtr (.t 52) (.c (.int .i64 40)))])
 (.cond (.t 53) (.seq (.region 0 [oP 4 (.move (.c (.bool false)))])
 (.ret))
 (.skip)))
 (.seq (.region 0 [oP 7 (.move (.c (.int .i64 0)))])
 (.block 4 (.loop (.seq (.seq (.region 0 [oP 54 (.move (.t 7)),
 oP 55 (.fieldAddr 0 (.t 2)),
 oQ 56 (.load false 1 (.t 55)),
 oP 57 (.bin .lss (.t 54) (.t 56)),
 oP 58 (.move (.t 57)),
 oG 59 58 true (.move (.t 5)),
 oG 60 58 true (.bin .gtr (.t 59) (.c (.int .i64 0))),
 oP 61 (.pick (.t 58) (.t 60) (.c (.bool false)))])
 (.cond (.t 61) (.skip)
 (.exit 4)))
 (.seq (.block 5 (.seq (.region 0 [oP 64 (.move (.t 1)),
 oP 65 (.move (.t 5)),
 oP 66 (.idxSl 1 (.t 64) (.t 65)),
 oQ 67 (.load false 1 (.t 66)),
 oP 68 (.move (.t 7)),
 oQ 69 (.call 1 22 [(.t 67), (.t 68)]),
 oP 70 (.move (.t 1)),
 oP 71 (.move (.t 5)),
 oP 72 (.bin .sub (.t 71) (.c (.int .i64 1))),
 oP 73 (.idxSl 1 (.t 70) (.t 72)),
 oQ 74 (.load false 1 (.t 73)),
 oP 75 (.move (.t 7)),
 oQ 76 (.call 1 22 [(.t 74), (.t 75)]),
 oP 77 (.bin .sub (.t 69) (.t 76)),
 oP 8 (.move (.t 77))])
 (.seq (.region 0 [oP 78 (.move (.t 8)),
 oP 79 (.bin .lss (.t 78) (.c (.int .i64 0))),
 oP 80 (.move (.t 79)),
 oG 81 80 false (.move (.t 8)),
 oG 82 80 false (.bin .gtr (.t 81) (.c (.int .i64 0))),
 oG 83 80 false (.move (.t 82)),
 oG 84 83 true (.fieldAddr 2 (.t 2)),
 ⟨(some 85), .load false 1 (.t 84), (some (83, true)), none, []⟩,
 oG 86 83 true (.move (.t 5)),
 oG 87 83 true (.bin .sub (.t 86) (.c (.int .i64 1))),
 oG 88 83 true (.idxSl 1 (.t 85) (.t 87)),
 ⟨(some 89), .load false 1 (.t 88), (some (83, true)), none, []⟩,
 oG 90 83 true (.move (.t 7)),
 ⟨(some 91), .call 1 23 [(.t 89), (.t 90)], (some (83, true)), none, []⟩,
 oG 92 83 true (.un .not (.t 91)),
 oG 93 80 false (.pick (.t 83) (.t 92) (.c (.bool false))),
 oP 94 (.pick (.t 80) (.c (.bool true)) (.t 93))])
 (.cond (.t 94) (.seq (.region 0 [oP 4 (.move (.c (.bool false)))])
 (.ret))
 (.skip)))))
 (.region 0 [oP 62 (.move (.t 7)),
 oP 63 (.bin .add (.t 62) (.c (.int .i64 1))),
 oP 7 (.move (.t 63))]))))))))))
 (.region 0 [oP 20 (.move (.t 5)),
 oP 21 (.bin .add (.t 20) (.c (.int .i64 1))),
 oP 5 (.move (.t 21))]))))))
 (.seq (.seq (.region 0 [oP 9 (.move (.c (.int .i64 0)))])
 (.block 6 (.loop (.seq (.seq (.region 0 [oP 95 (.move (.t 9)),
 oP 96 (.fieldAddr 3 (.t 2)),
 oQ 97 (.load false 1 (.t 96)),
 oP 98 (.lenS (.t 97)),
 oP 99 (.bin .lss (.t 95) (.t 98))])
 (.cond (.t 99) (.skip)
 (.exit 6)))
 (.seq (.block 7 (.seq (.region 0 [oP 102 (.fieldAddr 3 (.t 2)),
 oQ 103 (.load false 1 (.t 102)),
 oP 104 (.move (.t 9)),
 oP 105 (.idxSl 4 (.t 103) (.t 104)),
 oQ 106 (.load true 4 (.t 105)),
 oQ 10 (.alloc [.int .i64 0, .int .i64 0, .int .i64 0, .int .i64 0]),
 ⟨none, .store 4 (.t 10) (.t 106), none, none, []⟩])
 (.seq (.region 0 [oP 107 (.move (.t 1)),
 oP 108 (.fieldAddr 0 (.t 10)),
 oQ 109 (.load false 1 (.t 108)),
 oP 110 (.idxSl 1 (.t 107) (.t 109)),
 oQ 111 (.load false 1 (.t 110)),
 oP 112 (.fieldAddr 1 (.t 10)),
 oQ 113 (.load false 1 (.t 112)),
 oP 114 (.idxSl 1 (.t 111) (.t 113)),
 oQ 115 (.load false 1 (.t 114)),
 oP 116 (.fieldAddr 2 (.t 10)),
 oQ 117 (.load false 1 (.t 116)),
 oP 118 (.fieldAddr 3 (.t 10)),
 oQ 119 (.load false 1 (.t 118)),
 oQ 120 (.call 1 18 [(.t 115), (.t 117), (.t 119)]),
 oP 121 (.un .not (.t 120))])
 (.cond (.t 121) (.seq (.region 0 [oP 4 (.move (.c (.bool false)))])
 (.ret))
 (.skip)))))
 (.region 0 [oP 100 (.move (.t 9)),
 oP 101 (.bin .add (.t 100) (.c (.int .i64 1))),
 oP 9 (.move (.t 101))]))))))
 (.seq (.region 0 [oP 4 (.move (.c (.bool true)))])
 (.ret)))))⟩
/-- almadraba/almadrabatop.held -/
def f11 : AFn := ⟨46, [.tmp 0],
 .seq (.region 0 [oP 0 (.move (.c (.bool false)))])
 (.seq (.region 0 [oQ 11 (.call 1 24 []),
 oP 10 (.move (.t 11)),
 oP 12 (.extract (.t 10) 0),
 oP 13 (.extract (.t 10) 1),
 oQ 1 (.alloc [.int .i64 0, .int .i64 0, .nils, .nils]),
 oQ 2 (.alloc [.int .i64 0, .int .i64 0, .nils, .nils]),
 ⟨none, .store 4 (.t 1) (.t 12), none, none, []⟩,
 ⟨none, .store 4 (.t 2) (.t 13), none, none, []⟩])
 (.seq (.region 0 [oQ 15 (.call 1 25 []),
 oP 14 (.move (.t 15)),
 oP 16 (.extract (.t 14) 0),
 oP 17 (.extract (.t 14) 1),
 oP 18 (.extract (.t 14) 2),
 oQ 3 (.alloc [.int .i64 0, .int .i64 0, .int .i64 0, .int .i64 0, .nils, .nils, .nils]),
 oQ 4 (.alloc [.int .i64 0, .int .i64 0, .nils]),
 oQ 5 (.alloc [.int .i64 0, .int .i64 0, .nils]),
 ⟨none, .store 7 (.t 3) (.t 16), none, none, []⟩,
 ⟨none, .store 3 (.t 4) (.t 17), none, none, []⟩,
 ⟨none, .store 3 (.t 5) (.t 18), none, none, []⟩])
 (.seq (.region 0 [oQ 20 (.load true 4 (.t 1)),
 oQ 21 (.call 1 26 [(.t 20), (.c (.int .i64 1)), (.c (.int .i64 1))]),
 oP 19 (.move (.t 21)),
 oP 22 (.extract (.t 19) 0),
 oP 23 (.extract (.t 19) 1),
 oQ 6 (.alloc [.int .i64 0, .int .i64 0]),
 ⟨none, .store 2 (.t 6) (.t 22), none, none, []⟩,
 oP 7 (.move (.t 23))])
 (.seq (.region 0 [oQ 25 (.load true 7 (.t 3)),
 oQ 26 (.load true 3 (.t 4)),
 oQ 27 (.call 1 27 [(.t 25), (.t 26)]),
 oP 24 (.move (.t 27)),
 oP 28 (.extract (.t 24) 0),
 oP 29 (.extract (.t 24) 1),
 oP 8 (.move (.t 28)),
 oP 9 (.move (.t 29))])
 (.seq (.region 0 [oP 30 (.move (.t 7)),
 oP 31 (.bin .eql (.t 30) (.c (.int .i64 0))),
 oP 32 (.move (.t 31)),
 oG 33 32 true (.move (.t 9)),
 oG 34 32 true (.bin .eql (.t 33) (.c (.int .i64 0))),
 oP 35 (.pick (.t 32) (.t 34) (.c (.bool false))),
 oP 36 (.move (.t 35)),
 ⟨(some 37), .load true 2 (.t 6), (some (36, true)), none, []⟩,
 oG 38 36 true (.build [.int .i64 0, .int .i64 0] [(0, 1, (.c (.int .i64 0))), (1, 1, (.c (.int .i64 10)))]),
 oG 39 36 true (.eqS false [true, true] (.t 37) (.t 38)),
 oP 40 (.pick (.t 36) (.t 39) (.c (.bool false))),
 oP 41 (.move (.t 40)),
 oG 42 41 true (.move (.t 8)),
 ⟨(some 43), .litS 1 2 [.int .i64 0] [(0, (.c (.int .i64 1))), (1, (.c (.int .i64 2)))], (some (41, true)), none, []⟩,
 ⟨(some 44), .call 1 28 [(.t 42), (.t 43)], (some (41, true)), none, []⟩,
 oP 45 (.pick (.t 41) (.t 44) (.c (.bool false))),
 oP 0 (.move (.t 45))])
 (.ret))))))⟩
/-- almadraba/almadrabatop.ends -/
def f12 : AFn := ⟨54, [.tmp 4, .tmp 5, .tmp 6],
 .seq (.region 0 [oQ 2 (.box (.t 0)),
 oP 4 (.move (.c (.nils))),
 oP 5 (.move (.c (.nils))),
 oP 6 (.move (.c (.bool false)))])
 (.seq (.seq (.region 0 [oP 7 (.move (.c (.int .i64 0)))])
 (.block 0 (.loop (.seq (.seq (.region 0 [oP 10 (.move (.t 7)),
 oP 11 (.fieldAddr 0 (.t 2)),
 oQ 12 (.load false 1 (.t 11)),
 oP 13 (.bin .lss (.t 10) (.t 12))])
 (.cond (.t 13) (.skip)
 (.exit 0)))
 (.seq (.block 1 (.seq (.region 0 [oQ 17 (.load true 4 (.t 2)),
 oP 18 (.move (.t 1)),
 oP 19 (.move (.t 7)),
 oQ 20 (.call 1 26 [(.t 17), (.t 18), (.t 19)]),
 oP 16 (.move (.t 20)),
 oP 21 (.extract (.t 16) 0),
 oP 22 (.extract (.t 16) 1),
 oQ 8 (.alloc [.int .i64 0, .int .i64 0]),
 ⟨none, .store 2 (.t 8) (.t 21), none, none, []⟩,
 oP 9 (.move (.t 22))])
 (.seq (.seq (.region 0 [oP 23 (.move (.t 9)),
 oP 24 (.bin .neq (.t 23) (.c (.int .i64 0))),
 oP 25 (.move (.t 24)),
 oG 26 25 false (.fieldAddr 0 (.t 8)),
 ⟨(some 27), .load false 1 (.t 26), (some (25, false)), none, []⟩,
 oG 28 25 false (.bin .lss (.t 27) (.c (.int .i64 0))),
 oP 29 (.pick (.t 25) (.c (.bool true)) (.t 28)),
 oP 30 (.move (.t 29)),
 oG 31 30 false (.fieldAddr 0 (.t 8)),
 ⟨(some 32), .load false 1 (.t 31), (some (30, false)), none, []⟩,
 oG 33 30 false (.fieldAddr 1 (.t 8)),
 ⟨(some 34), .load false 1 (.t 33), (some (30, false)), none, []⟩,
 oG 35 30 false (.bin .gtr (.t 32) (.t 34)),
 oP 36 (.pick (.t 30) (.c (.bool true)) (.t 35)),
 oP 37 (.move (.t 36)),
 oG 38 37 false (.fieldAddr 1 (.t 8)),
 ⟨(some 39), .load false 1 (.t 38), (some (37, false)), none, []⟩,
 oG 40 37 false (.bin .gtr (.t 39) (.c (.int .i64 40))),
 oP 41 (.pick (.t 37) (.c (.bool true)) (.t 40))])
 (.cond (.t 41) (.seq (.region 0 [oP 4 (.move (.c (.nils))),
 oP 5 (.move (.c (.nils))),
 oP 6 (.move (.c (.bool false)))])
 (.ret))
 (.skip)))
 (.region 2 [oP 42 (.move (.t 4)),
 oP 43 (.fieldAddr 0 (.t 8)),
 ⟨(some 44), .load false 1 (.t 43), none, none, [0, 1]⟩,
 oQ 45 (.litS 1 1 [.int .i64 0] [(0, (.t 44))]),
 ⟨(some 46), .append true 1 8 (.t 42) (.t 45), none, (some 0), [1]⟩,
 oP 47 (.move (.t 5)),
 oP 48 (.fieldAddr 1 (.t 8)),
 ⟨(some 49), .load false 1 (.t 48), none, none, [0, 1]⟩,
 oQ 50 (.litS 1 1 [.int .i64 0] [(0, (.t 49))]),
 ⟨(some 51), .append false 1 8 (.t 47) (.t 50), none, (some 1), []⟩,
 oP 4 (.move (.t 46)),
 oP 5 (.move (.t 51))]))))
 (.region 0 [oP 14 (.move (.t 7)),
 oP 15 (.bin .add (.t 14) (.c (.int .i64 1))),
 oP 7 (.move (.t 15))]))))))
 (.seq (.region 0 [oP 52 (.move (.t 4)),
 oP 53 (.move (.t 5)),
 oP 4 (.move (.t 52)),
 oP 5 (.move (.t 53)),
 oP 6 (.move (.c (.bool true)))])
 (.ret)))⟩
/-- almadraba/almadrabatop.dragged -/
def f13 : AFn := ⟨30, [.tmp 6, .tmp 7],
 .seq (.region 0 [oQ 3 (.box (.t 0)),
 oQ 5 (.box (.t 2)),
 oP 6 (.move (.c (.nils))),
 oP 7 (.move (.c (.bool false)))])
 (.seq (.region 0 [oQ 11 (.load true 7 (.t 3)),
 oP 12 (.move (.t 1)),
 oQ 13 (.call 1 29 [(.t 11), (.t 12)]),
 oQ 14 (.load true 3 (.t 5)),
 oQ 15 (.call 1 30 [(.t 14)]),
 oQ 16 (.call 1 27 [(.t 13), (.t 15)]),
 oP 10 (.move (.t 16)),
 oP 17 (.extract (.t 10) 0),
 oP 18 (.extract (.t 10) 1),
 oP 8 (.move (.t 17)),
 oP 9 (.move (.t 18))])
 (.seq (.region 0 [oP 19 (.move (.t 8)),
 oP 20 (.move (.t 9)),
 oP 21 (.bin .eql (.t 20) (.c (.int .i64 0))),
 oP 22 (.move (.t 21)),
 oG 23 22 true (.move (.t 8)),
 oG 24 22 true (.fieldAddr 5 (.t 3)),
 ⟨(some 25), .load false 1 (.t 24), (some (22, true)), none, []⟩,
 oG 26 22 true (.lenS (.t 25)),
 oG 27 22 true (.bin .sub (.t 26) (.c (.int .i64 1))),
 ⟨(some 28), .call 1 19 [(.t 23), (.c (.int .i64 0)), (.t 27)], (some (22, true)), none, []⟩,
 oP 29 (.pick (.t 22) (.t 28) (.c (.bool false))),
 oP 6 (.move (.t 19)),
 oP 7 (.move (.t 29))])
 (.ret)))⟩
/-- almadraba/almadrabatop.isPart -/
def f14 : AFn := ⟨19, [.tmp 4],
 .seq (.region 0 [oP 4 (.move (.c (.bool false)))])
 (.seq (.seq (.region 0 [oP 5 (.move (.c (.int .i64 0)))])
 (.block 0 (.loop (.seq (.seq (.region 0 [oP 6 (.move (.t 5)),
 oP 7 (.move (.t 0)),
 oP 8 (.lenS (.t 7)),
 oP 9 (.bin .lss (.t 6) (.t 8))])
 (.cond (.t 9) (.skip)
 (.exit 0)))
 (.seq (.block 1 (.seq (.region 0 [oP 12 (.move (.t 1)),
 oP 13 (.move (.t 0)),
 oP 14 (.move (.t 5)),
 oP 15 (.idxSl 1 (.t 13) (.t 14)),
 oQ 16 (.load false 1 (.t 15)),
 oQ 17 (.call 1 23 [(.t 12), (.t 16)]),
 oP 18 (.un .not (.t 17))])
 (.cond (.t 18) (.seq (.region 0 [oP 4 (.move (.c (.bool false)))])
 (.ret))
 (.skip))))
 (.region 0 [oP 10 (.move (.t 5)),
 oP 11 (.bin .add (.t 10) (.c (.int .i64 1))),
 oP 5 (.move (.t 11))]))))))
 (.seq (.region 0 [oP 4 (.move (.c (.bool true)))])
 (.ret)))⟩
/-- almadraba/almadrabaref01.IsWord -/
def f15 : AFn := ⟨27, [.tmp 4],
 .seq (.region 0 [oQ 2 (.box (.t 0)),
 oQ 3 (.box (.t 1)),
 oP 4 (.move (.c (.bool false)))])
 (.seq (.region 0 [oQ 5 (.load true 4 (.t 2)),
 oP 6 (.fieldAddr 0 (.t 3)),
 oQ 7 (.load false 1 (.t 6)),
 oQ 8 (.call 1 9 [(.t 5), (.t 7)]),
 oP 9 (.move (.t 8)),
 ⟨(some 10), .load true 4 (.t 2), (some (9, true)), none, []⟩,
 oG 11 9 true (.fieldAddr 1 (.t 3)),
 ⟨(some 12), .load false 1 (.t 11), (some (9, true)), none, []⟩,
 ⟨(some 13), .call 1 31 [(.t 10), (.t 12)], (some (9, true)), none, []⟩,
 oP 14 (.pick (.t 9) (.t 13) (.c (.bool false))),
 oP 15 (.move (.t 14)),
 oG 16 15 true (.fieldAddr 3 (.t 3)),
 ⟨(some 17), .load false 1 (.t 16), (some (15, true)), none, []⟩,
 ⟨(some 18), .call 1 18 [(.t 17), (.c (.int .i64 0)), (.c (.int .i64 40))], (some (15, true)), none, []⟩,
 oP 19 (.pick (.t 15) (.t 18) (.c (.bool false))),
 oP 20 (.move (.t 19)),
 oG 21 20 true (.fieldAddr 2 (.t 3)),
 ⟨(some 22), .load false 1 (.t 21), (some (20, true)), none, []⟩,
 oG 23 20 true (.fieldAddr 3 (.t 3)),
 ⟨(some 24), .load false 1 (.t 23), (some (20, true)), none, []⟩,
 ⟨(some 25), .call 1 18 [(.t 22), (.c (.int .i64 0)), (.t 24)], (some (20, true)), none, []⟩,
 oP 26 (.pick (.t 20) (.t 25) (.c (.bool false))),
 oP 4 (.move (.t 26))])
 (.ret))⟩
/-- almadraba/almadrabaref01.Told -/
def f16 : AFn := ⟨15, [.cell true 4 4],
 .seq (.region 0 [oQ 2 (.box (.t 0)),
 oQ 3 (.box (.t 1)),
 oQ 4 (.alloc [.int .i64 0, .int .i64 0, .nils, .nils])])
 (.seq (.region 0 [oQ 6 (.load true 4 (.t 2)),
 oQ 7 (.call 2 32 [(.t 6)]),
 oQ 5 (.alloc [.int .i64 0, .int .i64 0, .nils, .nils]),
 ⟨none, .store 4 (.t 5) (.t 7), none, none, []⟩])
 (.seq (.region 0 [oP 8 (.fieldAddr 3 (.t 5)),
 oQ 9 (.load false 1 (.t 8)),
 oQ 10 (.load true 4 (.t 3)),
 oQ 11 (.litS 4 1 [.int .i64 0, .int .i64 0, .int .i64 0, .int .i64 0] [(0, (.t 10))]),
 oQ 12 (.append false 4 32 (.t 9) (.t 11)),
 oP 13 (.fieldAddr 3 (.t 5)),
 ⟨none, .store 1 (.t 13) (.t 12), none, none, []⟩])
 (.seq (.region 0 [oQ 14 (.load true 4 (.t 5)),
 ⟨none, .store 4 (.t 4) (.t 14), none, none, []⟩])
 (.ret))))⟩
/-- almadraba/almadrabalaw01.Huge -/
def f17 : AFn := ⟨12, [.tmp 2],
 .seq (.region 0 [oQ 1 (.box (.t 0)),
 oP 2 (.move (.c (.bool false)))])
 (.seq (.region 0 [oP 3 (.fieldAddr 2 (.t 1)),
 oQ 4 (.load false 1 (.t 3)),
 oQ 5 (.call 1 33 [(.t 4)]),
 oP 6 (.move (.t 5)),
 oG 7 6 false (.fieldAddr 3 (.t 1)),
 ⟨(some 8), .load false 1 (.t 7), (some (6, false)), none, []⟩,
 oG 9 6 false (.lenS (.t 8)),
 oG 10 6 false (.bin .gtr (.t 9) (.c (.int .i64 40))),
 oP 11 (.pick (.t 6) (.c (.bool true)) (.t 10)),
 oP 2 (.move (.t 11))])
 (.ret))⟩
/-- almadraba/almadrabaref01.Within -/
def f18 : AFn := ⟨15, [.tmp 6],
 .seq (.region 0 [oP 6 (.move (.c (.bool false)))])
 (.seq (.region 0 [oP 7 (.move (.t 1)),
 oP 8 (.move (.t 0)),
 oP 9 (.bin .leq (.t 7) (.t 8)),
 oP 10 (.move (.t 9)),
 oG 11 10 true (.move (.t 0)),
 oG 12 10 true (.move (.t 2)),
 oG 13 10 true (.bin .leq (.t 11) (.t 12)),
 oP 14 (.pick (.t 10) (.t 13) (.c (.bool false))),
 oP 6 (.move (.t 14))])
 (.ret))⟩
/-- almadraba/almadrabaref01.Rising -/
def f19 : AFn := ⟨38, [.tmp 6],
 .seq (.region 0 [oP 6 (.move (.c (.bool false)))])
 (.seq (.seq (.region 0 [oP 7 (.move (.c (.int .i64 0)))])
 (.block 0 (.loop (.seq (.seq (.region 0 [oP 8 (.move (.t 7)),
 oP 9 (.move (.t 0)),
 oP 10 (.lenS (.t 9)),
 oP 11 (.bin .lss (.t 8) (.t 10))])
 (.cond (.t 11) (.skip)
 (.exit 0)))
 (.seq (.block 1 (.seq (.region 0 [oP 14 (.move (.t 0)),
 oP 15 (.move (.t 7)),
 oP 16 (.idxSl 1 (.t 14) (.t 15)),
 oQ 17 (.load false 1 (.t 16)),
 oP 18 (.move (.t 1)),
 oP 19 (.move (.t 2)),
 oQ 20 (.call 1 18 [(.t 17), (.t 18), (.t 19)]),
 oP 21 (.un .not (.t 20)),
 oP 22 (.move (.t 21)),
 oG 23 22 false (.move (.t 7)),
 oG 24 22 false (.bin .gtr (.t 23) (.c (.int .i64 0))),
 oG 25 22 false (.move (.t 24)),
 oG 26 25 true (.move (.t 0)),
 oG 27 25 true (.move (.t 7)),
 oG 28 25 true (.idxSl 1 (.t 26) (.t 27)),
 ⟨(some 29), .load false 1 (.t 28), (some (25, true)), none, []⟩,
 oG 30 25 true (.move (.t 0)),
 oG 31 25 true (.move (.t 7)),
 oG 32 25 true (.bin .sub (.t 31) (.c (.int .i64 1))),
 oG 33 25 true (.idxSl 1 (.t 30) (.t 32)),
 ⟨(some 34), .load false 1 (.t 33), (some (25, true)), none, []⟩,
 oG 35 25 true (.bin .leq (.t 29) (.t 34)),
 oG 36 22 false (.pick (.t 25) (.t 35) (.c (.bool false))),
 oP 37 (.pick (.t 22) (.c (.bool true)) (.t 36))])
 (.cond (.t 37) (.seq (.region 0 [oP 6 (.move (.c (.bool false)))])
 (.ret))
 (.skip))))
 (.region 0 [oP 12 (.move (.t 7)),
 oP 13 (.bin .add (.t 12) (.c (.int .i64 1))),
 oP 7 (.move (.t 13))]))))))
 (.seq (.region 0 [oP 6 (.move (.c (.bool true)))])
 (.ret)))⟩
/-- almadraba/almadrabaref02.isSpan -/
def f20 : AFn := ⟨16, [.tmp 4],
 .seq (.region 0 [oQ 2 (.box (.t 0)),
 oP 4 (.move (.c (.bool false)))])
 (.seq (.region 0 [oP 5 (.fieldAddr 1 (.t 2)),
 oQ 6 (.load false 1 (.t 5)),
 oP 7 (.move (.t 1)),
 oQ 8 (.call 1 21 [(.t 6), (.c (.int .i64 0)), (.t 7)]),
 oP 9 (.move (.t 8)),
 oG 10 9 true (.fieldAddr 0 (.t 2)),
 ⟨(some 11), .load false 1 (.t 10), (some (9, true)), none, []⟩,
 oG 12 9 true (.fieldAddr 1 (.t 2)),
 ⟨(some 13), .load false 1 (.t 12), (some (9, true)), none, []⟩,
 ⟨(some 14), .call 1 21 [(.t 11), (.c (.int .i64 0)), (.t 13)], (some (9, true)), none, []⟩,
 oP 15 (.pick (.t 9) (.t 14) (.c (.bool false))),
 oP 4 (.move (.t 15))])
 (.ret))⟩
/-- almadraba/almadrabaref02.within -/
def f21 : AFn := ⟨11, [.tmp 6],
 .seq (.region 0 [oP 6 (.move (.c (.bool false)))])
 (.seq (.region 0 [oP 7 (.move (.t 0)),
 oP 8 (.move (.t 1)),
 oP 9 (.move (.t 2)),
 oQ 10 (.call 1 18 [(.t 7), (.t 8), (.t 9)]),
 oP 6 (.move (.t 10))])
 (.ret))⟩
/-- almadraba/almadrabaref01.Behind -/
def f22 : AFn := ⟨9, [.tmp 4],
 .seq (.region 0 [oP 4 (.move (.c (.int .i64 0)))])
 (.seq (.region 0 [oP 5 (.move (.t 0)),
 oP 6 (.move (.t 1)),
 oP 7 (.slice 1 (.t 5) (some (.t 6)) none),
 oQ 8 (.call 1 34 [(.t 7)]),
 oP 4 (.move (.t 8))])
 (.ret))⟩
/-- almadraba/almadrabaref01.In -/
def f23 : AFn := ⟨18, [.tmp 4],
 .seq (.region 0 [oP 4 (.move (.c (.bool false)))])
 (.seq (.seq (.region 0 [oP 5 (.move (.c (.int .i64 0)))])
 (.block 0 (.loop (.seq (.seq (.region 0 [oP 6 (.move (.t 5)),
 oP 7 (.move (.t 0)),
 oP 8 (.lenS (.t 7)),
 oP 9 (.bin .lss (.t 6) (.t 8))])
 (.cond (.t 9) (.skip)
 (.exit 0)))
 (.seq (.block 1 (.seq (.region 0 [oP 12 (.move (.t 0)),
 oP 13 (.move (.t 5)),
 oP 14 (.idxSl 1 (.t 12) (.t 13)),
 oQ 15 (.load false 1 (.t 14)),
 oP 16 (.move (.t 1)),
 oP 17 (.bin .eql (.t 15) (.t 16))])
 (.cond (.t 17) (.seq (.region 0 [oP 4 (.move (.c (.bool true)))])
 (.ret))
 (.skip))))
 (.region 0 [oP 10 (.move (.t 5)),
 oP 11 (.bin .add (.t 10) (.c (.int .i64 1))),
 oP 5 (.move (.t 11))]))))))
 (.seq (.region 0 [oP 4 (.move (.c (.bool false)))])
 (.ret)))⟩
/-- almadraba/almadrabalaw01.Example -/
def f24 : AFn := ⟨15, [.cell true 4 0, .cell true 4 1],
 .seq (.region 0 [oQ 0 (.alloc [.int .i64 0, .int .i64 0, .nils, .nils]),
 oQ 1 (.alloc [.int .i64 0, .int .i64 0, .nils, .nils])])
 (.seq (.region 0 [oQ 2 (.litS 1 2 [.int .i64 0] [(0, (.c (.int .i64 0))), (1, (.c (.int .i64 1)))]),
 oQ 3 (.litS 1 1 [.int .i64 0] [(0, (.c (.int .i64 1)))]),
 oQ 4 (.litS 1 2 [.nils] [(0, (.t 2)), (1, (.t 3))]),
 oQ 5 (.call 1 35 [(.c (.int .i64 0)), (.c (.int .i64 0)), (.c (.int .i64 5)), (.c (.int .i64 6))]),
 oQ 6 (.call 1 35 [(.c (.int .i64 0)), (.c (.int .i64 1)), (.c (.int .i64 0)), (.c (.int .i64 0))]),
 oQ 7 (.call 1 35 [(.c (.int .i64 1)), (.c (.int .i64 0)), (.c (.int .i64 3)), (.c (.int .i64 8))]),
 oQ 8 (.call 1 35 [(.c (.int .i64 2)), (.c (.int .i64 1)), (.c (.int .i64 4)), (.c (.int .i64 10))]),
 oQ 9 (.litS 4 4 [.int .i64 0, .int .i64 0, .int .i64 0, .int .i64 0] [(0, (.t 5)), (1, (.t 6)), (2, (.t 7)), (3, (.t 8))]),
 oP 10 (.build [.int .i64 0, .int .i64 0, .nils, .nils] [(0, 1, (.c (.int .i64 2))), (1, 1, (.c (.int .i64 3))), (2, 1, (.t 4)), (3, 1, (.t 9))]),
 ⟨none, .store 4 (.t 0) (.t 10), none, none, []⟩])
 (.seq (.region 0 [oQ 11 (.load true 4 (.t 0)),
 oQ 12 (.load true 4 (.t 0)),
 oQ 13 (.call 1 35 [(.c (.int .i64 1)), (.c (.int .i64 1)), (.c (.int .i64 12)), (.c (.int .i64 20))]),
 oQ 14 (.call 1 16 [(.t 12), (.t 13)]),
 ⟨none, .store 4 (.t 0) (.t 11), none, none, []⟩,
 ⟨none, .store 4 (.t 1) (.t 14), none, none, []⟩])
 (.ret)))⟩
/-- almadraba/almadrabalaw02.Example -/
def f25 : AFn := ⟨21, [.cell true 7 0, .cell true 3 1, .cell true 3 2],
 .seq (.region 0 [oQ 0 (.alloc [.int .i64 0, .int .i64 0, .int .i64 0, .int .i64 0, .nils, .nils, .nils]),
 oQ 1 (.alloc [.int .i64 0, .int .i64 0, .nils]),
 oQ 2 (.alloc [.int .i64 0, .int .i64 0, .nils])])
 (.seq (.region 0 [oP 3 (.build [.int .i64 0, .int .i64 0] [(0, 1, (.c (.int .i64 2))), (1, 1, (.c (.int .i64 4)))]),
 oP 4 (.build [.int .i64 0, .int .i64 0] [(0, 1, (.c (.int .i64 1))), (1, 1, (.c (.int .i64 3)))]),
 oP 5 (.build [.int .i64 0, .int .i64 0] [(0, 1, (.c (.int .i64 2))), (1, 1, (.c (.int .i64 3)))]),
 oP 6 (.build [.int .i64 0, .int .i64 0] [(0, 1, (.c (.int .i64 1))), (1, 1, (.c (.int .i64 4)))]),
 oQ 7 (.litS 2 2 [.int .i64 0, .int .i64 0] [(0, (.t 5)), (1, (.t 6))]),
 oP 8 (.build [.int .i64 0, .int .i64 0] [(0, 1, (.c (.int .i64 6)))]),
 oP 9 (.build [.int .i64 0, .int .i64 0] [(0, 1, (.c (.int .i64 5))), (1, 1, (.c (.int .i64 1)))]),
 oP 10 (.build [.int .i64 0, .int .i64 0] [(0, 1, (.c (.int .i64 4)))]),
 oQ 11 (.litS 2 3 [.int .i64 0, .int .i64 0] [(0, (.t 8)), (1, (.t 9)), (2, (.t 10))]),
 oP 12 (.build [.int .i64 0, .int .i64 0, .int .i64 0, .int .i64 0, .int .i64 0] [(0, 1, (.c (.int .i64 2))), (1, 1, (.c (.int .i64 1))), (2, 1, (.c (.int .i64 3))), (3, 1, (.c (.int .i64 8))), (4, 1, (.c (.int .i64 9)))]),
 oP 13 (.build [.int .i64 0, .int .i64 0, .int .i64 0, .int .i64 0, .int .i64 0] [(0, 1, (.c (.int .i64 1))), (1, 1, (.c (.int .i64 2))), (2, 1, (.c (.int .i64 2))), (3, 1, (.c (.int .i64 6))), (4, 1, (.c (.int .i64 6)))]),
 oQ 14 (.litS 5 2 [.int .i64 0, .int .i64 0, .int .i64 0, .int .i64 0, .int .i64 0] [(0, (.t 12)), (1, (.t 13))]),
 oP 15 (.build [.int .i64 0, .int .i64 0, .int .i64 0, .int .i64 0, .nils, .nils, .nils] [(0, 2, (.t 3)), (2, 2, (.t 4)), (4, 1, (.t 7)), (5, 1, (.t 11)), (6, 1, (.t 14))]),
 ⟨none, .store 7 (.t 0) (.t 15), none, none, []⟩])
 (.seq (.region 0 [oQ 16 (.load true 7 (.t 0)),
 oQ 17 (.litS 1 2 [.int .i64 0] [(0, (.c (.int .i64 2))), (1, (.c (.int .i64 1)))]),
 oP 18 (.build [.int .i64 0, .int .i64 0, .nils] [(0, 1, (.c (.int .i64 4))), (1, 1, (.c (.int .i64 3))), (2, 1, (.t 17))]),
 oQ 19 (.litS 1 2 [.int .i64 0] [(0, (.c (.int .i64 3))), (1, (.c (.int .i64 4)))]),
 oP 20 (.build [.int .i64 0, .int .i64 0, .nils] [(0, 1, (.c (.int .i64 2))), (1, 1, (.c (.int .i64 1))), (2, 1, (.t 19))]),
 ⟨none, .store 7 (.t 0) (.t 16), none, none, []⟩,
 ⟨none, .store 3 (.t 1) (.t 18), none, none, []⟩,
 ⟨none, .store 3 (.t 2) (.t 20), none, none, []⟩])
 (.ret)))⟩
/-- almadraba/counts.Fish -/
def f26 : AFn := ⟨28, [.cell true 2 6, .tmp 7],
 .seq (.region 0 [oQ 3 (.box (.t 0)),
 oQ 6 (.alloc [.int .i64 0, .int .i64 0]),
 oP 7 (.move (.c (.int .i64 0)))])
 (.seq (.region 0 [oQ 11 (.load true 4 (.t 3)),
 oQ 12 (.load true 4 (.t 3)),
 oP 13 (.move (.t 1)),
 oP 14 (.move (.t 2)),
 oQ 15 (.call 1 37 [(.t 12), (.t 13), (.t 14)]),
 oQ 16 (.call 2 36 [(.t 11), (.t 15)]),
 oP 10 (.move (.t 16)),
 oP 17 (.extract (.t 10) 0),
 oP 18 (.extract (.t 10) 1),
 oP 8 (.move (.t 17)),
 oP 9 (.move (.t 18))])
 (.seq (.seq (.region 0 [oP 19 (.move (.t 9)),
 oP 20 (.bin .neq (.t 19) (.c (.int .i64 0)))])
 (.cond (.t 20) (.seq (.region 0 [oP 21 (.build [.int .i64 0, .int .i64 0] []),
 oP 22 (.move (.t 9)),
 ⟨none, .store 2 (.t 6) (.t 21), none, none, []⟩,
 oP 7 (.move (.t 22))])
 (.ret))
 (.skip)))
 (.seq (.region 0 [oP 23 (.move (.t 8)),
 oP 24 (.move (.t 1)),
 oP 25 (.move (.t 2)),
 oP 26 (.build [.int .i64 0, .int .i64 0] [(0, 1, (.t 24)), (1, 1, (.t 25))]),
 oQ 27 (.call 3 38 [(.t 23), (.t 26)]),
 ⟨none, .store 2 (.t 6) (.t 27), none, none, []⟩,
 oP 7 (.move (.c (.int .i64 0)))])
 (.ret))))⟩
/-- almadraba/anchors.Drags -/
def f27 : AFn := ⟨21, [.tmp 4, .tmp 5],
 .seq (.region 0 [oQ 2 (.box (.t 0)),
 oQ 3 (.box (.t 1)),
 oP 4 (.move (.c (.nils))),
 oP 5 (.move (.c (.int .i64 0)))])
 (.seq (.seq (.region 0 [oQ 7 (.load true 7 (.t 2)),
 oQ 8 (.load true 7 (.t 2)),
 oQ 9 (.load true 3 (.t 3)),
 oQ 10 (.call 1 40 [(.t 8), (.t 9)]),
 oQ 11 (.call 1 39 [(.t 7), (.t 10)]),
 oP 6 (.move (.t 11))])
 (.seq (.region 0 [oP 12 (.move (.t 6)),
 oP 13 (.bin .neq (.t 12) (.c (.int .i64 0)))])
 (.cond (.t 13) (.seq (.region 0 [oP 14 (.move (.t 6)),
 oP 4 (.move (.c (.nils))),
 oP 5 (.move (.t 14))])
 (.ret))
 (.skip))))
 (.seq (.region 0 [oQ 15 (.load true 7 (.t 2)),
 oQ 16 (.load true 3 (.t 3)),
 oP 17 (.build [.int .i64 0, .int .i64 0, .int .i64 0, .int .i64 0, .nils, .nils, .nils, .int .i64 0, .int .i64 0, .nils] [(0, 7, (.t 15)), (7, 3, (.t 16))]),
 oP 18 (.build [.bool false, .bool false, .bool false, .bool false, .bool false, .bool false] []),
 oQ 19 (.call 1 41 [(.t 17), (.t 18)]),
 oQ 20 (.call 1 42 [(.t 19)]),
 oP 4 (.move (.t 20)),
 oP 5 (.move (.c (.int .i64 0)))])
 (.ret)))⟩
/-- almadraba/almadrabaref01.SameInts -/
def f28 : AFn := ⟨26, [.tmp 4],
 .seq (.region 0 [oP 4 (.move (.c (.bool false)))])
 (.seq (.seq (.region 0 [oP 6 (.move (.t 0)),
 oP 7 (.lenS (.t 6)),
 oP 8 (.move (.t 1)),
 oP 9 (.lenS (.t 8)),
 oP 10 (.bin .neq (.t 7) (.t 9))])
 (.cond (.t 10) (.seq (.region 0 [oP 4 (.move (.c (.bool false)))])
 (.ret))
 (.skip)))
 (.seq (.seq (.region 0 [oP 5 (.move (.c (.int .i64 0)))])
 (.block 0 (.loop (.seq (.seq (.region 0 [oP 11 (.move (.t 5)),
 oP 12 (.move (.t 0)),
 oP 13 (.lenS (.t 12)),
 oP 14 (.bin .lss (.t 11) (.t 13))])
 (.cond (.t 14) (.skip)
 (.exit 0)))
 (.seq (.block 1 (.seq (.region 0 [oP 17 (.move (.t 0)),
 oP 18 (.move (.t 5)),
 oP 19 (.idxSl 1 (.t 17) (.t 18)),
 oQ 20 (.load false 1 (.t 19)),
 oP 21 (.move (.t 1)),
 oP 22 (.move (.t 5)),
 oP 23 (.idxSl 1 (.t 21) (.t 22)),
 oQ 24 (.load false 1 (.t 23)),
 oP 25 (.bin .neq (.t 20) (.t 24))])
 (.cond (.t 25) (.seq (.region 0 [oP 4 (.move (.c (.bool false)))])
 (.ret))
 (.skip))))
 (.region 0 [oP 15 (.move (.t 5)),
 oP 16 (.bin .add (.t 15) (.c (.int .i64 1))),
 oP 5 (.move (.t 16))]))))))
 (.seq (.region 0 [oP 4 (.move (.c (.bool true)))])
 (.ret))))⟩
/-- almadraba/almadrabatop.loaded -/
def f29 : AFn := ⟨40, [.cell true 7 4],
 .seq (.region 0 [oQ 2 (.box (.t 0)),
 oQ 4 (.alloc [.int .i64 0, .int .i64 0, .int .i64 0, .int .i64 0, .nils, .nils, .nils])])
 (.seq (.region 0 [oQ 8 (.load true 7 (.t 2)),
 oQ 9 (.call 2 43 [(.t 8)]),
 oQ 5 (.alloc [.int .i64 0, .int .i64 0, .int .i64 0, .int .i64 0, .nils, .nils, .nils]),
 ⟨none, .store 7 (.t 5) (.t 9), none, none, []⟩])
 (.seq (.seq (.region 0 [oP 6 (.move (.c (.int .i64 0)))])
 (.block 0 (.loop (.seq (.seq (.region 0 [oP 10 (.move (.t 6)),
 oP 11 (.fieldAddr 6 (.t 5)),
 oQ 12 (.load false 1 (.t 11)),
 oP 13 (.lenS (.t 12)),
 oP 14 (.bin .lss (.t 10) (.t 13)),
 oP 15 (.move (.t 14)),
 oG 16 15 true (.move (.t 6)),
 oG 17 15 true (.move (.t 1)),
 oG 18 15 true (.lenS (.t 17)),
 oG 19 15 true (.bin .lss (.t 16) (.t 18)),
 oP 20 (.pick (.t 15) (.t 19) (.c (.bool false)))])
 (.cond (.t 20) (.skip)
 (.exit 0)))
 (.seq (.block 1 (.seq (.region 0 [oP 23 (.fieldAddr 6 (.t 5)),
 oQ 24 (.load false 1 (.t 23)),
 oP 25 (.move (.t 6)),
 oP 26 (.idxSl 5 (.t 24) (.t 25)),
 oQ 27 (.load true 5 (.t 26)),
 oQ 7 (.alloc [.int .i64 0, .int .i64 0, .int .i64 0, .int .i64 0, .int .i64 0]),
 ⟨none, .store 5 (.t 7) (.t 27), none, none, []⟩])
 (.seq (.region 0 [oP 28 (.move (.t 1)),
 oP 29 (.move (.t 6)),
 oP 30 (.idxSl 1 (.t 28) (.t 29)),
 oQ 31 (.load false 1 (.t 30)),
 oP 32 (.minmax false (.c (.int .i64 9)) [(.t 31)]),
 oP 33 (.fieldAddr 0 (.t 7)),
 ⟨none, .store 1 (.t 33) (.t 32), none, none, []⟩])
 (.region 0 [oP 34 (.fieldAddr 6 (.t 5)),
 oQ 35 (.load false 1 (.t 34)),
 oP 36 (.move (.t 6)),
 oQ 37 (.load true 5 (.t 7)),
 oP 38 (.idxSl 5 (.t 35) (.t 36)),
 ⟨none, .store 5 (.t 38) (.t 37), none, none, []⟩]))))
 (.region 0 [oP 21 (.move (.t 6)),
 oP 22 (.bin .add (.t 21) (.c (.int .i64 1))),
 oP 6 (.move (.t 22))]))))))
 (.seq (.region 0 [oQ 39 (.load true 7 (.t 5)),
 ⟨none, .store 7 (.t 4) (.t 39), none, none, []⟩])
 (.ret))))⟩
/-- almadraba/almadrabaref02.CopyTruth -/
def f30 : AFn := ⟨12, [.cell true 3 2],
 .seq (.region 0 [oQ 1 (.box (.t 0)),
 oQ 2 (.alloc [.int .i64 0, .int .i64 0, .nils])])
 (.seq (.region 2 [oP 3 (.fieldAddr 0 (.t 1)),
 ⟨(some 4), .load false 1 (.t 3), none, none, [0, 1]⟩,
 oP 5 (.fieldAddr 1 (.t 1)),
 ⟨(some 6), .load false 1 (.t 5), none, none, [0, 1]⟩,
 ⟨(some 7), .buildSlice 1 0 [.int .i64 0] [], none, (some 0), []⟩,
 oP 8 (.fieldAddr 2 (.t 1)),
 ⟨(some 9), .load false 1 (.t 8), none, none, [0, 1]⟩,
 ⟨(some 10), .append true 1 8 (.t 7) (.t 9), none, (some 1), []⟩,
 oP 11 (.build [.int .i64 0, .int .i64 0, .nils] [(0, 1, (.t 4)), (1, 1, (.t 6)), (2, 1, (.t 10))]),
 ⟨none, .store 3 (.t 2) (.t 11), none, none, []⟩])
 (.ret))⟩
/-- almadraba/almadrabaref01.IsChamber -/
def f31 : AFn := ⟨10, [.tmp 4],
 .seq (.region 0 [oQ 2 (.box (.t 0)),
 oP 4 (.move (.c (.bool false)))])
 (.seq (.region 0 [oP 5 (.move (.t 1)),
 oP 6 (.fieldAddr 0 (.t 2)),
 oQ 7 (.load false 1 (.t 6)),
 oP 8 (.bin .sub (.t 7) (.c (.int .i64 1))),
 oQ 9 (.call 1 18 [(.t 5), (.c (.int .i64 0)), (.t 8)]),
 oP 4 (.move (.t 9))])
 (.ret))⟩
/-- almadraba/almadrabaref01.Copy -/
def f32 : AFn := ⟨34, [.cell true 4 2],
 .seq (.region 0 [oQ 1 (.box (.t 0)),
 oQ 2 (.alloc [.int .i64 0, .int .i64 0, .nils, .nils])])
 (.seq (.region 3 [oP 5 (.fieldAddr 0 (.t 1)),
 ⟨(some 6), .load false 1 (.t 5), none, none, [0, 1, 2]⟩,
 oP 7 (.fieldAddr 1 (.t 1)),
 ⟨(some 8), .load false 1 (.t 7), none, none, [0, 1, 2]⟩,
 ⟨(some 9), .buildSlice 4 0 [.int .i64 0, .int .i64 0, .int .i64 0, .int .i64 0] [], none, (some 0), []⟩,
 oP 10 (.fieldAddr 3 (.t 1)),
 ⟨(some 11), .load false 1 (.t 10), none, none, [0, 1, 2]⟩,
 ⟨(some 12), .append true 4 32 (.t 9) (.t 11), none, (some 1), [2]⟩,
 oP 13 (.build [.int .i64 0, .int .i64 0, .nils, .nils] [(0, 1, (.t 6)), (1, 1, (.t 8)), (3, 1, (.t 12))]),
 ⟨(some 3), .alloc [.int .i64 0, .int .i64 0, .nils, .nils], none, (some 2), []⟩,
 ⟨none, .store 4 (.t 3) (.t 13), none, (some 2), []⟩])
 (.seq (.seq (.region 0 [oP 4 (.move (.c (.int .i64 0)))])
 (.block 0 (.loop (.seq (.seq (.region 0 [oP 14 (.move (.t 4)),
 oP 15 (.fieldAddr 2 (.t 1)),
 oQ 16 (.load false 1 (.t 15)),
 oP 17 (.lenS (.t 16)),
 oP 18 (.bin .lss (.t 14) (.t 17))])
 (.cond (.t 18) (.skip)
 (.exit 0)))
 (.seq (.block 1 (.region 4 [oP 21 (.fieldAddr 2 (.t 3)),
 ⟨(some 22), .load false 1 (.t 21), none, none, [0, 1, 2, 3]⟩,
 ⟨(some 23), .buildSlice 1 0 [.int .i64 0] [], none, (some 0), []⟩,
 oP 24 (.fieldAddr 2 (.t 1)),
 ⟨(some 25), .load false 1 (.t 24), none, none, [0, 1, 2, 3]⟩,
 oP 26 (.move (.t 4)),
 oP 27 (.idxSl 1 (.t 25) (.t 26)),
 ⟨(some 28), .load false 1 (.t 27), none, none, [0, 1, 2, 3]⟩,
 ⟨(some 29), .append true 1 8 (.t 23) (.t 28), none, (some 1), [2, 3]⟩,
 ⟨(some 30), .buildSlice 1 1 [.nils] [(0, (.t 29))], none, (some 2), []⟩,
 ⟨(some 31), .append false 1 24 (.t 22) (.t 30), none, (some 3), []⟩,
 oP 32 (.fieldAddr 2 (.t 3)),
 ⟨none, .store 1 (.t 32) (.t 31), none, none, []⟩]))
 (.region 0 [oP 19 (.move (.t 4)),
 oP 20 (.bin .add (.t 19) (.c (.int .i64 1))),
 oP 4 (.move (.t 20))]))))))
 (.seq (.region 0 [oQ 33 (.load true 4 (.t 3)),
 ⟨none, .store 4 (.t 2) (.t 33), none, none, []⟩])
 (.ret))))⟩
/-- almadraba/almadrabalaw01.huge -/
def f33 : AFn := ⟨19, [.tmp 2],
 .seq (.region 0 [oP 2 (.move (.c (.bool false)))])
 (.seq (.seq (.region 0 [oP 4 (.move (.t 0)),
 oP 5 (.lenS (.t 4)),
 oP 6 (.bin .gtr (.t 5) (.c (.int .i64 40)))])
 (.cond (.t 6) (.seq (.region 0 [oP 2 (.move (.c (.bool true)))])
 (.ret))
 (.skip)))
 (.seq (.seq (.region 0 [oP 3 (.move (.c (.int .i64 0)))])
 (.block 0 (.loop (.seq (.seq (.region 0 [oP 7 (.move (.t 3)),
 oP 8 (.move (.t 0)),
 oP 9 (.lenS (.t 8)),
 oP 10 (.bin .lss (.t 7) (.t 9))])
 (.cond (.t 10) (.skip)
 (.exit 0)))
 (.seq (.block 1 (.seq (.region 0 [oP 13 (.move (.t 0)),
 oP 14 (.move (.t 3)),
 oP 15 (.idxSl 1 (.t 13) (.t 14)),
 oQ 16 (.load false 1 (.t 15)),
 oP 17 (.lenS (.t 16)),
 oP 18 (.bin .gtr (.t 17) (.c (.int .i64 40)))])
 (.cond (.t 18) (.seq (.region 0 [oP 2 (.move (.c (.bool true)))])
 (.ret))
 (.skip))))
 (.region 0 [oP 11 (.move (.t 3)),
 oP 12 (.bin .add (.t 11) (.c (.int .i64 1))),
 oP 3 (.move (.t 12))]))))))
 (.seq (.region 0 [oP 2 (.move (.c (.bool false)))])
 (.ret))))⟩
/-- almadraba/almadrabaref01.Sum -/
def f34 : AFn := ⟨18, [.tmp 2],
 .seq (.region 0 [oP 2 (.move (.c (.int .i64 0)))])
 (.seq (.region 0 [oP 3 (.move (.c (.int .i64 0)))])
 (.seq (.seq (.region 0 [oP 4 (.move (.c (.int .i64 0)))])
 (.block 0 (.loop (.seq (.seq (.region 0 [oP 5 (.move (.t 4)),
 oP 6 (.move (.t 0)),
 oP 7 (.lenS (.t 6)),
 oP 8 (.bin .lss (.t 5) (.t 7))])
 (.cond (.t 8) (.skip)
 (.exit 0)))
 (.seq (.block 1 (.region 0 [oP 11 (.move (.t 3)),
 oP 12 (.move (.t 0)),
 oP 13 (.move (.t 4)),
 oP 14 (.idxSl 1 (.t 12) (.t 13)),
 oQ 15 (.load false 1 (.t 14)),
 oP 16 (.bin .add (.t 11) (.t 15)),
 oP 3 (.move (.t 16))]))
 (.region 0 [oP 9 (.move (.t 4)),
 oP 10 (.bin .add (.t 9) (.c (.int .i64 1))),
 oP 4 (.move (.t 10))]))))))
 (.seq (.region 0 [oP 17 (.move (.t 3)),
 oP 2 (.move (.t 17))])
 (.ret))))⟩
/-- almadraba/almadrabalaw01.word -/
def f35 : AFn := ⟨14, [.cell true 4 8],
 .seq (.region 0 [oQ 8 (.alloc [.int .i64 0, .int .i64 0, .int .i64 0, .int .i64 0])])
 (.seq (.region 0 [oP 9 (.move (.t 0)),
 oP 10 (.move (.t 1)),
 oP 11 (.move (.t 2)),
 oP 12 (.move (.t 3)),
 oP 13 (.build [.int .i64 0, .int .i64 0, .int .i64 0, .int .i64 0] [(0, 1, (.t 9)), (1, 1, (.t 10)), (2, 1, (.t 11)), (3, 1, (.t 12))]),
 ⟨none, .store 4 (.t 8) (.t 13), none, none, []⟩])
 (.ret))⟩
/-- almadraba/counts.start -/
def f36 : AFn := ⟨24, [.tmp 4, .tmp 5],
 .seq (.region 0 [oQ 2 (.box (.t 0)),
 oP 4 (.move (.c (.nilp))),
 oP 5 (.move (.c (.int .i64 0)))])
 (.seq (.seq (.region 0 [oQ 9 (.load true 4 (.t 2)),
 oQ 10 (.call 1 44 [(.t 9)]),
 oP 6 (.move (.t 10))])
 (.seq (.region 0 [oP 11 (.move (.t 6)),
 oP 12 (.bin .neq (.t 11) (.c (.int .i64 0)))])
 (.cond (.t 12) (.seq (.region 0 [oP 13 (.move (.t 6)),
 oP 4 (.move (.c (.nilp))),
 oP 5 (.move (.t 13))])
 (.ret))
 (.skip))))
 (.seq (.seq (.region 0 [oP 14 (.move (.t 1)),
 oP 15 (.un .not (.t 14))])
 (.cond (.t 15) (.seq (.region 0 [oP 4 (.move (.c (.nilp))),
 oP 5 (.move (.c (.int .i64 1)))])
 (.ret))
 (.skip)))
 (.seq (.region 0 [oQ 17 (.load true 4 (.t 2)),
 oQ 18 (.call 2 45 [(.t 17)]),
 oP 16 (.move (.t 18)),
 oP 19 (.extract (.t 16) 0),
 oP 20 (.extract (.t 16) 1),
 oP 7 (.move (.t 19)),
 oP 8 (.move (.t 20))])
 (.seq (.seq (.region 0 [oP 21 (.move (.t 8)),
 oP 22 (.un .not (.t 21))])
 (.cond (.t 22) (.seq (.region 0 [oP 4 (.move (.c (.nilp))),
 oP 5 (.move (.c (.int .i64 3)))])
 (.ret))
 (.skip)))
 (.seq (.region 0 [oP 23 (.move (.t 7)),
 oP 4 (.move (.t 23)),
 oP 5 (.move (.c (.int .i64 0)))])
 (.ret))))))⟩
/-- almadraba/counts.isPlace -/
def f37 : AFn := ⟨20, [.tmp 6],
 .seq (.region 0 [oQ 3 (.box (.t 0)),
 oP 6 (.move (.c (.bool false)))])
 (.seq (.region 0 [oQ 7 (.load true 4 (.t 3)),
 oP 8 (.move (.t 1)),
 oQ 9 (.call 1 46 [(.t 7), (.t 8)]),
 oP 10 (.move (.t 9)),
 oG 11 10 true (.move (.t 2)),
 oG 12 10 true (.bin .leq (.c (.int .i64 0)) (.t 11)),
 oP 13 (.pick (.t 10) (.t 12) (.c (.bool false))),
 oP 14 (.move (.t 13)),
 oG 15 14 true (.move (.t 2)),
 oG 16 14 true (.fieldAddr 0 (.t 3)),
 ⟨(some 17), .load false 1 (.t 16), (some (14, true)), none, []⟩,
 oG 18 14 true (.bin .lss (.t 15) (.t 17)),
 oP 19 (.pick (.t 14) (.t 18) (.c (.bool false))),
 oP 6 (.move (.t 19))])
 (.ret))⟩
end Go.Proofs.Ytjgbiclbpgkfeaa.T
