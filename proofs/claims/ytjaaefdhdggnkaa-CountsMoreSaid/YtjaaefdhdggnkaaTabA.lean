/-
The code of functions of the seat, as the abstract machine has it (printed by a tool of ours off the dump).
-/
import Derived.Test.YtjaaefdhdggnkaaAmX
namespace Go.Proofs.Ytjaaefdhdggnkaa.T
open Go Go.Am
abbrev oP (n : Nat) (p : POp) : AOper := ⟨some n, .p p, none, none, []⟩
abbrev oQ (n : Nat) (p : AOp) : AOper := ⟨some n, p, none, none, []⟩
abbrev oG (n m : Nat) (b : Bool) (p : POp) : AOper := ⟨some n, .p p, some (m, b), none, []⟩
/-- gosem.cut.init -/
def f2 : AFn := ⟨1, [],
 .region 0 [oQ 0 (.call 1 1 [])]⟩
/-- almadraba/almadrabalaw01.CountsEach -/
def f3 : AFn := ⟨209, [.tmp 6],
 .seq (.region 0 [oQ 3 (.box (.t 0)),
 oQ 5 (.box (.t 2)),
 oP 6 (.move (.c (.bool false)))])
 (.seq (.seq (.region 0 [oQ 23 (.load true 4 (.t 3)),
 oQ 24 (.call 1 16 [(.t 23)]),
 oP 25 (.un .not (.t 24)),
 oP 26 (.move (.t 25)),
 oG 27 26 false (.move (.t 1)),
 ⟨(some 28), .call 1 17 [(.t 27)], (some (26, false)), none, []⟩,
 oP 29 (.pick (.t 26) (.c (.bool true)) (.t 28)),
 oP 30 (.move (.t 29)),
 ⟨(some 31), .load true 4 (.t 3), (some (30, false)), none, []⟩,
 oG 32 30 false (.move (.t 1)),
 ⟨(some 33), .call 1 18 [(.t 31), (.t 32)], (some (30, false)), none, []⟩,
 oG 34 30 false (.un .not (.t 33)),
 oP 35 (.pick (.t 30) (.c (.bool true)) (.t 34))])
 (.cond (.t 35) (.seq (.region 0 [oQ 36 (.call 1 19 []),
 oP 6 (.move (.t 36))])
 (.ret))
 (.skip)))
 (.seq (.region 0 [oQ 38 (.load true 4 (.t 3)),
 oQ 39 (.call 1 20 [(.t 38)]),
 oP 37 (.move (.t 39)),
 oP 40 (.extract (.t 37) 0),
 oP 41 (.extract (.t 37) 1),
 oP 7 (.move (.t 40)),
 oP 8 (.move (.t 41))])
 (.seq (.region 0 [oQ 43 (.load true 4 (.t 3)),
 oP 44 (.move (.t 1)),
 oQ 45 (.call 1 22 [(.t 44)]),
 oQ 46 (.call 1 21 [(.t 43), (.t 45)]),
 oP 42 (.move (.t 46)),
 oP 47 (.extract (.t 42) 0),
 oP 48 (.extract (.t 42) 1),
 oP 9 (.move (.t 47)),
 oP 10 (.move (.t 48))])
 (.seq (.seq (.region 0 [oP 49 (.move (.t 8)),
 oP 50 (.un .not (.t 49)),
 oP 51 (.move (.t 50)),
 oG 52 51 false (.move (.t 10)),
 oG 53 51 false (.bin .neq (.t 52) (.c (.int .i64 0))),
 oP 54 (.pick (.t 51) (.c (.bool true)) (.t 53)),
 oP 55 (.move (.t 54)),
 oG 56 55 false (.move (.t 9)),
 oG 57 55 false (.un .not (.t 56)),
 oP 58 (.pick (.t 55) (.c (.bool true)) (.t 57))])
 (.cond (.t 58) (.seq (.region 0 [oP 6 (.move (.c (.bool false)))])
 (.ret))
 (.skip)))
 (.seq (.seq (.region 0 [oP 11 (.move (.c (.int .i64 0)))])
 (.block 0 (.loop (.seq (.seq (.region 0 [oP 59 (.move (.t 11)),
 oP 60 (.fieldAddr 1 (.t 3)),
 oQ 61 (.load false 1 (.t 60)),
 oP 62 (.bin .lss (.t 59) (.t 61))])
 (.cond (.t 62) (.skip)
 (.exit 0)))
 (.seq (.block 1 (.seq (.region 0 [oQ 66 (.load true 4 (.t 3)),
 oP 67 (.move (.t 11)),
 oQ 68 (.call 1 23 [(.t 66), (.t 67)]),
 oP 65 (.move (.t 68)),
 oP 69 (.extract (.t 65) 0),
 oP 70 (.extract (.t 65) 1),
 oQ 12 (.alloc [.int .i64 0, .int .i64 0]),
 ⟨none, .store 2 (.t 12) (.t 69), none, none, []⟩,
 oP 13 (.move (.t 70))])
 (.seq (.region 0 [oQ 72 (.load true 4 (.t 3)),
 oP 73 (.move (.t 11)),
 oQ 74 (.call 1 24 [(.t 72), (.c (.int .i64 0)), (.t 73)]),
 oP 71 (.move (.t 74)),
 oP 75 (.extract (.t 71) 0),
 oP 76 (.extract (.t 71) 1),
 oQ 14 (.alloc [.int .i64 0, .int .i64 0]),
 ⟨none, .store 2 (.t 14) (.t 75), none, none, []⟩,
 oP 15 (.move (.t 76))])
 (.seq (.region 0 [oP 77 (.move (.t 1)),
 oP 78 (.move (.t 11)),
 oP 79 (.idxSl 1 (.t 77) (.t 78)),
 oQ 80 (.load false 1 (.t 79)),
 oQ 81 (.call 1 25 [(.t 80), (.c (.int .i64 0))]),
 oP 16 (.move (.t 81))])
 (.seq (.seq (.region 0 [oP 82 (.move (.t 13)),
 oP 83 (.bin .neq (.t 82) (.c (.int .i64 0))),
 oP 84 (.move (.t 83)),
 oG 85 84 false (.move (.t 15)),
 oG 86 84 false (.bin .neq (.t 85) (.c (.int .i64 0))),
 oP 87 (.pick (.t 84) (.c (.bool true)) (.t 86)),
 oP 88 (.move (.t 87)),
 ⟨(some 89), .load true 2 (.t 12), (some (88, false)), none, []⟩,
 oG 90 88 false (.move (.t 16)),
 ⟨(some 91), .call 1 26 [(.t 89), (.t 90)], (some (88, false)), none, []⟩,
 oG 92 88 false (.un .not (.t 91)),
 oP 93 (.pick (.t 88) (.c (.bool true)) (.t 92)),
 oP 94 (.move (.t 93)),
 ⟨(some 95), .load true 2 (.t 14), (some (94, false)), none, []⟩,
 oG 96 94 false (.move (.t 16)),
 oG 97 94 false (.move (.t 1)),
 oG 98 94 false (.idxSl 1 (.t 97) (.c (.int .i64 0))),
 ⟨(some 99), .load false 1 (.t 98), (some (94, false)), none, []⟩,
 ⟨(some 100), .call 1 25 [(.t 99), (.c (.int .i64 0))], (some (94, false)), none, []⟩,
 oG 101 94 false (.bin .sub (.t 96) (.t 100)),
 ⟨(some 102), .call 1 26 [(.t 95), (.t 101)], (some (94, false)), none, []⟩,
 oG 103 94 false (.un .not (.t 102)),
 oP 104 (.pick (.t 94) (.c (.bool true)) (.t 103))])
 (.cond (.t 104) (.seq (.region 0 [oP 6 (.move (.c (.bool false)))])
 (.ret))
 (.skip)))
 (.seq (.region 0 [oP 17 (.move (.c (.int .i64 0)))])
 (.block 2 (.loop (.seq (.seq (.region 0 [oP 105 (.move (.t 17)),
 oP 106 (.fieldAddr 0 (.t 3)),
 oQ 107 (.load false 1 (.t 106)),
 oP 108 (.bin .lss (.t 105) (.t 107))])
 (.cond (.t 108) (.skip)
 (.exit 2)))
 (.seq (.block 3 (.seq (.seq (.region 0 [oP 111 (.move (.t 7)),
 oP 112 (.move (.t 11)),
 oP 113 (.idxSl 1 (.t 111) (.t 112)),
 oQ 114 (.load false 1 (.t 113)),
 oP 115 (.move (.t 17)),
 oP 116 (.idxSl 2 (.t 114) (.t 115)),
 oQ 117 (.load true 2 (.t 116)),
 oP 118 (.move (.t 1)),
 oP 119 (.move (.t 11)),
 oP 120 (.idxSl 1 (.t 118) (.t 119)),
 oQ 121 (.load false 1 (.t 120)),
 oP 122 (.move (.t 17)),
 oP 123 (.idxSl 1 (.t 121) (.t 122)),
 oQ 124 (.load false 1 (.t 123)),
 oQ 125 (.call 1 26 [(.t 117), (.t 124)]),
 oP 126 (.un .not (.t 125))])
 (.cond (.t 126) (.seq (.region 0 [oP 6 (.move (.c (.bool false)))])
 (.ret))
 (.skip)))
 (.seq (.seq (.region 0 [oP 127 (.move (.t 11)),
 oP 128 (.bin .add (.t 127) (.c (.int .i64 1))),
 oP 129 (.fieldAddr 1 (.t 3)),
 oQ 130 (.load false 1 (.t 129)),
 oP 131 (.bin .eql (.t 128) (.t 130))])
 (.cond (.t 131) (.exit 3)
 (.skip)))
 (.seq (.region 0 [oQ 133 (.load true 4 (.t 3)),
 oP 134 (.move (.t 11)),
 oP 135 (.move (.t 17)),
 oQ 136 (.call 1 27 [(.t 133), (.t 134), (.t 135)]),
 oP 132 (.move (.t 136)),
 oP 137 (.extract (.t 132) 0),
 oP 138 (.extract (.t 132) 1),
 oQ 18 (.alloc [.int .i64 0, .int .i64 0]),
 ⟨none, .store 2 (.t 18) (.t 137), none, none, []⟩,
 oP 19 (.move (.t 138))])
 (.seq (.region 0 [oP 139 (.move (.t 19)),
 oP 140 (.bin .neq (.t 139) (.c (.int .i64 0))),
 oP 141 (.move (.t 140)),
 ⟨(some 142), .load true 2 (.t 18), (some (141, false)), none, []⟩,
 oG 143 141 false (.move (.t 1)),
 oG 144 141 false (.move (.t 11)),
 oG 145 141 false (.bin .add (.t 144) (.c (.int .i64 1))),
 oG 146 141 false (.idxSl 1 (.t 143) (.t 145)),
 ⟨(some 147), .load false 1 (.t 146), (some (141, false)), none, []⟩,
 oG 148 141 false (.move (.t 17)),
 ⟨(some 149), .call 1 25 [(.t 147), (.t 148)], (some (141, false)), none, []⟩,
 oG 150 141 false (.move (.t 1)),
 oG 151 141 false (.move (.t 11)),
 oG 152 141 false (.idxSl 1 (.t 150) (.t 151)),
 ⟨(some 153), .load false 1 (.t 152), (some (141, false)), none, []⟩,
 oG 154 141 false (.move (.t 17)),
 ⟨(some 155), .call 1 25 [(.t 153), (.t 154)], (some (141, false)), none, []⟩,
 oG 156 141 false (.bin .sub (.t 149) (.t 155)),
 ⟨(some 157), .call 1 26 [(.t 142), (.t 156)], (some (141, false)), none, []⟩,
 oG 158 141 false (.un .not (.t 157)),
 oP 159 (.pick (.t 141) (.c (.bool true)) (.t 158))])
 (.cond (.t 159) (.seq (.region 0 [oP 6 (.move (.c (.bool false)))])
 (.ret))
 (.skip)))))))
 (.region 0 [oP 109 (.move (.t 17)),
 oP 110 (.bin .add (.t 109) (.c (.int .i64 1))),
 oP 17 (.move (.t 110))])))))))))))
 (.region 0 [oP 63 (.move (.t 11)),
 oP 64 (.bin .add (.t 63) (.c (.int .i64 1))),
 oP 11 (.move (.t 64))]))))))
 (.seq (.seq (.region 0 [oQ 160 (.load true 4 (.t 3)),
 oQ 161 (.load true 4 (.t 5)),
 oQ 162 (.call 1 28 [(.t 160), (.t 161)]),
 oP 163 (.un .not (.t 162))])
 (.cond (.t 163) (.seq (.region 0 [oQ 164 (.call 1 19 []),
 oP 6 (.move (.t 164))])
 (.ret))
 (.skip)))
 (.seq (.region 0 [oQ 166 (.load true 4 (.t 3)),
 oQ 167 (.load true 4 (.t 5)),
 oQ 168 (.call 1 29 [(.t 166), (.t 167)]),
 oP 165 (.move (.t 168)),
 oP 169 (.extract (.t 165) 0),
 oP 170 (.extract (.t 165) 1),
 oP 20 (.move (.t 169)),
 oP 21 (.move (.t 170))])
 (.seq (.region 0 [oP 171 (.move (.t 1)),
 oP 172 (.fieldAddr 0 (.t 5)),
 oQ 173 (.load false 1 (.t 172)),
 oP 174 (.idxSl 1 (.t 171) (.t 173)),
 oQ 175 (.load false 1 (.t 174)),
 oP 176 (.fieldAddr 1 (.t 5)),
 oQ 177 (.load false 1 (.t 176)),
 oP 178 (.idxSl 1 (.t 175) (.t 177)),
 oQ 179 (.load false 1 (.t 178)),
 oP 180 (.fieldAddr 2 (.t 5)),
 oQ 181 (.load false 1 (.t 180)),
 oP 182 (.fieldAddr 3 (.t 5)),
 oQ 183 (.load false 1 (.t 182)),
 oQ 184 (.call 1 30 [(.t 179), (.t 181), (.t 183)]),
 oP 22 (.move (.t 184))])
 (.seq (.region 0 [oP 185 (.move (.t 21)),
 oP 186 (.bin .eql (.t 185) (.c (.int .i64 0))),
 oP 187 (.move (.t 186)),
 oG 188 187 true (.move (.t 20)),
 ⟨(some 189), .call 1 30 [(.t 188), (.c (.int .i64 1)), (.c (.int .i64 3))], (some (187, true)), none, []⟩,
 oP 190 (.pick (.t 187) (.t 189) (.c (.bool false))),
 oP 191 (.move (.t 190)),
 oG 192 191 true (.move (.t 20)),
 oG 193 191 true (.bin .neq (.t 192) (.c (.int .i64 1))),
 oG 194 191 true (.move (.t 193)),
 oG 195 194 false (.move (.t 22)),
 oG 196 191 true (.pick (.t 194) (.c (.bool true)) (.t 195)),
 oP 197 (.pick (.t 191) (.t 196) (.c (.bool false))),
 oP 198 (.move (.t 197)),
 oG 199 198 true (.move (.t 20)),
 oG 200 198 true (.bin .neq (.t 199) (.c (.int .i64 2))),
 oG 201 198 true (.move (.t 200)),
 oG 202 201 false (.move (.t 22)),
 oG 203 201 false (.un .not (.t 202)),
 oG 204 198 true (.pick (.t 201) (.c (.bool true)) (.t 203)),
 oP 205 (.pick (.t 198) (.t 204) (.c (.bool false))),
 oP 206 (.move (.t 205)),
 ⟨(some 207), .call 1 19 [], (some (206, true)), none, []⟩,
 oP 208 (.pick (.t 206) (.t 207) (.c (.bool false))),
 oP 6 (.move (.t 208))])
 (.ret))))))))))⟩
/-- almadraba/almadrabalaw01.CountsMore -/
def f5 : AFn := ⟨84, [.tmp 6],
 .seq (.region 0 [oQ 3 (.box (.t 0)),
 oQ 4 (.box (.t 1)),
 oQ 5 (.box (.t 2)),
 oP 6 (.move (.c (.bool false)))])
 (.seq (.region 0 [oQ 14 (.load true 4 (.t 3)),
 oQ 15 (.load true 4 (.t 4)),
 oQ 16 (.call 1 35 [(.t 14), (.t 15)]),
 oQ 7 (.alloc [.int .i64 0, .int .i64 0, .nils, .nils]),
 ⟨none, .store 4 (.t 7) (.t 16), none, none, []⟩])
 (.seq (.seq (.region 0 [oQ 17 (.load true 4 (.t 3)),
 oQ 18 (.call 1 16 [(.t 17)]),
 oP 19 (.un .not (.t 18)),
 oP 20 (.move (.t 19)),
 ⟨(some 21), .load true 4 (.t 7), (some (20, false)), none, []⟩,
 ⟨(some 22), .call 1 16 [(.t 21)], (some (20, false)), none, []⟩,
 oG 23 20 false (.un .not (.t 22)),
 oP 24 (.pick (.t 20) (.c (.bool true)) (.t 23)),
 oP 25 (.move (.t 24)),
 ⟨(some 26), .load true 4 (.t 7), (some (25, false)), none, []⟩,
 ⟨(some 27), .call 1 36 [(.t 26)], (some (25, false)), none, []⟩,
 oG 28 25 false (.un .not (.t 27)),
 oP 29 (.pick (.t 25) (.c (.bool true)) (.t 28))])
 (.cond (.t 29) (.seq (.region 0 [oQ 30 (.call 1 19 []),
 oP 6 (.move (.t 30))])
 (.ret))
 (.skip)))
 (.seq (.seq (.region 0 [oQ 31 (.load true 4 (.t 7)),
 oQ 32 (.load true 4 (.t 3)),
 oQ 33 (.call 1 37 [(.t 31), (.t 32)]),
 oP 34 (.un .not (.t 33))])
 (.cond (.t 34) (.seq (.region 0 [oP 6 (.move (.c (.bool false)))])
 (.ret))
 (.skip)))
 (.seq (.seq (.region 0 [oQ 35 (.load true 4 (.t 3)),
 oQ 36 (.load true 4 (.t 5)),
 oQ 37 (.call 1 28 [(.t 35), (.t 36)]),
 oP 38 (.un .not (.t 37))])
 (.cond (.t 38) (.seq (.region 0 [oQ 39 (.call 1 19 []),
 oP 6 (.move (.t 39))])
 (.ret))
 (.skip)))
 (.seq (.region 0 [oQ 41 (.load true 4 (.t 3)),
 oQ 42 (.load true 4 (.t 5)),
 oQ 43 (.call 1 29 [(.t 41), (.t 42)]),
 oP 40 (.move (.t 43)),
 oP 44 (.extract (.t 40) 0),
 oP 45 (.extract (.t 40) 1),
 oP 8 (.move (.t 44)),
 oP 9 (.move (.t 45))])
 (.seq (.region 0 [oQ 47 (.load true 4 (.t 7)),
 oQ 48 (.load true 4 (.t 5)),
 oQ 49 (.call 1 29 [(.t 47), (.t 48)]),
 oP 46 (.move (.t 49)),
 oP 50 (.extract (.t 46) 0),
 oP 51 (.extract (.t 46) 1),
 oP 10 (.move (.t 50)),
 oP 11 (.move (.t 51))])
 (.seq (.region 0 [oQ 53 (.load true 4 (.t 7)),
 oQ 54 (.load true 4 (.t 4)),
 oQ 55 (.call 1 29 [(.t 53), (.t 54)]),
 oP 52 (.move (.t 55)),
 oP 56 (.extract (.t 52) 0),
 oP 57 (.extract (.t 52) 1),
 oP 12 (.move (.t 56)),
 oP 13 (.move (.t 57))])
 (.seq (.region 0 [oP 58 (.move (.t 9)),
 oP 59 (.bin .eql (.t 58) (.c (.int .i64 0))),
 oP 60 (.move (.t 59)),
 oG 61 60 true (.move (.t 11)),
 oG 62 60 true (.bin .eql (.t 61) (.c (.int .i64 0))),
 oP 63 (.pick (.t 60) (.t 62) (.c (.bool false))),
 oP 64 (.move (.t 63)),
 oG 65 64 true (.move (.t 13)),
 oG 66 64 true (.bin .eql (.t 65) (.c (.int .i64 0))),
 oP 67 (.pick (.t 64) (.t 66) (.c (.bool false))),
 oP 68 (.move (.t 67)),
 oG 69 68 true (.move (.t 12)),
 oG 70 68 true (.bin .eql (.t 69) (.c (.int .i64 1))),
 oP 71 (.pick (.t 68) (.t 70) (.c (.bool false))),
 oP 72 (.move (.t 71)),
 oG 73 72 true (.move (.t 8)),
 oG 74 72 true (.bin .eql (.t 73) (.c (.int .i64 3))),
 oG 75 72 true (.move (.t 74)),
 oG 76 75 false (.move (.t 10)),
 oG 77 75 false (.move (.t 8)),
 oG 78 75 false (.bin .eql (.t 76) (.t 77)),
 oG 79 72 true (.pick (.t 75) (.c (.bool true)) (.t 78)),
 oP 80 (.pick (.t 72) (.t 79) (.c (.bool false))),
 oP 81 (.move (.t 80)),
 ⟨(some 82), .call 1 19 [], (some (81, true)), none, []⟩,
 oP 83 (.pick (.t 81) (.t 82) (.c (.bool false))),
 oP 6 (.move (.t 83))])
 (.ret)))))))))⟩
/-- almadraba/almadrabalaw01.ready -/
def f16 : AFn := ⟨11, [.tmp 2],
 .seq (.region 0 [oQ 1 (.box (.t 0)),
 oP 2 (.move (.c (.bool false)))])
 (.seq (.region 0 [oQ 3 (.load true 4 (.t 1)),
 oQ 4 (.call 1 53 [(.t 3)]),
 oP 5 (.un .not (.t 4)),
 oP 6 (.move (.t 5)),
 ⟨(some 7), .load true 4 (.t 1), (some (6, true)), none, []⟩,
 ⟨(some 8), .call 1 55 [(.t 7)], (some (6, true)), none, []⟩,
 oG 9 6 true (.bin .eql (.t 8) (.c (.int .i64 0))),
 oP 10 (.pick (.t 6) (.t 9) (.c (.bool false))),
 oP 2 (.move (.t 10))])
 (.ret))⟩
/-- almadraba/almadrabalaw01.huge -/
def f17 : AFn := ⟨19, [.tmp 2],
 .seq (.region 0 [oP 2 (.move (.c (.bool false)))])
 (.seq (.seq (.region 0 [oP 4 (.move (.t 0)),
 oP 5 (.lenS (.t 4)),
 oP 6 (.bin .gtr (.t 5) (.c (.int .i64 40)))])
 (.cond (.t 6) (.seq (.region 0 [oP 2 (.move (.c (.bool true)))])
 (.ret))
 (.skip)))
 (.seq (.seq (.region 0 [oP 3 (.move (.c (.int .i64 0)))])
 (.block 0 (.loop (.seq (.seq (.region 0 [oP 7 (.move (.t 3)),
 oP 8 (.move (.t 0)),
 oP 9 (.lenS (.t 8)),
 oP 10 (.bin .lss (.t 7) (.t 9))])
 (.cond (.t 10) (.skip)
 (.exit 0)))
 (.seq (.block 1 (.seq (.region 0 [oP 13 (.move (.t 0)),
 oP 14 (.move (.t 3)),
 oP 15 (.idxSl 1 (.t 13) (.t 14)),
 oQ 16 (.load false 1 (.t 15)),
 oP 17 (.lenS (.t 16)),
 oP 18 (.bin .gtr (.t 17) (.c (.int .i64 40)))])
 (.cond (.t 18) (.seq (.region 0 [oP 2 (.move (.c (.bool true)))])
 (.ret))
 (.skip))))
 (.region 0 [oP 11 (.move (.t 3)),
 oP 12 (.bin .add (.t 11) (.c (.int .i64 1))),
 oP 3 (.move (.t 12))]))))))
 (.seq (.region 0 [oP 2 (.move (.c (.bool false)))])
 (.ret))))⟩
/-- almadraba/almadrabalaw01.works -/
def f19 : AFn := ⟨112, [.tmp 0],
 .seq (.region 0 [oP 0 (.move (.c (.bool false)))])
 (.seq (.region 0 [oQ 18 (.call 1 70 []),
 oP 17 (.move (.t 18)),
 oP 19 (.extract (.t 17) 0),
 oP 20 (.extract (.t 17) 1),
 oQ 1 (.alloc [.int .i64 0, .int .i64 0, .nils, .nils]),
 oQ 2 (.alloc [.int .i64 0, .int .i64 0, .nils, .nils]),
 ⟨none, .store 4 (.t 1) (.t 19), none, none, []⟩,
 ⟨none, .store 4 (.t 2) (.t 20), none, none, []⟩])
 (.seq (.region 0 [oQ 22 (.load true 4 (.t 1)),
 oQ 23 (.call 1 32 [(.t 22), (.c (.int .i64 2)), (.c (.int .i64 1))]),
 oP 21 (.move (.t 23)),
 oP 24 (.extract (.t 21) 0),
 oP 25 (.extract (.t 21) 1),
 oQ 3 (.alloc [.int .i64 0, .int .i64 0]),
 ⟨none, .store 2 (.t 3) (.t 24), none, none, []⟩,
 oP 4 (.move (.t 25))])
 (.seq (.region 0 [oQ 27 (.load true 4 (.t 1)),
 oQ 28 (.call 1 23 [(.t 27), (.c (.int .i64 2))]),
 oP 26 (.move (.t 28)),
 oP 29 (.extract (.t 26) 0),
 oP 30 (.extract (.t 26) 1),
 oQ 5 (.alloc [.int .i64 0, .int .i64 0]),
 ⟨none, .store 2 (.t 5) (.t 29), none, none, []⟩,
 oP 6 (.move (.t 30))])
 (.seq (.region 0 [oQ 32 (.load true 4 (.t 1)),
 oQ 33 (.call 1 27 [(.t 32), (.c (.int .i64 1)), (.c (.int .i64 1))]),
 oP 31 (.move (.t 33)),
 oP 34 (.extract (.t 31) 0),
 oP 35 (.extract (.t 31) 1),
 oQ 7 (.alloc [.int .i64 0, .int .i64 0]),
 ⟨none, .store 2 (.t 7) (.t 34), none, none, []⟩,
 oP 8 (.move (.t 35))])
 (.seq (.region 0 [oQ 37 (.load true 4 (.t 1)),
 oQ 38 (.call 1 71 [(.c (.int .i64 0)), (.c (.int .i64 0)), (.c (.int .i64 7)), (.c (.int .i64 9))]),
 oQ 39 (.call 1 29 [(.t 37), (.t 38)]),
 oP 36 (.move (.t 39)),
 oP 40 (.extract (.t 36) 0),
 oP 41 (.extract (.t 36) 1),
 oP 9 (.move (.t 40)),
 oP 10 (.move (.t 41))])
 (.seq (.region 0 [oQ 43 (.load true 4 (.t 1)),
 oQ 44 (.call 1 44 [(.t 43), (.c (.int .i64 4))]),
 oP 42 (.move (.t 44)),
 oP 45 (.extract (.t 42) 0),
 oP 46 (.extract (.t 42) 1),
 oQ 11 (.alloc [.int .i64 0, .int .i64 0]),
 ⟨none, .store 2 (.t 11) (.t 45), none, none, []⟩,
 oP 12 (.move (.t 46))])
 (.seq (.region 0 [oQ 48 (.load true 4 (.t 1)),
 oP 49 (.build [.int .i64 0, .int .i64 0] [(0, 1, (.c (.int .i64 2)))]),
 oQ 50 (.call 1 48 [(.t 48), (.t 49)]),
 oP 47 (.move (.t 50)),
 oP 51 (.extract (.t 47) 0),
 oP 52 (.extract (.t 47) 1),
 oP 13 (.move (.t 51)),
 oP 14 (.move (.t 52))])
 (.seq (.region 0 [oQ 54 (.load true 4 (.t 2)),
 oQ 55 (.call 1 33 [(.t 54)]),
 oP 53 (.move (.t 55)),
 oP 56 (.extract (.t 53) 0),
 oP 57 (.extract (.t 53) 1),
 oP 15 (.move (.t 56)),
 oP 16 (.move (.t 57))])
 (.seq (.region 0 [oP 58 (.move (.t 4)),
 oP 59 (.bin .eql (.t 58) (.c (.int .i64 0))),
 oP 60 (.move (.t 59)),
 oG 61 60 true (.move (.t 6)),
 oG 62 60 true (.bin .eql (.t 61) (.c (.int .i64 0))),
 oP 63 (.pick (.t 60) (.t 62) (.c (.bool false))),
 oP 64 (.move (.t 63)),
 oG 65 64 true (.move (.t 8)),
 oG 66 64 true (.bin .eql (.t 65) (.c (.int .i64 0))),
 oP 67 (.pick (.t 64) (.t 66) (.c (.bool false))),
 oP 68 (.move (.t 67)),
 oG 69 68 true (.move (.t 10)),
 oG 70 68 true (.bin .eql (.t 69) (.c (.int .i64 0))),
 oP 71 (.pick (.t 68) (.t 70) (.c (.bool false))),
 oP 72 (.move (.t 71)),
 oG 73 72 true (.move (.t 12)),
 oG 74 72 true (.bin .eql (.t 73) (.c (.int .i64 0))),
 oP 75 (.pick (.t 72) (.t 74) (.c (.bool false))),
 oP 76 (.move (.t 75)),
 oG 77 76 true (.move (.t 14)),
 oG 78 76 true (.bin .eql (.t 77) (.c (.int .i64 0))),
 oP 79 (.pick (.t 76) (.t 78) (.c (.bool false))),
 oP 80 (.move (.t 79)),
 oG 81 80 true (.move (.t 16)),
 oG 82 80 true (.bin .eql (.t 81) (.c (.int .i64 3))),
 oP 83 (.pick (.t 80) (.t 82) (.c (.bool false))),
 oP 84 (.move (.t 83)),
 ⟨(some 85), .load true 2 (.t 3), (some (84, true)), none, []⟩,
 oG 86 84 true (.build [.int .i64 0, .int .i64 0] [(0, 1, (.c (.int .i64 4))), (1, 1, (.c (.int .i64 10)))]),
 oG 87 84 true (.eqS false [true, true] (.t 85) (.t 86)),
 oP 88 (.pick (.t 84) (.t 87) (.c (.bool false))),
 oP 89 (.move (.t 88)),
 ⟨(some 90), .load true 2 (.t 5), (some (89, true)), none, []⟩,
 oG 91 89 true (.build [.int .i64 0, .int .i64 0] [(0, 1, (.c (.int .i64 5))), (1, 1, (.c (.int .i64 18)))]),
 oG 92 89 true (.eqS false [true, true] (.t 90) (.t 91)),
 oP 93 (.pick (.t 89) (.t 92) (.c (.bool false))),
 oP 94 (.move (.t 93)),
 ⟨(some 95), .load true 2 (.t 7), (some (94, true)), none, []⟩,
 oG 96 94 true (.build [.int .i64 0, .int .i64 0] [(0, 1, (.c (.int .i64 0))), (1, 1, (.c (.int .i64 8)))]),
 oG 97 94 true (.eqS false [true, true] (.t 95) (.t 96)),
 oP 98 (.pick (.t 94) (.t 97) (.c (.bool false))),
 oP 99 (.move (.t 98)),
 oG 100 99 true (.move (.t 9)),
 oG 101 99 true (.bin .eql (.t 100) (.c (.int .i64 2))),
 oP 102 (.pick (.t 99) (.t 101) (.c (.bool false))),
 oP 103 (.move (.t 102)),
 ⟨(some 104), .load true 2 (.t 11), (some (103, true)), none, []⟩,
 oG 105 103 true (.build [.int .i64 0, .int .i64 0] [(0, 1, (.c (.int .i64 1))), (1, 1, (.c (.int .i64 2)))]),
 oG 106 103 true (.eqS false [true, true] (.t 104) (.t 105)),
 oP 107 (.pick (.t 103) (.t 106) (.c (.bool false))),
 oP 108 (.move (.t 107)),
 oG 109 108 true (.move (.t 13)),
 oG 110 108 true (.bin .eql (.t 109) (.c (.int .i64 6))),
 oP 111 (.pick (.t 108) (.t 110) (.c (.bool false))),
 oP 0 (.move (.t 111))])
 (.ret))))))))))⟩
/-- almadraba/almadrabalaw01.fish -/
def f20 : AFn := ⟨57, [.tmp 2, .tmp 3],
 .seq (.region 0 [oQ 1 (.box (.t 0)),
 oP 2 (.move (.c (.nils))),
 oP 3 (.move (.c (.bool false)))])
 (.seq (.region 0 [oP 4 (.move (.c (.nils)))])
 (.seq (.seq (.region 0 [oP 5 (.move (.c (.int .i64 0)))])
 (.block 0 (.loop (.seq (.seq (.region 0 [oP 10 (.move (.t 5)),
 oP 11 (.fieldAddr 1 (.t 1)),
 oQ 12 (.load false 1 (.t 11)),
 oP 13 (.bin .lss (.t 10) (.t 12))])
 (.cond (.t 13) (.skip)
 (.exit 0)))
 (.seq (.block 1 (.seq (.region 0 [oP 6 (.move (.c (.nils)))])
 (.seq (.seq (.region 0 [oP 7 (.move (.c (.int .i64 0)))])
 (.block 2 (.loop (.seq (.seq (.region 0 [oP 16 (.move (.t 7)),
 oP 17 (.fieldAddr 0 (.t 1)),
 oQ 18 (.load false 1 (.t 17)),
 oP 19 (.bin .lss (.t 16) (.t 18))])
 (.cond (.t 19) (.skip)
 (.exit 2)))
 (.seq (.block 3 (.seq (.region 0 [oQ 23 (.load true 4 (.t 1)),
 oP 24 (.move (.t 5)),
 oP 25 (.move (.t 7)),
 oQ 26 (.call 1 32 [(.t 23), (.t 24), (.t 25)]),
 oP 22 (.move (.t 26)),
 oP 27 (.extract (.t 22) 0),
 oP 28 (.extract (.t 22) 1),
 oQ 8 (.alloc [.int .i64 0, .int .i64 0]),
 ⟨none, .store 2 (.t 8) (.t 27), none, none, []⟩,
 oP 9 (.move (.t 28))])
 (.seq (.seq (.region 0 [oP 29 (.move (.t 9)),
 oP 30 (.bin .neq (.t 29) (.c (.int .i64 0))),
 oP 31 (.move (.t 30)),
 oG 32 31 false (.fieldAddr 0 (.t 8)),
 ⟨(some 33), .load false 1 (.t 32), (some (31, false)), none, []⟩,
 oG 34 31 false (.bin .lss (.t 33) (.c (.int .i64 0))),
 oP 35 (.pick (.t 31) (.c (.bool true)) (.t 34)),
 oP 36 (.move (.t 35)),
 oG 37 36 false (.fieldAddr 0 (.t 8)),
 ⟨(some 38), .load false 1 (.t 37), (some (36, false)), none, []⟩,
 oG 39 36 false (.fieldAddr 1 (.t 8)),
 ⟨(some 40), .load false 1 (.t 39), (some (36, false)), none, []⟩,
 oG 41 36 false (.bin .gtr (.t 38) (.t 40)),
 oP 42 (.pick (.t 36) (.c (.bool true)) (.t 41)),
 oP 43 (.move (.t 42)),
 oG 44 43 false (.fieldAddr 1 (.t 8)),
 ⟨(some 45), .load false 1 (.t 44), (some (43, false)), none, []⟩,
 oG 46 43 false (.bin .gtr (.t 45) (.c (.int .i64 40))),
 oP 47 (.pick (.t 43) (.c (.bool true)) (.t 46))])
 (.cond (.t 47) (.seq (.region 0 [oP 2 (.move (.c (.nils))),
 oP 3 (.move (.c (.bool false)))])
 (.ret))
 (.skip)))
 (.region 0 [oP 48 (.move (.t 6)),
 oQ 49 (.load true 2 (.t 8)),
 oQ 50 (.buildSlice 2 1 [.int .i64 0, .int .i64 0] [(0, (.t 49))]),
 oQ 51 (.append false 2 16 (.t 48) (.t 50)),
 oP 6 (.move (.t 51))]))))
 (.region 0 [oP 20 (.move (.t 7)),
 oP 21 (.bin .add (.t 20) (.c (.int .i64 1))),
 oP 7 (.move (.t 21))]))))))
 (.region 0 [oP 52 (.move (.t 4)),
 oP 53 (.move (.t 6)),
 oQ 54 (.buildSlice 1 1 [.nils] [(0, (.t 53))]),
 oQ 55 (.append false 1 24 (.t 52) (.t 54)),
 oP 4 (.move (.t 55))]))))
 (.region 0 [oP 14 (.move (.t 5)),
 oP 15 (.bin .add (.t 14) (.c (.int .i64 1))),
 oP 5 (.move (.t 15))]))))))
 (.seq (.region 0 [oP 56 (.move (.t 4)),
 oP 2 (.move (.t 56)),
 oP 3 (.move (.c (.bool true)))])
 (.ret))))⟩
/-- almadraba/counts.Whole -/
def f23 : AFn := ⟨27, [.cell true 2 4, .tmp 5],
 .seq (.region 0 [oQ 2 (.box (.t 0)),
 oQ 4 (.alloc [.int .i64 0, .int .i64 0]),
 oP 5 (.move (.c (.int .i64 0)))])
 (.seq (.region 0 [oQ 9 (.load true 4 (.t 2)),
 oQ 10 (.load true 4 (.t 2)),
 oP 11 (.move (.t 1)),
 oQ 12 (.call 1 74 [(.t 10), (.t 11)]),
 oQ 13 (.call 2 73 [(.t 9), (.t 12)]),
 oP 8 (.move (.t 13)),
 oP 14 (.extract (.t 8) 0),
 oP 15 (.extract (.t 8) 1),
 oP 6 (.move (.t 14)),
 oP 7 (.move (.t 15))])
 (.seq (.seq (.region 0 [oP 16 (.move (.t 7)),
 oP 17 (.bin .neq (.t 16) (.c (.int .i64 0)))])
 (.cond (.t 17) (.seq (.region 0 [oP 18 (.build [.int .i64 0, .int .i64 0] []),
 oP 19 (.move (.t 7)),
 ⟨none, .store 2 (.t 4) (.t 18), none, none, []⟩,
 oP 5 (.move (.t 19))])
 (.ret))
 (.skip)))
 (.seq (.region 0 [oP 20 (.move (.t 6)),
 oP 21 (.nilCheck (.t 20)),
 oP 22 (.fieldAddr 4 (.t 21)),
 oP 23 (.move (.t 6)),
 oP 24 (.move (.t 1)),
 oQ 25 (.call 3 76 [(.t 23), (.t 24), (.c (.int .i64 0))]),
 oQ 26 (.call 3 75 [(.t 22), (.t 25), (.c (.int .i64 0))]),
 ⟨none, .store 2 (.t 4) (.t 26), none, none, []⟩,
 oP 5 (.move (.c (.int .i64 0)))])
 (.ret))))⟩
/-- almadraba/counts.Passed -/
def f27 : AFn := ⟨44, [.cell true 2 6, .tmp 7],
 .seq (.region 0 [oQ 3 (.box (.t 0)),
 oQ 6 (.alloc [.int .i64 0, .int .i64 0]),
 oP 7 (.move (.c (.int .i64 0)))])
 (.seq (.region 0 [oQ 11 (.load true 4 (.t 3)),
 oP 12 (.move (.t 1)),
 oP 13 (.bin .leq (.c (.int .i64 0)) (.t 12)),
 oP 14 (.move (.t 13)),
 oG 15 14 true (.move (.t 1)),
 oG 16 14 true (.fieldAddr 2 (.t 3)),
 ⟨(some 17), .load false 1 (.t 16), (some (14, true)), none, []⟩,
 oG 18 14 true (.lenS (.t 17)),
 oG 19 14 true (.bin .lss (.t 15) (.t 18)),
 oP 20 (.pick (.t 14) (.t 19) (.c (.bool false))),
 oP 21 (.move (.t 20)),
 oG 22 21 true (.move (.t 2)),
 oG 23 21 true (.bin .leq (.c (.int .i64 0)) (.t 22)),
 oP 24 (.pick (.t 21) (.t 23) (.c (.bool false))),
 oP 25 (.move (.t 24)),
 oG 26 25 true (.move (.t 2)),
 oG 27 25 true (.fieldAddr 0 (.t 3)),
 ⟨(some 28), .load false 1 (.t 27), (some (25, true)), none, []⟩,
 oG 29 25 true (.bin .lss (.t 26) (.t 28)),
 oP 30 (.pick (.t 25) (.t 29) (.c (.bool false))),
 oQ 31 (.call 2 73 [(.t 11), (.t 30)]),
 oP 10 (.move (.t 31)),
 oP 32 (.extract (.t 10) 0),
 oP 33 (.extract (.t 10) 1),
 oP 8 (.move (.t 32)),
 oP 9 (.move (.t 33))])
 (.seq (.seq (.region 0 [oP 34 (.move (.t 9)),
 oP 35 (.bin .neq (.t 34) (.c (.int .i64 0)))])
 (.cond (.t 35) (.seq (.region 0 [oP 36 (.build [.int .i64 0, .int .i64 0] []),
 oP 37 (.move (.t 9)),
 ⟨none, .store 2 (.t 6) (.t 36), none, none, []⟩,
 oP 7 (.move (.t 37))])
 (.ret))
 (.skip)))
 (.seq (.region 0 [oP 38 (.move (.t 8)),
 oP 39 (.move (.t 2)),
 oP 40 (.move (.t 1)),
 oP 41 (.move (.t 1)),
 oP 42 (.bin .add (.t 41) (.c (.int .i64 1))),
 oQ 43 (.call 3 77 [(.t 38), (.t 39), (.t 40), (.t 42)]),
 ⟨none, .store 2 (.t 6) (.t 43), none, none, []⟩,
 oP 7 (.move (.c (.int .i64 0)))])
 (.ret))))⟩
/-- almadraba/almadrabaref01.IsWord -/
def f28 : AFn := ⟨27, [.tmp 4],
 .seq (.region 0 [oQ 2 (.box (.t 0)),
 oQ 3 (.box (.t 1)),
 oP 4 (.move (.c (.bool false)))])
 (.seq (.region 0 [oQ 5 (.load true 4 (.t 2)),
 oP 6 (.fieldAddr 0 (.t 3)),
 oQ 7 (.load false 1 (.t 6)),
 oQ 8 (.call 1 45 [(.t 5), (.t 7)]),
 oP 9 (.move (.t 8)),
 ⟨(some 10), .load true 4 (.t 2), (some (9, true)), none, []⟩,
 oG 11 9 true (.fieldAddr 1 (.t 3)),
 ⟨(some 12), .load false 1 (.t 11), (some (9, true)), none, []⟩,
 ⟨(some 13), .call 1 39 [(.t 10), (.t 12)], (some (9, true)), none, []⟩,
 oP 14 (.pick (.t 9) (.t 13) (.c (.bool false))),
 oP 15 (.move (.t 14)),
 oG 16 15 true (.fieldAddr 3 (.t 3)),
 ⟨(some 17), .load false 1 (.t 16), (some (15, true)), none, []⟩,
 ⟨(some 18), .call 1 30 [(.t 17), (.c (.int .i64 0)), (.c (.int .i64 40))], (some (15, true)), none, []⟩,
 oP 19 (.pick (.t 15) (.t 18) (.c (.bool false))),
 oP 20 (.move (.t 19)),
 oG 21 20 true (.fieldAddr 2 (.t 3)),
 ⟨(some 22), .load false 1 (.t 21), (some (20, true)), none, []⟩,
 oG 23 20 true (.fieldAddr 3 (.t 3)),
 ⟨(some 24), .load false 1 (.t 23), (some (20, true)), none, []⟩,
 ⟨(some 25), .call 1 30 [(.t 22), (.c (.int .i64 0)), (.t 24)], (some (20, true)), none, []⟩,
 oP 26 (.pick (.t 20) (.t 25) (.c (.bool false))),
 oP 4 (.move (.t 26))])
 (.ret))⟩
/-- almadraba/counts.Judge -/
def f29 : AFn := ⟨22, [.tmp 4, .tmp 5],
 .seq (.region 0 [oQ 2 (.box (.t 0)),
 oQ 3 (.box (.t 1)),
 oP 4 (.move (.c (.int .i64 0))),
 oP 5 (.move (.c (.int .i64 0)))])
 (.seq (.region 0 [oQ 9 (.load true 4 (.t 2)),
 oQ 10 (.load true 4 (.t 2)),
 oQ 11 (.load true 4 (.t 3)),
 oQ 12 (.call 1 79 [(.t 10), (.t 11)]),
 oQ 13 (.call 2 73 [(.t 9), (.t 12)]),
 oP 8 (.move (.t 13)),
 oP 14 (.extract (.t 8) 0),
 oP 15 (.extract (.t 8) 1),
 oP 6 (.move (.t 14)),
 oP 7 (.move (.t 15))])
 (.seq (.seq (.region 0 [oP 16 (.move (.t 7)),
 oP 17 (.bin .neq (.t 16) (.c (.int .i64 0)))])
 (.cond (.t 17) (.seq (.region 0 [oP 18 (.move (.t 7)),
 oP 4 (.move (.c (.int .i64 0))),
 oP 5 (.move (.t 18))])
 (.ret))
 (.skip)))
 (.seq (.region 0 [oP 19 (.move (.t 6)),
 oQ 20 (.load true 4 (.t 3)),
 oQ 21 (.call 3 80 [(.t 19), (.t 20)]),
 oP 4 (.move (.t 21)),
 oP 5 (.move (.c (.int .i64 0)))])
 (.ret))))⟩
/-- almadraba/almadrabaref01.Within -/
def f30 : AFn := ⟨15, [.tmp 6],
 .seq (.region 0 [oP 6 (.move (.c (.bool false)))])
 (.seq (.region 0 [oP 7 (.move (.t 1)),
 oP 8 (.move (.t 0)),
 oP 9 (.bin .leq (.t 7) (.t 8)),
 oP 10 (.move (.t 9)),
 oG 11 10 true (.move (.t 0)),
 oG 12 10 true (.move (.t 2)),
 oG 13 10 true (.bin .leq (.t 11) (.t 12)),
 oP 14 (.pick (.t 10) (.t 13) (.c (.bool false))),
 oP 6 (.move (.t 14))])
 (.ret))⟩
/-- almadraba/counts.Fish -/
def f32 : AFn := ⟨28, [.cell true 2 6, .tmp 7],
 .seq (.region 0 [oQ 3 (.box (.t 0)),
 oQ 6 (.alloc [.int .i64 0, .int .i64 0]),
 oP 7 (.move (.c (.int .i64 0)))])
 (.seq (.region 0 [oQ 11 (.load true 4 (.t 3)),
 oQ 12 (.load true 4 (.t 3)),
 oP 13 (.move (.t 1)),
 oP 14 (.move (.t 2)),
 oQ 15 (.call 1 81 [(.t 12), (.t 13), (.t 14)]),
 oQ 16 (.call 2 73 [(.t 11), (.t 15)]),
 oP 10 (.move (.t 16)),
 oP 17 (.extract (.t 10) 0),
 oP 18 (.extract (.t 10) 1),
 oP 8 (.move (.t 17)),
 oP 9 (.move (.t 18))])
 (.seq (.seq (.region 0 [oP 19 (.move (.t 9)),
 oP 20 (.bin .neq (.t 19) (.c (.int .i64 0)))])
 (.cond (.t 20) (.seq (.region 0 [oP 21 (.build [.int .i64 0, .int .i64 0] []),
 oP 22 (.move (.t 9)),
 ⟨none, .store 2 (.t 6) (.t 21), none, none, []⟩,
 oP 7 (.move (.t 22))])
 (.ret))
 (.skip)))
 (.seq (.region 0 [oP 23 (.move (.t 8)),
 oP 24 (.move (.t 1)),
 oP 25 (.move (.t 2)),
 oP 26 (.build [.int .i64 0, .int .i64 0] [(0, 1, (.t 24)), (1, 1, (.t 25))]),
 oQ 27 (.call 3 82 [(.t 23), (.t 26)]),
 ⟨none, .store 2 (.t 6) (.t 27), none, none, []⟩,
 oP 7 (.move (.c (.int .i64 0)))])
 (.ret))))⟩
/-- almadraba/counts.Truth -/
def f33 : AFn := ⟨16, [.tmp 2, .tmp 3],
 .seq (.region 0 [oQ 1 (.box (.t 0)),
 oP 2 (.move (.c (.nils))),
 oP 3 (.move (.c (.int .i64 0)))])
 (.seq (.region 0 [oQ 7 (.load true 4 (.t 1)),
 oQ 8 (.call 2 73 [(.t 7), (.c (.bool true))]),
 oP 6 (.move (.t 8)),
 oP 9 (.extract (.t 6) 0),
 oP 10 (.extract (.t 6) 1),
 oP 4 (.move (.t 9)),
 oP 5 (.move (.t 10))])
 (.seq (.seq (.region 0 [oP 11 (.move (.t 5)),
 oP 12 (.bin .neq (.t 11) (.c (.int .i64 0)))])
 (.cond (.t 12) (.seq (.region 0 [oP 13 (.move (.t 5)),
 oP 2 (.move (.c (.nils))),
 oP 3 (.move (.t 13))])
 (.ret))
 (.skip)))
 (.seq (.region 0 [oP 14 (.move (.t 4)),
 oQ 15 (.call 0 83 [(.t 14)]),
 oP 2 (.move (.t 15)),
 oP 3 (.move (.c (.int .i64 0)))])
 (.ret))))⟩
/-- almadraba/almadrabaref01.Told -/
def f35 : AFn := ⟨15, [.cell true 4 4],
 .seq (.region 0 [oQ 2 (.box (.t 0)),
 oQ 3 (.box (.t 1)),
 oQ 4 (.alloc [.int .i64 0, .int .i64 0, .nils, .nils])])
 (.seq (.region 0 [oQ 6 (.load true 4 (.t 2)),
 oQ 7 (.call 2 41 [(.t 6)]),
 oQ 5 (.alloc [.int .i64 0, .int .i64 0, .nils, .nils]),
 ⟨none, .store 4 (.t 5) (.t 7), none, none, []⟩])
 (.seq (.region 0 [oP 8 (.fieldAddr 3 (.t 5)),
 oQ 9 (.load false 1 (.t 8)),
 oQ 10 (.load true 4 (.t 3)),
 oQ 11 (.litS 4 1 [.int .i64 0, .int .i64 0, .int .i64 0, .int .i64 0] [(0, (.t 10))]),
 oQ 12 (.append false 4 32 (.t 9) (.t 11)),
 oP 13 (.fieldAddr 3 (.t 5)),
 ⟨none, .store 1 (.t 13) (.t 12), none, none, []⟩])
 (.seq (.region 0 [oQ 14 (.load true 4 (.t 5)),
 ⟨none, .store 4 (.t 4) (.t 14), none, none, []⟩])
 (.ret))))⟩
/-- almadraba/almadrabaref01.IsOne -/
def f36 : AFn := ⟨7, [.tmp 2],
 .seq (.region 0 [oQ 1 (.box (.t 0)),
 oP 2 (.move (.c (.bool false)))])
 (.seq (.region 0 [oQ 3 (.load true 4 (.t 1)),
 oQ 4 (.load true 4 (.t 1)),
 oQ 5 (.call 2 85 [(.t 4)]),
 oQ 6 (.call 0 84 [(.t 3), (.t 5)]),
 oP 2 (.move (.t 6))])
 (.ret))⟩
/-- almadraba/almadrabalaw01.narrower -/
def f37 : AFn := ⟨118, [.tmp 4],
 .seq (.region 0 [oQ 2 (.box (.t 0)),
 oQ 3 (.box (.t 1)),
 oP 4 (.move (.c (.bool false)))])
 (.seq (.region 0 [oQ 20 (.load true 4 (.t 2)),
 oQ 21 (.call 1 20 [(.t 20)]),
 oP 19 (.move (.t 21)),
 oP 22 (.extract (.t 19) 0),
 oP 23 (.extract (.t 19) 1),
 oP 5 (.move (.t 22)),
 oP 6 (.move (.t 23))])
 (.seq (.region 0 [oQ 25 (.load true 4 (.t 3)),
 oQ 26 (.call 1 20 [(.t 25)]),
 oP 24 (.move (.t 26)),
 oP 27 (.extract (.t 24) 0),
 oP 28 (.extract (.t 24) 1),
 oP 7 (.move (.t 27)),
 oP 8 (.move (.t 28))])
 (.seq (.seq (.region 0 [oP 29 (.move (.t 6)),
 oP 30 (.un .not (.t 29)),
 oP 31 (.move (.t 30)),
 oG 32 31 false (.move (.t 8)),
 oG 33 31 false (.un .not (.t 32)),
 oP 34 (.pick (.t 31) (.c (.bool true)) (.t 33))])
 (.cond (.t 34) (.seq (.region 0 [oP 4 (.move (.c (.bool false)))])
 (.ret))
 (.skip)))
 (.seq (.seq (.region 0 [oP 9 (.move (.c (.int .i64 0)))])
 (.block 0 (.loop (.seq (.seq (.region 0 [oP 35 (.move (.t 9)),
 oP 36 (.fieldAddr 1 (.t 2)),
 oQ 37 (.load false 1 (.t 36)),
 oP 38 (.bin .lss (.t 35) (.t 37))])
 (.cond (.t 38) (.skip)
 (.exit 0)))
 (.seq (.block 1 (.seq (.region 0 [oQ 42 (.load true 4 (.t 2)),
 oP 43 (.move (.t 9)),
 oQ 44 (.call 1 23 [(.t 42), (.t 43)]),
 oP 41 (.move (.t 44)),
 oP 45 (.extract (.t 41) 0),
 oP 46 (.extract (.t 41) 1),
 oQ 10 (.alloc [.int .i64 0, .int .i64 0]),
 ⟨none, .store 2 (.t 10) (.t 45), none, none, []⟩,
 oP 11 (.move (.t 46))])
 (.seq (.region 0 [oQ 48 (.load true 4 (.t 3)),
 oP 49 (.move (.t 9)),
 oQ 50 (.call 1 23 [(.t 48), (.t 49)]),
 oP 47 (.move (.t 50)),
 oP 51 (.extract (.t 47) 0),
 oP 52 (.extract (.t 47) 1),
 oQ 12 (.alloc [.int .i64 0, .int .i64 0]),
 ⟨none, .store 2 (.t 12) (.t 51), none, none, []⟩,
 oP 13 (.move (.t 52))])
 (.seq (.seq (.region 0 [oP 53 (.move (.t 11)),
 oP 54 (.bin .neq (.t 53) (.c (.int .i64 0))),
 oP 55 (.move (.t 54)),
 oG 56 55 false (.move (.t 13)),
 oG 57 55 false (.bin .neq (.t 56) (.c (.int .i64 0))),
 oP 58 (.pick (.t 55) (.c (.bool true)) (.t 57)),
 oP 59 (.move (.t 58)),
 ⟨(some 60), .load true 2 (.t 10), (some (59, false)), none, []⟩,
 ⟨(some 61), .load true 2 (.t 12), (some (59, false)), none, []⟩,
 ⟨(some 62), .call 1 42 [(.t 60), (.t 61)], (some (59, false)), none, []⟩,
 oG 63 59 false (.un .not (.t 62)),
 oP 64 (.pick (.t 59) (.c (.bool true)) (.t 63))])
 (.cond (.t 64) (.seq (.region 0 [oP 4 (.move (.c (.bool false)))])
 (.ret))
 (.skip)))
 (.seq (.region 0 [oP 14 (.move (.c (.int .i64 0)))])
 (.block 2 (.loop (.seq (.seq (.region 0 [oP 65 (.move (.t 14)),
 oP 66 (.fieldAddr 0 (.t 2)),
 oQ 67 (.load false 1 (.t 66)),
 oP 68 (.bin .lss (.t 65) (.t 67))])
 (.cond (.t 68) (.skip)
 (.exit 2)))
 (.seq (.block 3 (.seq (.seq (.region 0 [oP 71 (.move (.t 5)),
 oP 72 (.move (.t 9)),
 oP 73 (.idxSl 1 (.t 71) (.t 72)),
 oQ 74 (.load false 1 (.t 73)),
 oP 75 (.move (.t 14)),
 oP 76 (.idxSl 2 (.t 74) (.t 75)),
 oQ 77 (.load true 2 (.t 76)),
 oP 78 (.move (.t 7)),
 oP 79 (.move (.t 9)),
 oP 80 (.idxSl 1 (.t 78) (.t 79)),
 oQ 81 (.load false 1 (.t 80)),
 oP 82 (.move (.t 14)),
 oP 83 (.idxSl 2 (.t 81) (.t 82)),
 oQ 84 (.load true 2 (.t 83)),
 oQ 85 (.call 1 42 [(.t 77), (.t 84)]),
 oP 86 (.un .not (.t 85))])
 (.cond (.t 86) (.seq (.region 0 [oP 4 (.move (.c (.bool false)))])
 (.ret))
 (.skip)))
 (.seq (.seq (.region 0 [oP 87 (.move (.t 9)),
 oP 88 (.bin .add (.t 87) (.c (.int .i64 1))),
 oP 89 (.fieldAddr 1 (.t 2)),
 oQ 90 (.load false 1 (.t 89)),
 oP 91 (.bin .eql (.t 88) (.t 90))])
 (.cond (.t 91) (.exit 3)
 (.skip)))
 (.seq (.region 0 [oQ 93 (.load true 4 (.t 2)),
 oP 94 (.move (.t 9)),
 oP 95 (.move (.t 14)),
 oQ 96 (.call 1 27 [(.t 93), (.t 94), (.t 95)]),
 oP 92 (.move (.t 96)),
 oP 97 (.extract (.t 92) 0),
 oP 98 (.extract (.t 92) 1),
 oQ 15 (.alloc [.int .i64 0, .int .i64 0]),
 ⟨none, .store 2 (.t 15) (.t 97), none, none, []⟩,
 oP 16 (.move (.t 98))])
 (.seq (.region 0 [oQ 100 (.load true 4 (.t 3)),
 oP 101 (.move (.t 9)),
 oP 102 (.move (.t 14)),
 oQ 103 (.call 1 27 [(.t 100), (.t 101), (.t 102)]),
 oP 99 (.move (.t 103)),
 oP 104 (.extract (.t 99) 0),
 oP 105 (.extract (.t 99) 1),
 oQ 17 (.alloc [.int .i64 0, .int .i64 0]),
 ⟨none, .store 2 (.t 17) (.t 104), none, none, []⟩,
 oP 18 (.move (.t 105))])
 (.seq (.region 0 [oP 106 (.move (.t 16)),
 oP 107 (.bin .neq (.t 106) (.c (.int .i64 0))),
 oP 108 (.move (.t 107)),
 oG 109 108 false (.move (.t 18)),
 oG 110 108 false (.bin .neq (.t 109) (.c (.int .i64 0))),
 oP 111 (.pick (.t 108) (.c (.bool true)) (.t 110)),
 oP 112 (.move (.t 111)),
 ⟨(some 113), .load true 2 (.t 15), (some (112, false)), none, []⟩,
 ⟨(some 114), .load true 2 (.t 17), (some (112, false)), none, []⟩,
 ⟨(some 115), .call 1 42 [(.t 113), (.t 114)], (some (112, false)), none, []⟩,
 oG 116 112 false (.un .not (.t 115)),
 oP 117 (.pick (.t 112) (.c (.bool true)) (.t 116))])
 (.cond (.t 117) (.seq (.region 0 [oP 4 (.move (.c (.bool false)))])
 (.ret))
 (.skip))))))))
 (.region 0 [oP 69 (.move (.t 14)),
 oP 70 (.bin .add (.t 69) (.c (.int .i64 1))),
 oP 14 (.move (.t 70))]))))))))))
 (.region 0 [oP 39 (.move (.t 9)),
 oP 40 (.bin .add (.t 39) (.c (.int .i64 1))),
 oP 9 (.move (.t 40))]))))))
 (.seq (.region 0 [oP 4 (.move (.c (.bool true)))])
 (.ret))))))⟩
/-- almadraba/almadrabaref01.IsChamber -/
def f39 : AFn := ⟨10, [.tmp 4],
 .seq (.region 0 [oQ 2 (.box (.t 0)),
 oP 4 (.move (.c (.bool false)))])
 (.seq (.region 0 [oP 5 (.move (.t 1)),
 oP 6 (.fieldAddr 0 (.t 2)),
 oQ 7 (.load false 1 (.t 6)),
 oP 8 (.bin .sub (.t 7) (.c (.int .i64 1))),
 oQ 9 (.call 1 30 [(.t 5), (.c (.int .i64 0)), (.t 8)]),
 oP 4 (.move (.t 9))])
 (.ret))⟩
/-- almadraba/almadrabaref01.In -/
def f40 : AFn := ⟨18, [.tmp 4],
 .seq (.region 0 [oP 4 (.move (.c (.bool false)))])
 (.seq (.seq (.region 0 [oP 5 (.move (.c (.int .i64 0)))])
 (.block 0 (.loop (.seq (.seq (.region 0 [oP 6 (.move (.t 5)),
 oP 7 (.move (.t 0)),
 oP 8 (.lenS (.t 7)),
 oP 9 (.bin .lss (.t 6) (.t 8))])
 (.cond (.t 9) (.skip)
 (.exit 0)))
 (.seq (.block 1 (.seq (.region 0 [oP 12 (.move (.t 0)),
 oP 13 (.move (.t 5)),
 oP 14 (.idxSl 1 (.t 12) (.t 13)),
 oQ 15 (.load false 1 (.t 14)),
 oP 16 (.move (.t 1)),
 oP 17 (.bin .eql (.t 15) (.t 16))])
 (.cond (.t 17) (.seq (.region 0 [oP 4 (.move (.c (.bool true)))])
 (.ret))
 (.skip))))
 (.region 0 [oP 10 (.move (.t 5)),
 oP 11 (.bin .add (.t 10) (.c (.int .i64 1))),
 oP 5 (.move (.t 11))]))))))
 (.seq (.region 0 [oP 4 (.move (.c (.bool false)))])
 (.ret)))⟩
/-- almadraba/almadrabaref01.Copy -/
def f41 : AFn := ⟨34, [.cell true 4 2],
 .seq (.region 0 [oQ 1 (.box (.t 0)),
 oQ 2 (.alloc [.int .i64 0, .int .i64 0, .nils, .nils])])
 (.seq (.region 3 [oP 5 (.fieldAddr 0 (.t 1)),
 ⟨(some 6), .load false 1 (.t 5), none, none, [0, 1, 2]⟩,
 oP 7 (.fieldAddr 1 (.t 1)),
 ⟨(some 8), .load false 1 (.t 7), none, none, [0, 1, 2]⟩,
 ⟨(some 9), .buildSlice 4 0 [.int .i64 0, .int .i64 0, .int .i64 0, .int .i64 0] [], none, (some 0), []⟩,
 oP 10 (.fieldAddr 3 (.t 1)),
 ⟨(some 11), .load false 1 (.t 10), none, none, [0, 1, 2]⟩,
 ⟨(some 12), .append true 4 32 (.t 9) (.t 11), none, (some 1), [2]⟩,
 oP 13 (.build [.int .i64 0, .int .i64 0, .nils, .nils] [(0, 1, (.t 6)), (1, 1, (.t 8)), (3, 1, (.t 12))]),
 ⟨(some 3), .alloc [.int .i64 0, .int .i64 0, .nils, .nils], none, (some 2), []⟩,
 ⟨none, .store 4 (.t 3) (.t 13), none, (some 2), []⟩])
 (.seq (.seq (.region 0 [oP 4 (.move (.c (.int .i64 0)))])
 (.block 0 (.loop (.seq (.seq (.region 0 [oP 14 (.move (.t 4)),
 oP 15 (.fieldAddr 2 (.t 1)),
 oQ 16 (.load false 1 (.t 15)),
 oP 17 (.lenS (.t 16)),
 oP 18 (.bin .lss (.t 14) (.t 17))])
 (.cond (.t 18) (.skip)
 (.exit 0)))
 (.seq (.block 1 (.region 4 [oP 21 (.fieldAddr 2 (.t 3)),
 ⟨(some 22), .load false 1 (.t 21), none, none, [0, 1, 2, 3]⟩,
 ⟨(some 23), .buildSlice 1 0 [.int .i64 0] [], none, (some 0), []⟩,
 oP 24 (.fieldAddr 2 (.t 1)),
 ⟨(some 25), .load false 1 (.t 24), none, none, [0, 1, 2, 3]⟩,
 oP 26 (.move (.t 4)),
 oP 27 (.idxSl 1 (.t 25) (.t 26)),
 ⟨(some 28), .load false 1 (.t 27), none, none, [0, 1, 2, 3]⟩,
 ⟨(some 29), .append true 1 8 (.t 23) (.t 28), none, (some 1), [2, 3]⟩,
 ⟨(some 30), .buildSlice 1 1 [.nils] [(0, (.t 29))], none, (some 2), []⟩,
 ⟨(some 31), .append false 1 24 (.t 22) (.t 30), none, (some 3), []⟩,
 oP 32 (.fieldAddr 2 (.t 3)),
 ⟨none, .store 1 (.t 32) (.t 31), none, none, []⟩]))
 (.region 0 [oP 19 (.move (.t 4)),
 oP 20 (.bin .add (.t 19) (.c (.int .i64 1))),
 oP 4 (.move (.t 20))]))))))
 (.seq (.region 0 [oQ 33 (.load true 4 (.t 3)),
 ⟨none, .store 4 (.t 2) (.t 33), none, none, []⟩])
 (.ret))))⟩
/-- almadraba/almadrabalaw01.inside -/
def f42 : AFn := ⟨24, [.tmp 4],
 .seq (.region 0 [oQ 2 (.box (.t 0)),
 oQ 3 (.box (.t 1)),
 oP 4 (.move (.c (.bool false)))])
 (.seq (.region 0 [oP 5 (.fieldAddr 0 (.t 3)),
 oQ 6 (.load false 1 (.t 5)),
 oP 7 (.fieldAddr 0 (.t 2)),
 oQ 8 (.load false 1 (.t 7)),
 oP 9 (.bin .leq (.t 6) (.t 8)),
 oP 10 (.move (.t 9)),
 oG 11 10 true (.fieldAddr 0 (.t 2)),
 ⟨(some 12), .load false 1 (.t 11), (some (10, true)), none, []⟩,
 oG 13 10 true (.fieldAddr 1 (.t 2)),
 ⟨(some 14), .load false 1 (.t 13), (some (10, true)), none, []⟩,
 oG 15 10 true (.bin .leq (.t 12) (.t 14)),
 oP 16 (.pick (.t 10) (.t 15) (.c (.bool false))),
 oP 17 (.move (.t 16)),
 oG 18 17 true (.fieldAddr 1 (.t 2)),
 ⟨(some 19), .load false 1 (.t 18), (some (17, true)), none, []⟩,
 oG 20 17 true (.fieldAddr 1 (.t 3)),
 ⟨(some 21), .load false 1 (.t 20), (some (17, true)), none, []⟩,
 oG 22 17 true (.bin .leq (.t 19) (.t 21)),
 oP 23 (.pick (.t 17) (.t 22) (.c (.bool false))),
 oP 4 (.move (.t 23))])
 (.ret))⟩
/-- almadraba/counts.Enough -/
def f44 : AFn := ⟨28, [.cell true 2 4, .tmp 5],
 .seq (.region 0 [oQ 2 (.box (.t 0)),
 oQ 4 (.alloc [.int .i64 0, .int .i64 0]),
 oP 5 (.move (.c (.int .i64 0)))])
 (.seq (.region 0 [oQ 9 (.load true 4 (.t 2)),
 oP 10 (.move (.t 1)),
 oP 11 (.bin .leq (.c (.int .i64 1)) (.t 10)),
 oP 12 (.move (.t 11)),
 oG 13 12 true (.move (.t 1)),
 oG 14 12 true (.bin .leq (.t 13) (.c (.int .i64 40))),
 oP 15 (.pick (.t 12) (.t 14) (.c (.bool false))),
 oQ 16 (.call 2 73 [(.t 9), (.t 15)]),
 oP 8 (.move (.t 16)),
 oP 17 (.extract (.t 8) 0),
 oP 18 (.extract (.t 8) 1),
 oP 6 (.move (.t 17)),
 oP 7 (.move (.t 18))])
 (.seq (.seq (.region 0 [oP 19 (.move (.t 7)),
 oP 20 (.bin .neq (.t 19) (.c (.int .i64 0)))])
 (.cond (.t 20) (.seq (.region 0 [oP 21 (.build [.int .i64 0, .int .i64 0] []),
 oP 22 (.move (.t 7)),
 ⟨none, .store 2 (.t 4) (.t 21), none, none, []⟩,
 oP 5 (.move (.t 22))])
 (.ret))
 (.skip)))
 (.seq (.region 0 [oP 23 (.move (.t 6)),
 oP 24 (.move (.t 1)),
 oQ 25 (.call 3 86 [(.t 23), (.t 24)]),
 oP 26 (.extract (.t 25) 0),
 oP 27 (.extract (.t 25) 1),
 ⟨none, .store 2 (.t 4) (.t 26), none, none, []⟩,
 oP 5 (.move (.t 27))])
 (.ret))))⟩
/-- almadraba/almadrabaref01.IsTime -/
def f45 : AFn := ⟨10, [.tmp 4],
 .seq (.region 0 [oQ 2 (.box (.t 0)),
 oP 4 (.move (.c (.bool false)))])
 (.seq (.region 0 [oP 5 (.move (.t 1)),
 oP 6 (.fieldAddr 1 (.t 2)),
 oQ 7 (.load false 1 (.t 6)),
 oP 8 (.bin .sub (.t 7) (.c (.int .i64 1))),
 oQ 9 (.call 1 30 [(.t 5), (.c (.int .i64 0)), (.t 8)]),
 oP 4 (.move (.t 9))])
 (.ret))⟩
/-- almadraba/counts.Tell -/
def f48 : AFn := ⟨25, [.tmp 4, .tmp 5],
 .seq (.region 0 [oQ 2 (.box (.t 0)),
 oQ 3 (.box (.t 1)),
 oP 4 (.move (.c (.int .i64 0))),
 oP 5 (.move (.c (.int .i64 0)))])
 (.seq (.region 0 [oQ 9 (.load true 4 (.t 2)),
 oQ 10 (.load true 4 (.t 2)),
 oP 11 (.fieldAddr 0 (.t 3)),
 oQ 12 (.load false 1 (.t 11)),
 oP 13 (.fieldAddr 1 (.t 3)),
 oQ 14 (.load false 1 (.t 13)),
 oQ 15 (.call 1 81 [(.t 10), (.t 12), (.t 14)]),
 oQ 16 (.call 2 73 [(.t 9), (.t 15)]),
 oP 8 (.move (.t 16)),
 oP 17 (.extract (.t 8) 0),
 oP 18 (.extract (.t 8) 1),
 oP 6 (.move (.t 17)),
 oP 7 (.move (.t 18))])
 (.seq (.seq (.region 0 [oP 19 (.move (.t 7)),
 oP 20 (.bin .neq (.t 19) (.c (.int .i64 0)))])
 (.cond (.t 20) (.seq (.region 0 [oP 21 (.move (.t 7)),
 oP 4 (.move (.c (.int .i64 0))),
 oP 5 (.move (.t 21))])
 (.ret))
 (.skip)))
 (.seq (.region 0 [oP 22 (.move (.t 6)),
 oQ 23 (.load true 2 (.t 3)),
 oQ 24 (.call 3 87 [(.t 22), (.t 23)]),
 oP 4 (.move (.t 24)),
 oP 5 (.move (.c (.int .i64 0)))])
 (.ret))))⟩
/-- almadraba/almadrabaref01.Rising -/
def f52 : AFn := ⟨38, [.tmp 6],
 .seq (.region 0 [oP 6 (.move (.c (.bool false)))])
 (.seq (.seq (.region 0 [oP 7 (.move (.c (.int .i64 0)))])
 (.block 0 (.loop (.seq (.seq (.region 0 [oP 8 (.move (.t 7)),
 oP 9 (.move (.t 0)),
 oP 10 (.lenS (.t 9)),
 oP 11 (.bin .lss (.t 8) (.t 10))])
 (.cond (.t 11) (.skip)
 (.exit 0)))
 (.seq (.block 1 (.seq (.region 0 [oP 14 (.move (.t 0)),
 oP 15 (.move (.t 7)),
 oP 16 (.idxSl 1 (.t 14) (.t 15)),
 oQ 17 (.load false 1 (.t 16)),
 oP 18 (.move (.t 1)),
 oP 19 (.move (.t 2)),
 oQ 20 (.call 1 30 [(.t 17), (.t 18), (.t 19)]),
 oP 21 (.un .not (.t 20)),
 oP 22 (.move (.t 21)),
 oG 23 22 false (.move (.t 7)),
 oG 24 22 false (.bin .gtr (.t 23) (.c (.int .i64 0))),
 oG 25 22 false (.move (.t 24)),
 oG 26 25 true (.move (.t 0)),
 oG 27 25 true (.move (.t 7)),
 oG 28 25 true (.idxSl 1 (.t 26) (.t 27)),
 ⟨(some 29), .load false 1 (.t 28), (some (25, true)), none, []⟩,
 oG 30 25 true (.move (.t 0)),
 oG 31 25 true (.move (.t 7)),
 oG 32 25 true (.bin .sub (.t 31) (.c (.int .i64 1))),
 oG 33 25 true (.idxSl 1 (.t 30) (.t 32)),
 ⟨(some 34), .load false 1 (.t 33), (some (25, true)), none, []⟩,
 oG 35 25 true (.bin .leq (.t 29) (.t 34)),
 oG 36 22 false (.pick (.t 25) (.t 35) (.c (.bool false))),
 oP 37 (.pick (.t 22) (.c (.bool true)) (.t 36))])
 (.cond (.t 37) (.seq (.region 0 [oP 6 (.move (.c (.bool false)))])
 (.ret))
 (.skip))))
 (.region 0 [oP 12 (.move (.t 7)),
 oP 13 (.bin .add (.t 12) (.c (.int .i64 1))),
 oP 7 (.move (.t 13))]))))))
 (.seq (.region 0 [oP 6 (.move (.c (.bool true)))])
 (.ret)))⟩
/-- almadraba/almadrabalaw01.Huge -/
def f53 : AFn := ⟨12, [.tmp 2],
 .seq (.region 0 [oQ 1 (.box (.t 0)),
 oP 2 (.move (.c (.bool false)))])
 (.seq (.region 0 [oP 3 (.fieldAddr 2 (.t 1)),
 oQ 4 (.load false 1 (.t 3)),
 oQ 5 (.call 1 17 [(.t 4)]),
 oP 6 (.move (.t 5)),
 oG 7 6 false (.fieldAddr 3 (.t 1)),
 ⟨(some 8), .load false 1 (.t 7), (some (6, false)), none, []⟩,
 oG 9 6 false (.lenS (.t 8)),
 oG 10 6 false (.bin .gtr (.t 9) (.c (.int .i64 40))),
 oP 11 (.pick (.t 6) (.c (.bool true)) (.t 10)),
 oP 2 (.move (.t 11))])
 (.ret))⟩
/-- almadraba/counts.Check -/
def f54 : AFn := ⟨6, [.tmp 2],
 .seq (.region 0 [oQ 1 (.box (.t 0)),
 oP 2 (.move (.c (.int .i64 0)))])
 (.seq (.seq (.region 0 [oQ 3 (.load true 4 (.t 1)),
 oQ 4 (.call 1 91 [(.t 3)]),
 oP 5 (.un .not (.t 4))])
 (.cond (.t 5) (.seq (.region 0 [oP 2 (.move (.c (.int .i64 10)))])
 (.ret))
 (.skip)))
 (.seq (.region 0 [oP 2 (.move (.c (.int .i64 0)))])
 (.ret)))⟩
/-- almadraba/almadrabaref01.Check -/
def f55 : AFn := ⟨62, [.tmp 2],
 .seq (.region 0 [oQ 1 (.box (.t 0)),
 oP 2 (.move (.c (.int .i64 0)))])
 (.seq (.seq (.region 0 [oP 5 (.fieldAddr 0 (.t 1)),
 oQ 6 (.load false 1 (.t 5)),
 oQ 7 (.call 1 30 [(.t 6), (.c (.int .i64 1)), (.c (.int .i64 4))]),
 oP 8 (.un .not (.t 7)),
 oP 9 (.move (.t 8)),
 oG 10 9 false (.fieldAddr 1 (.t 1)),
 ⟨(some 11), .load false 1 (.t 10), (some (9, false)), none, []⟩,
 ⟨(some 12), .call 1 30 [(.t 11), (.c (.int .i64 1)), (.c (.int .i64 5))], (some (9, false)), none, []⟩,
 oG 13 9 false (.un .not (.t 12)),
 oP 14 (.pick (.t 9) (.c (.bool true)) (.t 13)),
 oP 15 (.move (.t 14)),
 oG 16 15 false (.fieldAddr 2 (.t 1)),
 ⟨(some 17), .load false 1 (.t 16), (some (15, false)), none, []⟩,
 oG 18 15 false (.lenS (.t 17)),
 oG 19 15 false (.fieldAddr 1 (.t 1)),
 ⟨(some 20), .load false 1 (.t 19), (some (15, false)), none, []⟩,
 oG 21 15 false (.bin .sub (.t 20) (.c (.int .i64 1))),
 oG 22 15 false (.bin .neq (.t 18) (.t 21)),
 oP 23 (.pick (.t 15) (.c (.bool true)) (.t 22)),
 oP 24 (.move (.t 23)),
 oG 25 24 false (.fieldAddr 3 (.t 1)),
 ⟨(some 26), .load false 1 (.t 25), (some (24, false)), none, []⟩,
 oG 27 24 false (.lenS (.t 26)),
 oG 28 24 false (.bin .gtr (.t 27) (.c (.int .i64 8))),
 oP 29 (.pick (.t 24) (.c (.bool true)) (.t 28))])
 (.cond (.t 29) (.seq (.region 0 [oP 2 (.move (.c (.int .i64 10)))])
 (.ret))
 (.skip)))
 (.seq (.seq (.region 0 [oP 3 (.move (.c (.int .i64 0)))])
 (.block 0 (.loop (.seq (.seq (.region 0 [oP 30 (.move (.t 3)),
 oP 31 (.fieldAddr 2 (.t 1)),
 oQ 32 (.load false 1 (.t 31)),
 oP 33 (.lenS (.t 32)),
 oP 34 (.bin .lss (.t 30) (.t 33))])
 (.cond (.t 34) (.skip)
 (.exit 0)))
 (.seq (.block 1 (.seq (.region 0 [oP 37 (.fieldAddr 2 (.t 1)),
 oQ 38 (.load false 1 (.t 37)),
 oP 39 (.move (.t 3)),
 oP 40 (.idxSl 1 (.t 38) (.t 39)),
 oQ 41 (.load false 1 (.t 40)),
 oP 42 (.fieldAddr 0 (.t 1)),
 oQ 43 (.load false 1 (.t 42)),
 oP 44 (.bin .sub (.t 43) (.c (.int .i64 1))),
 oQ 45 (.call 1 52 [(.t 41), (.c (.int .i64 0)), (.t 44)]),
 oP 46 (.un .not (.t 45))])
 (.cond (.t 46) (.seq (.region 0 [oP 2 (.move (.c (.int .i64 10)))])
 (.ret))
 (.skip))))
 (.region 0 [oP 35 (.move (.t 3)),
 oP 36 (.bin .add (.t 35) (.c (.int .i64 1))),
 oP 3 (.move (.t 36))]))))))
 (.seq (.seq (.region 0 [oP 4 (.move (.c (.int .i64 0)))])
 (.block 2 (.loop (.seq (.seq (.region 0 [oP 47 (.move (.t 4)),
 oP 48 (.fieldAddr 3 (.t 1)),
 oQ 49 (.load false 1 (.t 48)),
 oP 50 (.lenS (.t 49)),
 oP 51 (.bin .lss (.t 47) (.t 50))])
 (.cond (.t 51) (.skip)
 (.exit 2)))
 (.seq (.block 3 (.seq (.region 0 [oQ 54 (.load true 4 (.t 1)),
 oP 55 (.fieldAddr 3 (.t 1)),
 oQ 56 (.load false 1 (.t 55)),
 oP 57 (.move (.t 4)),
 oP 58 (.idxSl 4 (.t 56) (.t 57)),
 oQ 59 (.load true 4 (.t 58)),
 oQ 60 (.call 1 28 [(.t 54), (.t 59)]),
 oP 61 (.un .not (.t 60))])
 (.cond (.t 61) (.seq (.region 0 [oP 2 (.move (.c (.int .i64 10)))])
 (.ret))
 (.skip))))
 (.region 0 [oP 52 (.move (.t 4)),
 oP 53 (.bin .add (.t 52) (.c (.int .i64 1))),
 oP 4 (.move (.t 53))]))))))
 (.seq (.region 0 [oP 2 (.move (.c (.int .i64 0)))])
 (.ret)))))⟩
/-- almadraba/almadrabalaw01.Example -/
def f70 : AFn := ⟨15, [.cell true 4 0, .cell true 4 1],
 .seq (.region 0 [oQ 0 (.alloc [.int .i64 0, .int .i64 0, .nils, .nils]),
 oQ 1 (.alloc [.int .i64 0, .int .i64 0, .nils, .nils])])
 (.seq (.region 0 [oQ 2 (.litS 1 2 [.int .i64 0] [(0, (.c (.int .i64 0))), (1, (.c (.int .i64 1)))]),
 oQ 3 (.litS 1 1 [.int .i64 0] [(0, (.c (.int .i64 1)))]),
 oQ 4 (.litS 1 2 [.nils] [(0, (.t 2)), (1, (.t 3))]),
 oQ 5 (.call 1 71 [(.c (.int .i64 0)), (.c (.int .i64 0)), (.c (.int .i64 5)), (.c (.int .i64 6))]),
 oQ 6 (.call 1 71 [(.c (.int .i64 0)), (.c (.int .i64 1)), (.c (.int .i64 0)), (.c (.int .i64 0))]),
 oQ 7 (.call 1 71 [(.c (.int .i64 1)), (.c (.int .i64 0)), (.c (.int .i64 3)), (.c (.int .i64 8))]),
 oQ 8 (.call 1 71 [(.c (.int .i64 2)), (.c (.int .i64 1)), (.c (.int .i64 4)), (.c (.int .i64 10))]),
 oQ 9 (.litS 4 4 [.int .i64 0, .int .i64 0, .int .i64 0, .int .i64 0] [(0, (.t 5)), (1, (.t 6)), (2, (.t 7)), (3, (.t 8))]),
 oP 10 (.build [.int .i64 0, .int .i64 0, .nils, .nils] [(0, 1, (.c (.int .i64 2))), (1, 1, (.c (.int .i64 3))), (2, 1, (.t 4)), (3, 1, (.t 9))]),
 ⟨none, .store 4 (.t 0) (.t 10), none, none, []⟩])
 (.seq (.region 0 [oQ 11 (.load true 4 (.t 0)),
 oQ 12 (.load true 4 (.t 0)),
 oQ 13 (.call 1 71 [(.c (.int .i64 1)), (.c (.int .i64 1)), (.c (.int .i64 12)), (.c (.int .i64 20))]),
 oQ 14 (.call 1 35 [(.t 12), (.t 13)]),
 ⟨none, .store 4 (.t 0) (.t 11), none, none, []⟩,
 ⟨none, .store 4 (.t 1) (.t 14), none, none, []⟩])
 (.ret)))⟩
/-- almadraba/almadrabalaw01.word -/
def f71 : AFn := ⟨14, [.cell true 4 8],
 .seq (.region 0 [oQ 8 (.alloc [.int .i64 0, .int .i64 0, .int .i64 0, .int .i64 0])])
 (.seq (.region 0 [oP 9 (.move (.t 0)),
 oP 10 (.move (.t 1)),
 oP 11 (.move (.t 2)),
 oP 12 (.move (.t 3)),
 oP 13 (.build [.int .i64 0, .int .i64 0, .int .i64 0, .int .i64 0] [(0, 1, (.t 9)), (1, 1, (.t 10)), (2, 1, (.t 11)), (3, 1, (.t 12))]),
 ⟨none, .store 4 (.t 8) (.t 13), none, none, []⟩])
 (.ret))⟩
/-- almadraba/counts.start -/
def f73 : AFn := ⟨24, [.tmp 4, .tmp 5],
 .seq (.region 0 [oQ 2 (.box (.t 0)),
 oP 4 (.move (.c (.nilp))),
 oP 5 (.move (.c (.int .i64 0)))])
 (.seq (.seq (.region 0 [oQ 9 (.load true 4 (.t 2)),
 oQ 10 (.call 1 54 [(.t 9)]),
 oP 6 (.move (.t 10))])
 (.seq (.region 0 [oP 11 (.move (.t 6)),
 oP 12 (.bin .neq (.t 11) (.c (.int .i64 0)))])
 (.cond (.t 12) (.seq (.region 0 [oP 13 (.move (.t 6)),
 oP 4 (.move (.c (.nilp))),
 oP 5 (.move (.t 13))])
 (.ret))
 (.skip))))
 (.seq (.seq (.region 0 [oP 14 (.move (.t 1)),
 oP 15 (.un .not (.t 14))])
 (.cond (.t 15) (.seq (.region 0 [oP 4 (.move (.c (.nilp))),
 oP 5 (.move (.c (.int .i64 1)))])
 (.ret))
 (.skip)))
 (.seq (.region 0 [oQ 17 (.load true 4 (.t 2)),
 oQ 18 (.call 2 90 [(.t 17)]),
 oP 16 (.move (.t 18)),
 oP 19 (.extract (.t 16) 0),
 oP 20 (.extract (.t 16) 1),
 oP 7 (.move (.t 19)),
 oP 8 (.move (.t 20))])
 (.seq (.seq (.region 0 [oP 21 (.move (.t 8)),
 oP 22 (.un .not (.t 21))])
 (.cond (.t 22) (.seq (.region 0 [oP 4 (.move (.c (.nilp))),
 oP 5 (.move (.c (.int .i64 3)))])
 (.ret))
 (.skip)))
 (.seq (.region 0 [oP 23 (.move (.t 7)),
 oP 4 (.move (.t 23)),
 oP 5 (.move (.c (.int .i64 0)))])
 (.ret))))))⟩
/-- almadraba/counts.isTime -/
def f74 : AFn := ⟨13, [.tmp 4],
 .seq (.region 0 [oQ 2 (.box (.t 0)),
 oP 4 (.move (.c (.bool false)))])
 (.seq (.region 0 [oP 5 (.move (.t 1)),
 oP 6 (.bin .leq (.c (.int .i64 0)) (.t 5)),
 oP 7 (.move (.t 6)),
 oG 8 7 true (.move (.t 1)),
 oG 9 7 true (.fieldAddr 1 (.t 2)),
 ⟨(some 10), .load false 1 (.t 9), (some (7, true)), none, []⟩,
 oG 11 7 true (.bin .lss (.t 8) (.t 10)),
 oP 12 (.pick (.t 7) (.t 11) (.c (.bool false))),
 oP 4 (.move (.t 12))])
 (.ret))⟩
/-- (*almadraba/counts.bounds).between -/
def f75 : AFn := ⟨23, [.cell true 2 6],
 .seq (.region 0 [oQ 6 (.alloc [.int .i64 0, .int .i64 0])])
 (.seq (.region 0 [oP 7 (.move (.t 0)),
 oP 8 (.move (.t 2)),
 oP 9 (.move (.t 1)),
 oP 10 (.nilCheck (.t 7)),
 oP 11 (.idxArr 21 21 (.t 10) (.t 8)),
 oP 12 (.idxArr 21 1 (.t 11) (.t 9)),
 oQ 13 (.load false 1 (.t 12)),
 oP 14 (.un .neg (.t 13)),
 oP 15 (.move (.t 0)),
 oP 16 (.move (.t 1)),
 oP 17 (.move (.t 2)),
 oP 18 (.nilCheck (.t 15)),
 oP 19 (.idxArr 21 21 (.t 18) (.t 16)),
 oP 20 (.idxArr 21 1 (.t 19) (.t 17)),
 oQ 21 (.load false 1 (.t 20)),
 oP 22 (.build [.int .i64 0, .int .i64 0] [(0, 1, (.t 14)), (1, 1, (.t 21))]),
 ⟨none, .store 2 (.t 6) (.t 22), none, none, []⟩])
 (.ret))⟩
/-- (*almadraba/counts.trap).sum -/
def f76 : AFn := ⟨19, [.tmp 6],
 .seq (.region 0 [oP 6 (.move (.c (.int .i64 0)))])
 (.seq (.seq (.region 0 [oP 7 (.move (.t 2)),
 oP 8 (.move (.t 0)),
 oP 9 (.nilCheck (.t 8)),
 oP 10 (.fieldAddr 0 (.t 9)),
 oP 11 (.fieldAddr 0 (.t 10)),
 oQ 12 (.load false 1 (.t 11)),
 oP 13 (.bin .eql (.t 7) (.t 12))])
 (.cond (.t 13) (.seq (.region 0 [oP 6 (.move (.c (.int .i64 0)))])
 (.ret))
 (.skip)))
 (.seq (.region 0 [oP 14 (.move (.t 1)),
 oP 15 (.bin .mul (.t 14) (.c (.int .i64 4))),
 oP 16 (.bin .add (.c (.int .i64 1)) (.t 15)),
 oP 17 (.move (.t 2)),
 oP 18 (.bin .add (.t 16) (.t 17)),
 oP 6 (.move (.t 18))])
 (.ret)))⟩
/-- (*almadraba/counts.trap).passed -/
def f77 : AFn := ⟨21, [.cell true 2 8],
 .seq (.region 0 [oQ 8 (.alloc [.int .i64 0, .int .i64 0])])
 (.seq (.region 0 [oP 9 (.move (.t 0)),
 oP 10 (.nilCheck (.t 9)),
 oP 11 (.fieldAddr 4 (.t 10)),
 oP 12 (.move (.t 0)),
 oP 13 (.move (.t 3)),
 oP 14 (.move (.t 1)),
 oQ 15 (.call 3 76 [(.t 12), (.t 13), (.t 14)]),
 oP 16 (.move (.t 0)),
 oP 17 (.move (.t 2)),
 oP 18 (.move (.t 1)),
 oQ 19 (.call 3 76 [(.t 16), (.t 17), (.t 18)]),
 oQ 20 (.call 3 75 [(.t 11), (.t 15), (.t 19)]),
 ⟨none, .store 2 (.t 8) (.t 20), none, none, []⟩])
 (.ret))⟩
/-- almadraba/counts.fits -/
def f79 : AFn := ⟨28, [.tmp 4],
 .seq (.region 0 [oQ 2 (.box (.t 0)),
 oQ 3 (.box (.t 1)),
 oP 4 (.move (.c (.bool false)))])
 (.seq (.region 0 [oQ 5 (.load true 4 (.t 2)),
 oP 6 (.fieldAddr 0 (.t 3)),
 oQ 7 (.load false 1 (.t 6)),
 oP 8 (.fieldAddr 1 (.t 3)),
 oQ 9 (.load false 1 (.t 8)),
 oQ 10 (.call 1 81 [(.t 5), (.t 7), (.t 9)]),
 oP 11 (.move (.t 10)),
 oG 12 11 true (.fieldAddr 2 (.t 3)),
 ⟨(some 13), .load false 1 (.t 12), (some (11, true)), none, []⟩,
 oG 14 11 true (.bin .leq (.c (.int .i64 0)) (.t 13)),
 oP 15 (.pick (.t 11) (.t 14) (.c (.bool false))),
 oP 16 (.move (.t 15)),
 oG 17 16 true (.fieldAddr 2 (.t 3)),
 ⟨(some 18), .load false 1 (.t 17), (some (16, true)), none, []⟩,
 oG 19 16 true (.fieldAddr 3 (.t 3)),
 ⟨(some 20), .load false 1 (.t 19), (some (16, true)), none, []⟩,
 oG 21 16 true (.bin .leq (.t 18) (.t 20)),
 oP 22 (.pick (.t 16) (.t 21) (.c (.bool false))),
 oP 23 (.move (.t 22)),
 oG 24 23 true (.fieldAddr 3 (.t 3)),
 ⟨(some 25), .load false 1 (.t 24), (some (23, true)), none, []⟩,
 oG 26 23 true (.bin .leq (.t 25) (.c (.int .i64 40))),
 oP 27 (.pick (.t 23) (.t 26) (.c (.bool false))),
 oP 4 (.move (.t 27))])
 (.ret))⟩
/-- (*almadraba/counts.trap).judge -/
def f80 : AFn := ⟨39, [.tmp 4],
 .seq (.region 0 [oQ 3 (.box (.t 1)),
 oP 4 (.move (.c (.int .i64 0)))])
 (.seq (.region 0 [oP 6 (.move (.t 0)),
 oP 7 (.fieldAddr 0 (.t 3)),
 oQ 8 (.load false 1 (.t 7)),
 oP 9 (.fieldAddr 1 (.t 3)),
 oQ 10 (.load false 1 (.t 9)),
 oP 11 (.build [.int .i64 0, .int .i64 0] [(0, 1, (.t 8)), (1, 1, (.t 10))]),
 oQ 12 (.call 3 82 [(.t 6), (.t 11)]),
 oQ 5 (.alloc [.int .i64 0, .int .i64 0]),
 ⟨none, .store 2 (.t 5) (.t 12), none, none, []⟩])
 (.seq (.block 0 (.seq (.region 0 [oP 14 (.fieldAddr 2 (.t 3)),
 oQ 15 (.load false 1 (.t 14)),
 oP 16 (.fieldAddr 0 (.t 5)),
 oQ 17 (.load false 1 (.t 16)),
 oP 18 (.bin .leq (.t 15) (.t 17)),
 oP 19 (.move (.t 18)),
 oG 20 19 true (.fieldAddr 1 (.t 5)),
 ⟨(some 21), .load false 1 (.t 20), (some (19, true)), none, []⟩,
 oG 22 19 true (.fieldAddr 3 (.t 3)),
 ⟨(some 23), .load false 1 (.t 22), (some (19, true)), none, []⟩,
 oG 24 19 true (.bin .leq (.t 21) (.t 23)),
 oP 25 (.pick (.t 19) (.t 24) (.c (.bool false))),
 oP 13 (.move (.t 25))])
 (.cond (.t 13) (.seq (.region 0 [oP 4 (.move (.c (.int .i64 1)))])
 (.ret))
 (.seq (.region 0 [oP 27 (.fieldAddr 3 (.t 3)),
 oQ 28 (.load false 1 (.t 27)),
 oP 29 (.fieldAddr 0 (.t 5)),
 oQ 30 (.load false 1 (.t 29)),
 oP 31 (.bin .lss (.t 28) (.t 30)),
 oP 32 (.move (.t 31)),
 oG 33 32 false (.fieldAddr 1 (.t 5)),
 ⟨(some 34), .load false 1 (.t 33), (some (32, false)), none, []⟩,
 oG 35 32 false (.fieldAddr 2 (.t 3)),
 ⟨(some 36), .load false 1 (.t 35), (some (32, false)), none, []⟩,
 oG 37 32 false (.bin .lss (.t 34) (.t 36)),
 oP 38 (.pick (.t 32) (.c (.bool true)) (.t 37)),
 oP 26 (.move (.t 38))])
 (.cond (.t 26) (.seq (.region 0 [oP 4 (.move (.c (.int .i64 2)))])
 (.ret))
 (.skip))))))
 (.seq (.region 0 [oP 4 (.move (.c (.int .i64 3)))])
 (.ret))))⟩
/-- almadraba/counts.isPlace -/
def f81 : AFn := ⟨20, [.tmp 6],
 .seq (.region 0 [oQ 3 (.box (.t 0)),
 oP 6 (.move (.c (.bool false)))])
 (.seq (.region 0 [oQ 7 (.load true 4 (.t 3)),
 oP 8 (.move (.t 1)),
 oQ 9 (.call 1 74 [(.t 7), (.t 8)]),
 oP 10 (.move (.t 9)),
 oG 11 10 true (.move (.t 2)),
 oG 12 10 true (.bin .leq (.c (.int .i64 0)) (.t 11)),
 oP 13 (.pick (.t 10) (.t 12) (.c (.bool false))),
 oP 14 (.move (.t 13)),
 oG 15 14 true (.move (.t 2)),
 oG 16 14 true (.fieldAddr 0 (.t 3)),
 ⟨(some 17), .load false 1 (.t 16), (some (14, true)), none, []⟩,
 oG 18 14 true (.bin .lss (.t 15) (.t 17)),
 oP 19 (.pick (.t 14) (.t 18) (.c (.bool false))),
 oP 6 (.move (.t 19))])
 (.ret))⟩
/-- (*almadraba/counts.trap).fish -/
def f82 : AFn := ⟨22, [.cell true 2 4],
 .seq (.region 0 [oQ 3 (.box (.t 1)),
 oQ 4 (.alloc [.int .i64 0, .int .i64 0])])
 (.seq (.region 0 [oP 5 (.move (.t 0)),
 oP 6 (.nilCheck (.t 5)),
 oP 7 (.fieldAddr 4 (.t 6)),
 oP 8 (.move (.t 0)),
 oP 9 (.fieldAddr 0 (.t 3)),
 oQ 10 (.load false 1 (.t 9)),
 oP 11 (.fieldAddr 1 (.t 3)),
 oQ 12 (.load false 1 (.t 11)),
 oQ 13 (.call 3 76 [(.t 8), (.t 10), (.t 12)]),
 oP 14 (.move (.t 0)),
 oP 15 (.fieldAddr 0 (.t 3)),
 oQ 16 (.load false 1 (.t 15)),
 oP 17 (.fieldAddr 1 (.t 3)),
 oQ 18 (.load false 1 (.t 17)),
 oP 19 (.bin .add (.t 18) (.c (.int .i64 1))),
 oQ 20 (.call 3 76 [(.t 14), (.t 16), (.t 19)]),
 oQ 21 (.call 3 75 [(.t 7), (.t 13), (.t 20)]),
 ⟨none, .store 2 (.t 4) (.t 21), none, none, []⟩])
 (.ret))⟩
end Go.Proofs.Ytjaaefdhdggnkaa.T
