/-
The code of functions of the seat, as the abstract machine has it (printed by a tool of ours off the dump).
-/
import Derived.Test.YtokhneffambgmaaAmX
namespace Go.Proofs.Ytokhneffambgmaa.T
open Go Go.Am
abbrev oP (n : Nat) (p : POp) : AOper := ⟨some n, .p p, none, none, []⟩
abbrev oQ (n : Nat) (p : AOp) : AOper := ⟨some n, p, none, none, []⟩
abbrev oG (n m : Nat) (b : Bool) (p : POp) : AOper := ⟨some n, .p p, some (m, b), none, []⟩
/-- gosem.cut.init -/
def f2 : AFn := ⟨1, [],
 .region 0 [oQ 0 (.call 1 1 [])]⟩
/-- almadraba/almadrabatop.TopHauled -/
def f3 : AFn := ⟨216, [.tmp 6],
 .seq (.region 0 [oQ 4 (.box (.t 1)),
 oQ 5 (.box (.t 2)),
 oP 6 (.move (.c (.bool false)))])
 (.seq (.seq (.region 0 [oP 21 (.move (.t 0)),
 oP 22 (.lenS (.t 21)),
 oP 23 (.bin .gtr (.t 22) (.c (.int .i64 40))),
 oP 24 (.move (.t 23)),
 oG 25 24 false (.move (.t 0)),
 ⟨(some 26), .call 1 4 [(.t 25)], (some (24, false)), none, []⟩,
 oG 27 24 false (.bin .neq (.t 26) (.c (.int .i64 0))),
 oP 28 (.pick (.t 24) (.c (.bool true)) (.t 27)),
 oP 29 (.move (.t 28)),
 ⟨(some 30), .load true 4 (.t 4), (some (29, false)), none, []⟩,
 ⟨(some 31), .call 1 5 [(.t 30)], (some (29, false)), none, []⟩,
 oP 32 (.pick (.t 29) (.c (.bool true)) (.t 31)),
 oP 33 (.move (.t 32)),
 ⟨(some 34), .load true 4 (.t 4), (some (33, false)), none, []⟩,
 ⟨(some 35), .call 1 6 [(.t 34)], (some (33, false)), none, []⟩,
 oG 36 33 false (.bin .neq (.t 35) (.c (.int .i64 0))),
 oP 37 (.pick (.t 33) (.c (.bool true)) (.t 36)),
 oP 38 (.move (.t 37)),
 oG 39 38 false (.fieldAddr 0 (.t 5)),
 ⟨(some 40), .load false 1 (.t 39), (some (38, false)), none, []⟩,
 oG 41 38 false (.lenS (.t 40)),
 oG 42 38 false (.bin .gtr (.t 41) (.c (.int .i64 40))),
 oP 43 (.pick (.t 38) (.c (.bool true)) (.t 42)),
 oP 44 (.move (.t 43)),
 oG 45 44 false (.fieldAddr 1 (.t 5)),
 ⟨(some 46), .load false 1 (.t 45), (some (44, false)), none, []⟩,
 oG 47 44 false (.lenS (.t 46)),
 oG 48 44 false (.bin .gtr (.t 47) (.c (.int .i64 40))),
 oP 49 (.pick (.t 44) (.c (.bool true)) (.t 48)),
 oP 50 (.move (.t 49)),
 oG 51 50 false (.move (.t 0)),
 oG 52 50 false (.fieldAddr 0 (.t 5)),
 ⟨(some 53), .load false 1 (.t 52), (some (50, false)), none, []⟩,
 ⟨(some 54), .call 1 7 [(.t 51), (.t 53)], (some (50, false)), none, []⟩,
 oG 55 50 false (.un .not (.t 54)),
 oP 56 (.pick (.t 50) (.c (.bool true)) (.t 55))])
 (.cond (.t 56) (.seq (.region 0 [oQ 57 (.call 1 8 []),
 oP 6 (.move (.t 57))])
 (.ret))
 (.skip)))
 (.seq (.region 0 [oP 59 (.move (.t 0)),
 oQ 60 (.call 1 9 [(.t 59)]),
 oP 58 (.move (.t 60)),
 oP 61 (.extract (.t 58) 0),
 oP 62 (.extract (.t 58) 1),
 oQ 7 (.alloc [.int .i64 0, .int .i64 0]),
 ⟨none, .store 2 (.t 7) (.t 61), none, none, []⟩,
 oP 8 (.move (.t 62))])
 (.seq (.region 0 [oP 9 (.move (.c (.int .i64 0)))])
 (.seq (.seq (.region 0 [oP 10 (.move (.c (.int .i64 0)))])
 (.block 0 (.loop (.seq (.seq (.region 0 [oP 63 (.move (.t 10)),
 oP 64 (.move (.t 0)),
 oP 65 (.lenS (.t 64)),
 oP 66 (.bin .lss (.t 63) (.t 65))])
 (.cond (.t 66) (.skip)
 (.exit 0)))
 (.seq (.block 1 (.seq (.region 0 [oP 69 (.move (.t 0)),
 oP 70 (.move (.t 10)),
 oP 71 (.idxSl 6 (.t 69) (.t 70)),
 oP 72 (.fieldAddr 0 (.t 71)),
 oQ 73 (.load false 1 (.t 72)),
 oP 74 (.bin .eql (.t 73) (.c (.int .i64 (-1))))])
 (.cond (.t 74) (.region 0 [oP 75 (.move (.t 9)),
 oP 76 (.fieldAddr 0 (.t 5)),
 oQ 77 (.load false 1 (.t 76)),
 oP 78 (.move (.t 10)),
 oP 79 (.idxSl 1 (.t 77) (.t 78)),
 oQ 80 (.load false 1 (.t 79)),
 oP 81 (.bin .add (.t 75) (.t 80)),
 oP 9 (.move (.t 81))])
 (.skip))))
 (.region 0 [oP 67 (.move (.t 10)),
 oP 68 (.bin .add (.t 67) (.c (.int .i64 1))),
 oP 10 (.move (.t 68))]))))))
 (.seq (.seq (.region 0 [oP 82 (.move (.t 8)),
 oP 83 (.bin .neq (.t 82) (.c (.int .i64 0))),
 oP 84 (.move (.t 83)),
 oG 85 84 false (.fieldAddr 0 (.t 7)),
 ⟨(some 86), .load false 1 (.t 85), (some (84, false)), none, []⟩,
 oG 87 84 false (.bin .lss (.t 86) (.c (.int .i64 0))),
 oP 88 (.pick (.t 84) (.c (.bool true)) (.t 87)),
 oP 89 (.move (.t 88)),
 oG 90 89 false (.fieldAddr 0 (.t 7)),
 ⟨(some 91), .load false 1 (.t 90), (some (89, false)), none, []⟩,
 oG 92 89 false (.move (.t 9)),
 oG 93 89 false (.bin .gtr (.t 91) (.t 92)),
 oP 94 (.pick (.t 89) (.c (.bool true)) (.t 93)),
 oP 95 (.move (.t 94)),
 oG 96 95 false (.fieldAddr 1 (.t 7)),
 ⟨(some 97), .load false 1 (.t 96), (some (95, false)), none, []⟩,
 oG 98 95 false (.move (.t 9)),
 oG 99 95 false (.bin .lss (.t 97) (.t 98)),
 oP 100 (.pick (.t 95) (.c (.bool true)) (.t 99)),
 oP 101 (.move (.t 100)),
 oG 102 101 false (.fieldAddr 1 (.t 7)),
 ⟨(some 103), .load false 1 (.t 102), (some (101, false)), none, []⟩,
 oG 104 101 false (.bin .gtr (.t 103) (.c (.int .i64 240))),
 oP 105 (.pick (.t 101) (.c (.bool true)) (.t 104))])
 (.cond (.t 105) (.seq (.region 0 [oP 6 (.move (.c (.bool false)))])
 (.ret))
 (.skip)))
 (.seq (.region 0 [oQ 106 (.load true 4 (.t 4)),
 oQ 107 (.load true 2 (.t 7)),
 oQ 108 (.call 1 10 [(.t 106), (.t 107), (.c (.int .i64 1))]),
 oQ 11 (.alloc [.int .i64 0, .int .i64 0, .nils, .nils]),
 ⟨none, .store 4 (.t 11) (.t 108), none, none, []⟩])
 (.seq (.region 0 [oQ 109 (.load true 4 (.t 4)),
 oP 110 (.move (.t 9)),
 oP 111 (.move (.t 9)),
 oP 112 (.build [.int .i64 0, .int .i64 0] [(0, 1, (.t 110)), (1, 1, (.t 111))]),
 oQ 113 (.call 1 10 [(.t 109), (.t 112), (.c (.int .i64 1))]),
 oQ 12 (.alloc [.int .i64 0, .int .i64 0, .nils, .nils]),
 ⟨none, .store 4 (.t 12) (.t 113), none, none, []⟩])
 (.seq (.seq (.region 0 [oQ 114 (.load true 4 (.t 12)),
 oQ 115 (.load true 4 (.t 11)),
 oP 116 (.fieldAddr 1 (.t 5)),
 oQ 117 (.load false 1 (.t 116)),
 oQ 118 (.call 1 11 [(.t 114), (.t 115), (.t 117)]),
 oP 119 (.un .not (.t 118))])
 (.cond (.t 119) (.seq (.region 0 [oP 6 (.move (.c (.bool false)))])
 (.ret))
 (.skip)))
 (.seq (.region 0 [oQ 121 (.load true 4 (.t 11)),
 oQ 122 (.call 1 12 [(.t 121)]),
 oP 120 (.move (.t 122)),
 oP 123 (.extract (.t 120) 0),
 oP 124 (.extract (.t 120) 1),
 oP 13 (.move (.t 123)),
 oP 14 (.move (.t 124))])
 (.seq (.region 0 [oQ 126 (.load true 4 (.t 12)),
 oQ 127 (.call 1 13 [(.t 126)]),
 oP 125 (.move (.t 127)),
 oP 128 (.extract (.t 125) 0),
 oP 129 (.extract (.t 125) 1),
 oP 15 (.move (.t 128)),
 oP 16 (.move (.t 129))])
 (.seq (.seq (.region 0 [oP 130 (.move (.t 14)),
 oP 131 (.bin .neq (.t 130) (.c (.int .i64 0))),
 oP 132 (.move (.t 131)),
 oG 133 132 true (.move (.t 14)),
 oG 134 132 true (.bin .neq (.t 133) (.c (.int .i64 3))),
 oP 135 (.pick (.t 132) (.t 134) (.c (.bool false))),
 oP 136 (.move (.t 135)),
 oG 137 136 false (.move (.t 16)),
 oG 138 136 false (.bin .neq (.t 137) (.c (.int .i64 0))),
 oG 139 136 false (.move (.t 138)),
 oG 140 139 true (.move (.t 16)),
 oG 141 139 true (.bin .neq (.t 140) (.c (.int .i64 3))),
 oG 142 136 false (.pick (.t 139) (.t 141) (.c (.bool false))),
 oP 143 (.pick (.t 136) (.c (.bool true)) (.t 142)),
 oP 144 (.move (.t 143)),
 oG 145 144 false (.move (.t 16)),
 oG 146 144 false (.bin .eql (.t 145) (.c (.int .i64 0))),
 oG 147 144 false (.move (.t 14)),
 oG 148 144 false (.bin .eql (.t 147) (.c (.int .i64 0))),
 oG 149 144 false (.move (.t 148)),
 oG 150 149 true (.move (.t 13)),
 oG 151 149 true (.move (.t 9)),
 oG 152 149 true (.bin .geq (.t 150) (.t 151)),
 oG 153 144 false (.pick (.t 149) (.t 152) (.c (.bool false))),
 oG 154 144 false (.eqB true (.t 146) (.t 153)),
 oP 155 (.pick (.t 144) (.c (.bool true)) (.t 154)),
 oP 156 (.move (.t 155)),
 oG 157 156 false (.move (.t 14)),
 oG 158 156 false (.bin .eql (.t 157) (.c (.int .i64 0))),
 oG 159 156 false (.move (.t 158)),
 oG 160 159 true (.move (.t 13)),
 oG 161 159 true (.fieldAddr 0 (.t 7)),
 ⟨(some 162), .load false 1 (.t 161), (some (159, true)), none, []⟩,
 oG 163 159 true (.bin .lss (.t 160) (.t 162)),
 oG 164 156 false (.pick (.t 159) (.t 163) (.c (.bool false))),
 oG 165 156 false (.move (.t 164)),
 oG 166 165 true (.move (.t 16)),
 oG 167 165 true (.bin .eql (.t 166) (.c (.int .i64 0))),
 oG 168 156 false (.pick (.t 165) (.t 167) (.c (.bool false))),
 oP 169 (.pick (.t 156) (.c (.bool true)) (.t 168))])
 (.cond (.t 169) (.seq (.region 0 [oP 6 (.move (.c (.bool false)))])
 (.ret))
 (.skip)))
 (.seq (.seq (.region 0 [oQ 170 (.load true 4 (.t 4)),
 oP 171 (.fieldAddr 1 (.t 5)),
 oQ 172 (.load false 1 (.t 171)),
 oQ 173 (.call 1 14 [(.t 170), (.t 172)]),
 oP 174 (.un .not (.t 173))])
 (.cond (.t 174) (.seq (.region 0 [oQ 175 (.call 1 8 []),
 oP 6 (.move (.t 175))])
 (.ret))
 (.skip)))
 (.seq (.region 2 [⟨(some 177), .load true 4 (.t 12), none, none, [0, 1]⟩,
 ⟨(some 178), .buildSlice 1 0 [.int .i64 0] [], none, (some 0), []⟩,
 oP 179 (.fieldAddr 1 (.t 5)),
 ⟨(some 180), .load false 1 (.t 179), none, none, [0, 1]⟩,
 ⟨(some 181), .append true 1 8 (.t 178) (.t 180), none, (some 1), []⟩,
 oQ 182 (.call 1 15 [(.t 177), (.t 181)]),
 oP 176 (.move (.t 182)),
 oP 183 (.extract (.t 176) 0),
 oP 184 (.extract (.t 176) 1),
 oP 17 (.move (.t 183)),
 oP 18 (.move (.t 184))])
 (.seq (.region 2 [⟨(some 186), .load true 4 (.t 11), none, none, [0, 1]⟩,
 ⟨(some 187), .buildSlice 1 0 [.int .i64 0] [], none, (some 0), []⟩,
 oP 188 (.fieldAddr 1 (.t 5)),
 ⟨(some 189), .load false 1 (.t 188), none, none, [0, 1]⟩,
 ⟨(some 190), .append true 1 8 (.t 187) (.t 189), none, (some 1), []⟩,
 oQ 191 (.call 1 16 [(.t 186), (.t 190)]),
 oP 185 (.move (.t 191)),
 oP 192 (.extract (.t 185) 0),
 oP 193 (.extract (.t 185) 1),
 oP 19 (.move (.t 192)),
 oP 20 (.move (.t 193))])
 (.seq (.region 0 [oP 194 (.move (.t 18)),
 oP 195 (.bin .eql (.t 194) (.c (.int .i64 0))),
 oP 196 (.move (.t 195)),
 oG 197 196 true (.move (.t 20)),
 oG 198 196 true (.bin .eql (.t 197) (.c (.int .i64 0))),
 oP 199 (.pick (.t 196) (.t 198) (.c (.bool false))),
 oP 200 (.move (.t 199)),
 oG 201 200 true (.move (.t 17)),
 oG 202 200 true (.bin .eql (.t 201) (.c (.int .i64 1))),
 oG 203 200 true (.move (.t 19)),
 oG 204 200 true (.move (.t 9)),
 oG 205 200 true (.bin .geq (.t 203) (.t 204)),
 oG 206 200 true (.eqB false (.t 202) (.t 205)),
 oP 207 (.pick (.t 200) (.t 206) (.c (.bool false))),
 oP 208 (.move (.t 207)),
 oG 209 208 true (.move (.t 19)),
 oG 210 208 true (.move (.t 13)),
 ⟨(some 211), .call 1 17 [(.t 209), (.c (.int .i64 0)), (.t 210)], (some (208, true)), none, []⟩,
 oP 212 (.pick (.t 208) (.t 211) (.c (.bool false))),
 oP 213 (.move (.t 212)),
 ⟨(some 214), .call 1 8 [], (some (213, true)), none, []⟩,
 oP 215 (.pick (.t 213) (.t 214) (.c (.bool false))),
 oP 6 (.move (.t 215))])
 (.ret))))))))))))))))⟩
/-- almadraba/almadrabaref07.Check -/
def f4 : AFn := ⟨42, [.tmp 2],
 .seq (.region 0 [oP 2 (.move (.c (.int .i64 0)))])
 (.seq (.seq (.region 0 [oP 5 (.move (.t 0)),
 oP 6 (.lenS (.t 5)),
 oP 7 (.bin .gtr (.t 6) (.c (.int .i64 8)))])
 (.cond (.t 7) (.seq (.region 0 [oP 2 (.move (.c (.int .i64 70)))])
 (.ret))
 (.skip)))
 (.seq (.seq (.region 0 [oP 3 (.move (.c (.int .i64 0)))])
 (.block 0 (.loop (.seq (.seq (.region 0 [oP 8 (.move (.t 3)),
 oP 9 (.move (.t 0)),
 oP 10 (.lenS (.t 9)),
 oP 11 (.bin .lss (.t 8) (.t 10))])
 (.cond (.t 11) (.skip)
 (.exit 0)))
 (.seq (.block 1 (.seq (.region 0 [oP 14 (.move (.t 0)),
 oP 15 (.move (.t 3)),
 oP 16 (.idxSl 6 (.t 14) (.t 15)),
 oQ 17 (.load true 6 (.t 16)),
 oQ 4 (.alloc [.int .i64 0, .int .i64 0, .int .i64 0, .int .i64 0, .int .i64 0, .int .i64 0]),
 ⟨none, .store 6 (.t 4) (.t 17), none, none, []⟩])
 (.seq (.region 0 [oP 18 (.fieldAddr 0 (.t 4)),
 oQ 19 (.load false 1 (.t 18)),
 oP 20 (.move (.t 3)),
 oP 21 (.bin .sub (.t 20) (.c (.int .i64 1))),
 oQ 22 (.call 1 18 [(.t 19), (.c (.int .i64 (-1))), (.t 21)]),
 oP 23 (.un .not (.t 22)),
 oP 24 (.move (.t 23)),
 oG 25 24 false (.fieldAddr 1 (.t 4)),
 ⟨(some 26), .load true 2 (.t 25), (some (24, false)), none, []⟩,
 ⟨(some 27), .call 1 19 [(.t 26)], (some (24, false)), none, []⟩,
 oG 28 24 false (.un .not (.t 27)),
 oP 29 (.pick (.t 24) (.c (.bool true)) (.t 28)),
 oP 30 (.move (.t 29)),
 oG 31 30 false (.fieldAddr 3 (.t 4)),
 ⟨(some 32), .load true 2 (.t 31), (some (30, false)), none, []⟩,
 ⟨(some 33), .call 1 19 [(.t 32)], (some (30, false)), none, []⟩,
 oG 34 30 false (.un .not (.t 33)),
 oP 35 (.pick (.t 30) (.c (.bool true)) (.t 34)),
 oP 36 (.move (.t 35)),
 oG 37 36 false (.fieldAddr 5 (.t 4)),
 ⟨(some 38), .load false 1 (.t 37), (some (36, false)), none, []⟩,
 ⟨(some 39), .call 1 18 [(.t 38), (.c (.int .i64 0)), (.c (.int .i64 99))], (some (36, false)), none, []⟩,
 oG 40 36 false (.un .not (.t 39)),
 oP 41 (.pick (.t 36) (.c (.bool true)) (.t 40))])
 (.cond (.t 41) (.seq (.region 0 [oP 2 (.move (.c (.int .i64 70)))])
 (.ret))
 (.skip)))))
 (.region 0 [oP 12 (.move (.t 3)),
 oP 13 (.bin .add (.t 12) (.c (.int .i64 1))),
 oP 3 (.move (.t 13))]))))))
 (.seq (.region 0 [oP 2 (.move (.c (.int .i64 0)))])
 (.ret))))⟩
/-- almadraba/almadrabalaw05.Far -/
def f5 : AFn := ⟨13, [.tmp 2],
 .seq (.region 0 [oQ 1 (.box (.t 0)),
 oP 2 (.move (.c (.bool false)))])
 (.seq (.region 0 [oP 3 (.fieldAddr 2 (.t 1)),
 oQ 4 (.load false 1 (.t 3)),
 oP 5 (.lenS (.t 4)),
 oP 6 (.bin .gtr (.t 5) (.c (.int .i64 40))),
 oP 7 (.move (.t 6)),
 oG 8 7 false (.fieldAddr 3 (.t 1)),
 ⟨(some 9), .load false 1 (.t 8), (some (7, false)), none, []⟩,
 oG 10 7 false (.lenS (.t 9)),
 oG 11 7 false (.bin .gtr (.t 10) (.c (.int .i64 40))),
 oP 12 (.pick (.t 7) (.c (.bool true)) (.t 11)),
 oP 2 (.move (.t 12))])
 (.ret))⟩
/-- almadraba/almadrabaref05.Check -/
def f6 : AFn := ⟨82, [.tmp 2],
 .seq (.region 0 [oQ 1 (.box (.t 0)),
 oP 2 (.move (.c (.int .i64 0)))])
 (.seq (.seq (.region 0 [oP 8 (.fieldAddr 0 (.t 1)),
 oQ 9 (.load true 2 (.t 8)),
 oQ 10 (.call 1 20 [(.t 9), (.c (.int .i64 2000))]),
 oP 11 (.un .not (.t 10)),
 oP 12 (.move (.t 11)),
 oG 13 12 false (.fieldAddr 2 (.t 1)),
 ⟨(some 14), .load false 1 (.t 13), (some (12, false)), none, []⟩,
 oG 15 12 false (.lenS (.t 14)),
 oG 16 12 false (.bin .gtr (.t 15) (.c (.int .i64 4))),
 oP 17 (.pick (.t 12) (.c (.bool true)) (.t 16)),
 oP 18 (.move (.t 17)),
 oG 19 18 false (.fieldAddr 3 (.t 1)),
 ⟨(some 20), .load false 1 (.t 19), (some (18, false)), none, []⟩,
 oG 21 18 false (.lenS (.t 20)),
 oG 22 18 false (.bin .gtr (.t 21) (.c (.int .i64 6))),
 oP 23 (.pick (.t 18) (.c (.bool true)) (.t 22))])
 (.cond (.t 23) (.seq (.region 0 [oP 2 (.move (.c (.int .i64 50)))])
 (.ret))
 (.skip)))
 (.seq (.region 0 [oP 3 (.move (.c (.int .i64 0))),
 oP 4 (.move (.c (.int .i64 0)))])
 (.seq (.seq (.region 0 [oP 5 (.move (.c (.int .i64 0)))])
 (.block 0 (.loop (.seq (.seq (.region 0 [oP 24 (.move (.t 5)),
 oP 25 (.fieldAddr 2 (.t 1)),
 oQ 26 (.load false 1 (.t 25)),
 oP 27 (.lenS (.t 26)),
 oP 28 (.bin .lss (.t 24) (.t 27))])
 (.cond (.t 28) (.skip)
 (.exit 0)))
 (.seq (.block 1 (.seq (.seq (.region 0 [oP 31 (.fieldAddr 2 (.t 1)),
 oQ 32 (.load false 1 (.t 31)),
 oP 33 (.move (.t 5)),
 oP 34 (.idxSl 2 (.t 32) (.t 33)),
 oQ 35 (.load true 2 (.t 34)),
 oQ 36 (.call 1 20 [(.t 35), (.c (.int .i64 12))]),
 oP 37 (.un .not (.t 36))])
 (.cond (.t 37) (.seq (.region 0 [oP 2 (.move (.c (.int .i64 50)))])
 (.ret))
 (.skip)))
 (.region 0 [oP 38 (.move (.t 3)),
 oP 39 (.fieldAddr 2 (.t 1)),
 oQ 40 (.load false 1 (.t 39)),
 oP 41 (.move (.t 5)),
 oP 42 (.idxSl 2 (.t 40) (.t 41)),
 oP 43 (.fieldAddr 0 (.t 42)),
 oQ 44 (.load false 1 (.t 43)),
 oP 45 (.bin .add (.t 38) (.t 44)),
 oP 46 (.move (.t 4)),
 oP 47 (.fieldAddr 2 (.t 1)),
 oQ 48 (.load false 1 (.t 47)),
 oP 49 (.move (.t 5)),
 oP 50 (.idxSl 2 (.t 48) (.t 49)),
 oP 51 (.fieldAddr 1 (.t 50)),
 oQ 52 (.load false 1 (.t 51)),
 oP 53 (.bin .add (.t 46) (.t 52)),
 oP 3 (.move (.t 45)),
 oP 4 (.move (.t 53))])))
 (.region 0 [oP 29 (.move (.t 5)),
 oP 30 (.bin .add (.t 29) (.c (.int .i64 1))),
 oP 5 (.move (.t 30))]))))))
 (.seq (.seq (.region 0 [oP 6 (.move (.c (.int .i64 0)))])
 (.block 2 (.loop (.seq (.seq (.region 0 [oP 54 (.move (.t 6)),
 oP 55 (.fieldAddr 3 (.t 1)),
 oQ 56 (.load false 1 (.t 55)),
 oP 57 (.lenS (.t 56)),
 oP 58 (.bin .lss (.t 54) (.t 57))])
 (.cond (.t 58) (.skip)
 (.exit 2)))
 (.seq (.block 3 (.seq (.region 0 [oP 61 (.fieldAddr 3 (.t 1)),
 oQ 62 (.load false 1 (.t 61)),
 oP 63 (.move (.t 6)),
 oP 64 (.idxSl 2 (.t 62) (.t 63)),
 oQ 65 (.load true 2 (.t 64)),
 oQ 7 (.alloc [.int .i64 0, .int .i64 0]),
 ⟨none, .store 2 (.t 7) (.t 65), none, none, []⟩])
 (.seq (.region 0 [oP 66 (.fieldAddr 0 (.t 7)),
 oQ 67 (.load false 1 (.t 66)),
 oQ 68 (.call 1 21 [(.t 67), (.c (.int .i64 0)), (.c (.int .i64 999))]),
 oP 69 (.un .not (.t 68)),
 oP 70 (.move (.t 69)),
 oG 71 70 false (.fieldAddr 1 (.t 7)),
 ⟨(some 72), .load false 1 (.t 71), (some (70, false)), none, []⟩,
 ⟨(some 73), .call 1 21 [(.t 72), (.c (.int .i64 0)), (.c (.int .i64 99))], (some (70, false)), none, []⟩,
 oG 74 70 false (.un .not (.t 73)),
 oP 75 (.pick (.t 70) (.c (.bool true)) (.t 74))])
 (.cond (.t 75) (.seq (.region 0 [oP 2 (.move (.c (.int .i64 50)))])
 (.ret))
 (.skip)))))
 (.region 0 [oP 59 (.move (.t 6)),
 oP 60 (.bin .add (.t 59) (.c (.int .i64 1))),
 oP 6 (.move (.t 60))]))))))
 (.seq (.seq (.region 0 [oP 76 (.move (.t 3)),
 oP 77 (.bin .gtr (.t 76) (.c (.int .i64 12))),
 oP 78 (.move (.t 77)),
 oG 79 78 false (.move (.t 4)),
 oG 80 78 false (.bin .lss (.t 79) (.c (.int .i64 12))),
 oP 81 (.pick (.t 78) (.c (.bool true)) (.t 80))])
 (.cond (.t 81) (.seq (.region 0 [oP 2 (.move (.c (.int .i64 50)))])
 (.ret))
 (.skip)))
 (.seq (.region 0 [oP 2 (.move (.c (.int .i64 0)))])
 (.ret)))))))⟩
/-- almadraba/almadrabaref07.IsTruth -/
def f7 : AFn := ⟨14, [.tmp 4],
 .seq (.region 0 [oP 4 (.move (.c (.bool false)))])
 (.seq (.region 0 [oP 5 (.move (.t 0)),
 oP 6 (.move (.t 1)),
 oQ 7 (.call 1 22 [(.t 5), (.t 6)]),
 oP 8 (.move (.t 7)),
 oG 9 8 true (.move (.t 0)),
 oG 10 8 true (.move (.t 1)),
 ⟨(some 11), .call 1 23 [(.t 9), (.t 10)], (some (8, true)), none, []⟩,
 oG 12 8 true (.bin .eql (.t 11) (.c (.int .i64 0))),
 oP 13 (.pick (.t 8) (.t 12) (.c (.bool false))),
 oP 4 (.move (.t 13))])
 (.ret))⟩
/-- almadraba/almadrabatop.hauled -/
def f8 : AFn := ⟨42, [.tmp 0],
 .seq (.region 0 [oP 0 (.move (.c (.bool false)))])
 (.seq (.region 0 [oQ 10 (.call 1 24 []),
 oP 9 (.move (.t 10)),
 oP 11 (.extract (.t 9) 0),
 oP 12 (.extract (.t 9) 1),
 oQ 1 (.alloc [.int .i64 0, .int .i64 0, .nils, .nils]),
 oQ 2 (.alloc [.int .i64 0, .int .i64 0, .nils, .nils]),
 ⟨none, .store 4 (.t 1) (.t 11), none, none, []⟩,
 ⟨none, .store 4 (.t 2) (.t 12), none, none, []⟩])
 (.seq (.region 0 [oQ 14 (.call 1 25 []),
 oP 13 (.move (.t 14)),
 oP 15 (.extract (.t 13) 0),
 oP 16 (.extract (.t 13) 1),
 oP 3 (.move (.t 15)),
 oP 4 (.move (.t 16))])
 (.seq (.region 0 [oQ 18 (.load true 4 (.t 1)),
 oQ 19 (.call 1 12 [(.t 18)]),
 oP 17 (.move (.t 19)),
 oP 20 (.extract (.t 17) 0),
 oP 21 (.extract (.t 17) 1),
 oP 5 (.move (.t 20)),
 oP 6 (.move (.t 21))])
 (.seq (.region 0 [oP 23 (.move (.t 3)),
 oQ 24 (.call 1 9 [(.t 23)]),
 oP 22 (.move (.t 24)),
 oP 25 (.extract (.t 22) 0),
 oP 26 (.extract (.t 22) 1),
 oQ 7 (.alloc [.int .i64 0, .int .i64 0]),
 ⟨none, .store 2 (.t 7) (.t 25), none, none, []⟩,
 oP 8 (.move (.t 26))])
 (.seq (.region 0 [oP 27 (.move (.t 6)),
 oP 28 (.bin .eql (.t 27) (.c (.int .i64 0))),
 oP 29 (.move (.t 28)),
 oG 30 29 true (.move (.t 8)),
 oG 31 29 true (.bin .eql (.t 30) (.c (.int .i64 0))),
 oP 32 (.pick (.t 29) (.t 31) (.c (.bool false))),
 oP 33 (.move (.t 32)),
 oG 34 33 true (.move (.t 5)),
 oG 35 33 true (.bin .eql (.t 34) (.c (.int .i64 120))),
 oP 36 (.pick (.t 33) (.t 35) (.c (.bool false))),
 oP 37 (.move (.t 36)),
 ⟨(some 38), .load true 2 (.t 7), (some (37, true)), none, []⟩,
 oG 39 37 true (.build [.int .i64 0, .int .i64 0] [(0, 1, (.c (.int .i64 20))), (1, 1, (.c (.int .i64 24)))]),
 oG 40 37 true (.eqS false [true, true] (.t 38) (.t 39)),
 oP 41 (.pick (.t 37) (.t 40) (.c (.bool false))),
 oP 0 (.move (.t 41))])
 (.ret))))))⟩
/-- almadraba/cuts.Whole -/
def f9 : AFn := ⟨17, [.cell true 2 2, .tmp 3],
 .seq (.region 0 [oQ 2 (.alloc [.int .i64 0, .int .i64 0]),
 oP 3 (.move (.c (.int .i64 0)))])
 (.seq (.seq (.region 0 [oP 5 (.move (.t 0)),
 oQ 6 (.call 1 26 [(.t 5)]),
 oP 4 (.move (.t 6))])
 (.seq (.region 0 [oP 7 (.move (.t 4)),
 oP 8 (.bin .neq (.t 7) (.c (.int .i64 0)))])
 (.cond (.t 8) (.seq (.region 0 [oP 9 (.build [.int .i64 0, .int .i64 0] []),
 oP 10 (.move (.t 4)),
 ⟨none, .store 2 (.t 2) (.t 9), none, none, []⟩,
 oP 3 (.move (.t 10))])
 (.ret))
 (.skip))))
 (.seq (.region 0 [oP 11 (.move (.t 0)),
 oP 12 (.move (.t 0)),
 oQ 13 (.call 1 28 [(.t 12)]),
 oQ 14 (.call 1 27 [(.t 11), (.t 13)]),
 oP 15 (.extract (.t 14) 0),
 oP 16 (.extract (.t 14) 1),
 ⟨none, .store 2 (.t 2) (.t 15), none, none, []⟩,
 oP 3 (.move (.t 16))])
 (.ret)))⟩
/-- almadraba/almadrabatop.withCatch -/
def f10 : AFn := ⟨21, [.cell true 4 6],
 .seq (.region 0 [oQ 3 (.box (.t 0)),
 oQ 4 (.box (.t 1)),
 oQ 6 (.alloc [.int .i64 0, .int .i64 0, .nils, .nils])])
 (.seq (.region 0 [oQ 8 (.load true 4 (.t 3)),
 oQ 9 (.call 1 29 [(.t 8)]),
 oQ 7 (.alloc [.int .i64 0, .int .i64 0, .nils, .nils]),
 ⟨none, .store 4 (.t 7) (.t 9), none, none, []⟩])
 (.seq (.region 0 [oP 10 (.fieldAddr 0 (.t 4)),
 oQ 11 (.load false 1 (.t 10)),
 oP 12 (.move (.t 2)),
 oP 13 (.bin .mul (.t 11) (.t 12)),
 oP 14 (.fieldAddr 1 (.t 4)),
 oQ 15 (.load false 1 (.t 14)),
 oP 16 (.move (.t 2)),
 oP 17 (.bin .mul (.t 15) (.t 16)),
 oP 18 (.build [.int .i64 0, .int .i64 0] [(0, 1, (.t 13)), (1, 1, (.t 17))]),
 oP 19 (.fieldAddr 0 (.t 7)),
 ⟨none, .store 2 (.t 19) (.t 18), none, none, []⟩])
 (.seq (.region 0 [oQ 20 (.load true 4 (.t 7)),
 ⟨none, .store 4 (.t 6) (.t 20), none, none, []⟩])
 (.ret))))⟩
/-- almadraba/almadrabatop.surer -/
def f11 : AFn := ⟨87, [.tmp 6],
 .seq (.region 0 [oQ 3 (.box (.t 0)),
 oQ 4 (.box (.t 1)),
 oP 6 (.move (.c (.bool false)))])
 (.seq (.seq (.region 0 [oQ 15 (.load true 4 (.t 3)),
 oP 16 (.move (.t 2)),
 oQ 17 (.call 1 14 [(.t 15), (.t 16)])])
 (.cond (.t 17) (.seq (.region 2 [⟨(some 19), .load true 4 (.t 4), none, none, [0, 1]⟩,
 ⟨(some 20), .buildSlice 1 0 [.int .i64 0] [], none, (some 0), []⟩,
 oP 21 (.move (.t 2)),
 ⟨(some 22), .append true 1 8 (.t 20) (.t 21), none, (some 1), []⟩,
 oQ 23 (.call 1 15 [(.t 19), (.t 22)]),
 oP 18 (.move (.t 23)),
 oP 24 (.extract (.t 18) 0),
 oP 25 (.extract (.t 18) 1),
 oP 7 (.move (.t 24)),
 oP 8 (.move (.t 25))])
 (.seq (.region 2 [⟨(some 27), .load true 4 (.t 3), none, none, [0, 1]⟩,
 ⟨(some 28), .buildSlice 1 0 [.int .i64 0] [], none, (some 0), []⟩,
 oP 29 (.move (.t 2)),
 ⟨(some 30), .append true 1 8 (.t 28) (.t 29), none, (some 1), []⟩,
 oQ 31 (.call 1 15 [(.t 27), (.t 30)]),
 oP 26 (.move (.t 31)),
 oP 32 (.extract (.t 26) 0),
 oP 33 (.extract (.t 26) 1),
 oP 9 (.move (.t 32)),
 oP 10 (.move (.t 33))])
 (.seq (.region 0 [oP 34 (.move (.t 8)),
 oP 35 (.bin .neq (.t 34) (.c (.int .i64 0))),
 oP 36 (.move (.t 35)),
 oG 37 36 false (.move (.t 10)),
 oG 38 36 false (.bin .neq (.t 37) (.c (.int .i64 0))),
 oP 39 (.pick (.t 36) (.c (.bool true)) (.t 38)),
 oP 40 (.move (.t 39)),
 oG 41 40 false (.move (.t 7)),
 ⟨(some 42), .call 1 17 [(.t 41), (.c (.int .i64 1)), (.c (.int .i64 3))], (some (40, false)), none, []⟩,
 oG 43 40 false (.un .not (.t 42)),
 oP 44 (.pick (.t 40) (.c (.bool true)) (.t 43)),
 oP 45 (.move (.t 44)),
 oG 46 45 false (.move (.t 7)),
 oG 47 45 false (.bin .neq (.t 46) (.c (.int .i64 3))),
 oG 48 45 false (.move (.t 47)),
 oG 49 48 true (.move (.t 9)),
 oG 50 48 true (.move (.t 7)),
 oG 51 48 true (.bin .neq (.t 49) (.t 50)),
 oG 52 45 false (.pick (.t 48) (.t 51) (.c (.bool false))),
 oP 53 (.pick (.t 45) (.c (.bool true)) (.t 52))])
 (.cond (.t 53) (.seq (.region 0 [oP 6 (.move (.c (.bool false)))])
 (.ret))
 (.skip)))))
 (.skip)))
 (.seq (.region 0 [oQ 55 (.load true 4 (.t 4)),
 oQ 56 (.call 1 13 [(.t 55)]),
 oP 54 (.move (.t 56)),
 oP 57 (.extract (.t 54) 0),
 oP 58 (.extract (.t 54) 1),
 oP 11 (.move (.t 57)),
 oP 12 (.move (.t 58))])
 (.seq (.region 0 [oQ 60 (.load true 4 (.t 3)),
 oQ 61 (.call 1 13 [(.t 60)]),
 oP 59 (.move (.t 61)),
 oP 62 (.extract (.t 59) 0),
 oP 63 (.extract (.t 59) 1),
 oP 13 (.move (.t 62)),
 oP 14 (.move (.t 63))])
 (.seq (.region 0 [oP 64 (.move (.t 12)),
 oP 65 (.bin .eql (.t 64) (.c (.int .i64 0))),
 oP 66 (.move (.t 65)),
 oG 67 66 false (.move (.t 12)),
 oG 68 66 false (.bin .eql (.t 67) (.c (.int .i64 3))),
 oP 69 (.pick (.t 66) (.c (.bool true)) (.t 68)),
 oP 70 (.move (.t 69)),
 oG 71 70 true (.move (.t 12)),
 oG 72 70 true (.bin .neq (.t 71) (.c (.int .i64 0))),
 oG 73 70 true (.move (.t 72)),
 oG 74 73 false (.move (.t 14)),
 oG 75 73 false (.bin .eql (.t 74) (.c (.int .i64 0))),
 oG 76 73 false (.move (.t 75)),
 oG 77 76 true (.move (.t 13)),
 oG 78 76 true (.bin .geq (.t 77) (.c (.int .i64 0))),
 oG 79 73 false (.pick (.t 76) (.t 78) (.c (.bool false))),
 oG 80 73 false (.move (.t 79)),
 oG 81 80 true (.move (.t 13)),
 oG 82 80 true (.move (.t 11)),
 oG 83 80 true (.bin .leq (.t 81) (.t 82)),
 oG 84 73 false (.pick (.t 80) (.t 83) (.c (.bool false))),
 oG 85 70 true (.pick (.t 73) (.c (.bool true)) (.t 84)),
 oP 86 (.pick (.t 70) (.t 85) (.c (.bool false))),
 oP 6 (.move (.t 86))])
 (.ret)))))⟩
/-- almadraba/lifts.Most -/
def f12 : AFn := ⟨13, [.tmp 2, .tmp 3],
 .seq (.region 0 [oQ 1 (.box (.t 0)),
 oP 2 (.move (.c (.int .i64 0))),
 oP 3 (.move (.c (.int .i64 0)))])
 (.seq (.seq (.region 0 [oQ 5 (.load true 4 (.t 1)),
 oQ 6 (.call 1 30 [(.t 5)]),
 oP 4 (.move (.t 6))])
 (.seq (.region 0 [oP 7 (.move (.t 4)),
 oP 8 (.bin .neq (.t 7) (.c (.int .i64 0)))])
 (.cond (.t 8) (.seq (.region 0 [oP 9 (.move (.t 4)),
 oP 2 (.move (.c (.int .i64 0))),
 oP 3 (.move (.t 9))])
 (.ret))
 (.skip))))
 (.seq (.region 0 [oQ 10 (.load true 4 (.t 1)),
 oP 11 (.build [.int .i64 0, .int .i64 0, .nils, .nils] [(0, 4, (.t 10))]),
 oQ 12 (.call 1 31 [(.t 11)]),
 oP 2 (.move (.t 12)),
 oP 3 (.move (.c (.int .i64 0)))])
 (.ret)))⟩
/-- almadraba/lifts.Cheap -/
def f13 : AFn := ⟨15, [.tmp 2, .tmp 3],
 .seq (.region 0 [oQ 1 (.box (.t 0)),
 oP 2 (.move (.c (.int .i64 0))),
 oP 3 (.move (.c (.int .i64 0)))])
 (.seq (.region 0 [oQ 8 (.load true 4 (.t 1)),
 oQ 9 (.call 1 32 [(.t 8)]),
 oP 7 (.move (.t 9)),
 oP 10 (.extract (.t 7) 0),
 oP 11 (.extract (.t 7) 1),
 oP 12 (.extract (.t 7) 2),
 oP 4 (.move (.t 10)),
 oP 5 (.move (.t 11)),
 oP 6 (.move (.t 12))])
 (.seq (.region 0 [oP 13 (.move (.t 5)),
 oP 14 (.move (.t 6)),
 oP 2 (.move (.t 13)),
 oP 3 (.move (.t 14))])
 (.ret)))⟩
/-- almadraba/almadrabaref05.IsCrew -/
def f14 : AFn := ⟨37, [.tmp 4],
 .seq (.region 0 [oQ 2 (.box (.t 0)),
 oP 4 (.move (.c (.bool false)))])
 (.seq (.seq (.region 0 [oP 6 (.move (.t 1)),
 oP 7 (.lenS (.t 6)),
 oP 8 (.fieldAddr 2 (.t 2)),
 oQ 9 (.load false 1 (.t 8)),
 oP 10 (.lenS (.t 9)),
 oP 11 (.bin .neq (.t 7) (.t 10))])
 (.cond (.t 11) (.seq (.region 0 [oP 4 (.move (.c (.bool false)))])
 (.ret))
 (.skip)))
 (.seq (.seq (.region 0 [oP 5 (.move (.c (.int .i64 0)))])
 (.block 0 (.loop (.seq (.seq (.region 0 [oP 12 (.move (.t 5)),
 oP 13 (.move (.t 1)),
 oP 14 (.lenS (.t 13)),
 oP 15 (.bin .lss (.t 12) (.t 14))])
 (.cond (.t 15) (.skip)
 (.exit 0)))
 (.seq (.block 1 (.seq (.region 2 [⟨(some 18), .load true 4 (.t 2), none, none, [0, 1]⟩,
 oP 19 (.move (.t 1)),
 oP 20 (.move (.t 5)),
 oP 21 (.idxSl 1 (.t 19) (.t 20)),
 ⟨(some 22), .load false 1 (.t 21), none, none, [0, 1]⟩,
 ⟨(some 23), .call 1 33 [(.t 18), (.t 22)], none, none, [0, 1]⟩,
 oP 24 (.un .not (.t 23)),
 oP 25 (.move (.t 24)),
 ⟨(some 26), .buildSlice 1 0 [.int .i64 0] [], (some (25, false)), (some 0), []⟩,
 oG 27 25 false (.move (.t 1)),
 oG 28 25 false (.move (.t 5)),
 oG 29 25 false (.slice 1 (.t 27) none (some (.t 28))),
 ⟨(some 30), .append true 1 8 (.t 26) (.t 29), (some (25, false)), (some 1), []⟩,
 oG 31 25 false (.move (.t 1)),
 oG 32 25 false (.move (.t 5)),
 oG 33 25 false (.idxSl 1 (.t 31) (.t 32)),
 ⟨(some 34), .load false 1 (.t 33), (some (25, false)), none, [0, 1]⟩,
 ⟨(some 35), .call 1 34 [(.t 30), (.t 34)], (some (25, false)), none, []⟩,
 oP 36 (.pick (.t 25) (.c (.bool true)) (.t 35))])
 (.cond (.t 36) (.seq (.region 0 [oP 4 (.move (.c (.bool false)))])
 (.ret))
 (.skip))))
 (.region 0 [oP 16 (.move (.t 5)),
 oP 17 (.bin .add (.t 16) (.c (.int .i64 1))),
 oP 5 (.move (.t 17))]))))))
 (.seq (.region 0 [oP 4 (.move (.c (.bool true)))])
 (.ret))))⟩
/-- almadraba/lifts.Safe -/
def f15 : AFn := ⟨25, [.tmp 4, .tmp 5],
 .seq (.region 0 [oQ 2 (.box (.t 0)),
 oP 4 (.move (.c (.int .i64 0))),
 oP 5 (.move (.c (.int .i64 0)))])
 (.seq (.seq (.region 0 [oQ 8 (.load true 4 (.t 2)),
 oP 9 (.move (.t 1)),
 oQ 10 (.call 1 35 [(.t 8), (.t 9)]),
 oP 6 (.move (.t 10))])
 (.seq (.region 0 [oP 11 (.move (.t 6)),
 oP 12 (.bin .neq (.t 11) (.c (.int .i64 0)))])
 (.cond (.t 12) (.seq (.region 0 [oP 13 (.move (.t 6)),
 oP 4 (.move (.c (.int .i64 0))),
 oP 5 (.move (.t 13))])
 (.ret))
 (.skip))))
 (.seq (.region 0 [oQ 14 (.load true 4 (.t 2)),
 oP 15 (.build [.int .i64 0, .int .i64 0, .nils, .nils] [(0, 4, (.t 14))]),
 oQ 7 (.alloc [.int .i64 0, .int .i64 0, .nils, .nils]),
 ⟨none, .store 4 (.t 7) (.t 15), none, none, []⟩])
 (.seq (.block 0 (.seq (.region 0 [oQ 17 (.load true 4 (.t 7)),
 oP 18 (.move (.t 1)),
 oQ 19 (.call 1 36 [(.t 17), (.t 18)]),
 oP 16 (.move (.t 19))])
 (.cond (.t 16) (.seq (.region 0 [oP 4 (.move (.c (.int .i64 1))),
 oP 5 (.move (.c (.int .i64 0)))])
 (.ret))
 (.seq (.region 0 [oQ 21 (.load true 4 (.t 7)),
 oP 22 (.move (.t 1)),
 oQ 23 (.call 1 37 [(.t 21), (.t 22)]),
 oP 24 (.un .not (.t 23)),
 oP 20 (.move (.t 24))])
 (.cond (.t 20) (.seq (.region 0 [oP 4 (.move (.c (.int .i64 2))),
 oP 5 (.move (.c (.int .i64 0)))])
 (.ret))
 (.skip))))))
 (.seq (.region 0 [oP 4 (.move (.c (.int .i64 3))),
 oP 5 (.move (.c (.int .i64 0)))])
 (.ret)))))⟩
/-- almadraba/lifts.Lifts -/
def f16 : AFn := ⟨17, [.tmp 4, .tmp 5],
 .seq (.region 0 [oQ 2 (.box (.t 0)),
 oP 4 (.move (.c (.int .i64 0))),
 oP 5 (.move (.c (.int .i64 0)))])
 (.seq (.seq (.region 0 [oQ 7 (.load true 4 (.t 2)),
 oP 8 (.move (.t 1)),
 oQ 9 (.call 1 35 [(.t 7), (.t 8)]),
 oP 6 (.move (.t 9))])
 (.seq (.region 0 [oP 10 (.move (.t 6)),
 oP 11 (.bin .neq (.t 10) (.c (.int .i64 0)))])
 (.cond (.t 11) (.seq (.region 0 [oP 12 (.move (.t 6)),
 oP 4 (.move (.c (.int .i64 0))),
 oP 5 (.move (.t 12))])
 (.ret))
 (.skip))))
 (.seq (.region 0 [oQ 13 (.load true 4 (.t 2)),
 oP 14 (.build [.int .i64 0, .int .i64 0, .nils, .nils] [(0, 4, (.t 13))]),
 oP 15 (.move (.t 1)),
 oQ 16 (.call 1 38 [(.t 14), (.t 15)]),
 oP 4 (.move (.t 16)),
 oP 5 (.move (.c (.int .i64 0)))])
 (.ret)))⟩
/-- almadraba/almadrabaref01.Within -/
def f17 : AFn := ⟨15, [.tmp 6],
 .seq (.region 0 [oP 6 (.move (.c (.bool false)))])
 (.seq (.region 0 [oP 7 (.move (.t 1)),
 oP 8 (.move (.t 0)),
 oP 9 (.bin .leq (.t 7) (.t 8)),
 oP 10 (.move (.t 9)),
 oG 11 10 true (.move (.t 0)),
 oG 12 10 true (.move (.t 2)),
 oG 13 10 true (.bin .leq (.t 11) (.t 12)),
 oP 14 (.pick (.t 10) (.t 13) (.c (.bool false))),
 oP 6 (.move (.t 14))])
 (.ret))⟩
/-- almadraba/almadrabaref07.within -/
def f18 : AFn := ⟨11, [.tmp 6],
 .seq (.region 0 [oP 6 (.move (.c (.bool false)))])
 (.seq (.region 0 [oP 7 (.move (.t 0)),
 oP 8 (.move (.t 1)),
 oP 9 (.move (.t 2)),
 oQ 10 (.call 1 17 [(.t 7), (.t 8), (.t 9)]),
 oP 6 (.move (.t 10))])
 (.ret))⟩
/-- almadraba/almadrabaref07.isSpan -/
def f19 : AFn := ⟨13, [.tmp 2],
 .seq (.region 0 [oQ 1 (.box (.t 0)),
 oP 2 (.move (.c (.bool false)))])
 (.seq (.region 0 [oP 3 (.fieldAddr 1 (.t 1)),
 oQ 4 (.load false 1 (.t 3)),
 oQ 5 (.call 1 18 [(.t 4), (.c (.int .i64 0)), (.c (.int .i64 30))]),
 oP 6 (.move (.t 5)),
 oG 7 6 true (.fieldAddr 0 (.t 1)),
 ⟨(some 8), .load false 1 (.t 7), (some (6, true)), none, []⟩,
 oG 9 6 true (.fieldAddr 1 (.t 1)),
 ⟨(some 10), .load false 1 (.t 9), (some (6, true)), none, []⟩,
 ⟨(some 11), .call 1 18 [(.t 8), (.c (.int .i64 0)), (.t 10)], (some (6, true)), none, []⟩,
 oP 12 (.pick (.t 6) (.t 11) (.c (.bool false))),
 oP 2 (.move (.t 12))])
 (.ret))⟩
/-- almadraba/almadrabaref05.isSpan -/
def f20 : AFn := ⟨16, [.tmp 4],
 .seq (.region 0 [oQ 2 (.box (.t 0)),
 oP 4 (.move (.c (.bool false)))])
 (.seq (.region 0 [oP 5 (.fieldAddr 1 (.t 2)),
 oQ 6 (.load false 1 (.t 5)),
 oP 7 (.move (.t 1)),
 oQ 8 (.call 1 21 [(.t 6), (.c (.int .i64 0)), (.t 7)]),
 oP 9 (.move (.t 8)),
 oG 10 9 true (.fieldAddr 0 (.t 2)),
 ⟨(some 11), .load false 1 (.t 10), (some (9, true)), none, []⟩,
 oG 12 9 true (.fieldAddr 1 (.t 2)),
 ⟨(some 13), .load false 1 (.t 12), (some (9, true)), none, []⟩,
 ⟨(some 14), .call 1 21 [(.t 11), (.c (.int .i64 0)), (.t 13)], (some (9, true)), none, []⟩,
 oP 15 (.pick (.t 9) (.t 14) (.c (.bool false))),
 oP 4 (.move (.t 15))])
 (.ret))⟩
/-- almadraba/almadrabaref05.within -/
def f21 : AFn := ⟨11, [.tmp 6],
 .seq (.region 0 [oP 6 (.move (.c (.bool false)))])
 (.seq (.region 0 [oP 7 (.move (.t 0)),
 oP 8 (.move (.t 1)),
 oP 9 (.move (.t 2)),
 oQ 10 (.call 1 17 [(.t 7), (.t 8), (.t 9)]),
 oP 6 (.move (.t 10))])
 (.ret))⟩
/-- almadraba/almadrabaref07.IsParting -/
def f22 : AFn := ⟨53, [.tmp 4],
 .seq (.region 0 [oP 4 (.move (.c (.bool false)))])
 (.seq (.seq (.region 0 [oP 7 (.move (.t 1)),
 oP 8 (.lenS (.t 7)),
 oP 9 (.move (.t 0)),
 oP 10 (.lenS (.t 9)),
 oP 11 (.bin .neq (.t 8) (.t 10))])
 (.cond (.t 11) (.seq (.region 0 [oP 4 (.move (.c (.bool false)))])
 (.ret))
 (.skip)))
 (.seq (.seq (.region 0 [oP 5 (.move (.c (.int .i64 0)))])
 (.block 0 (.loop (.seq (.seq (.region 0 [oP 12 (.move (.t 5)),
 oP 13 (.move (.t 1)),
 oP 14 (.lenS (.t 13)),
 oP 15 (.bin .lss (.t 12) (.t 14))])
 (.cond (.t 15) (.skip)
 (.exit 0)))
 (.seq (.block 1 (.seq (.region 0 [oP 18 (.move (.t 1)),
 oP 19 (.move (.t 5)),
 oP 20 (.idxSl 1 (.t 18) (.t 19)),
 oQ 21 (.load false 1 (.t 20)),
 oQ 22 (.call 1 18 [(.t 21), (.c (.int .i64 0)), (.c (.int .i64 30))]),
 oP 23 (.un .not (.t 22))])
 (.cond (.t 23) (.seq (.region 0 [oP 4 (.move (.c (.bool false)))])
 (.ret))
 (.skip))))
 (.region 0 [oP 16 (.move (.t 5)),
 oP 17 (.bin .add (.t 16) (.c (.int .i64 1))),
 oP 5 (.move (.t 17))]))))))
 (.seq (.seq (.region 0 [oP 6 (.move (.c (.int .i64 0)))])
 (.block 2 (.loop (.seq (.seq (.region 0 [oP 24 (.move (.t 6)),
 oP 25 (.move (.t 0)),
 oP 26 (.lenS (.t 25)),
 oP 27 (.bin .lss (.t 24) (.t 26))])
 (.cond (.t 27) (.skip)
 (.exit 2)))
 (.seq (.block 3 (.seq (.region 0 [oP 30 (.move (.t 0)),
 oP 31 (.move (.t 6)),
 oQ 32 (.call 1 39 [(.t 30), (.t 31)]),
 oP 33 (.move (.t 32)),
 oG 34 33 true (.move (.t 0)),
 oG 35 33 true (.move (.t 1)),
 oG 36 33 true (.move (.t 6)),
 ⟨(some 37), .call 1 40 [(.t 34), (.t 35), (.t 36)], (some (33, true)), none, []⟩,
 oG 38 33 true (.move (.t 0)),
 oG 39 33 true (.move (.t 6)),
 oG 40 33 true (.idxSl 6 (.t 38) (.t 39)),
 oG 41 33 true (.fieldAddr 3 (.t 40)),
 oG 42 33 true (.fieldAddr 0 (.t 41)),
 ⟨(some 43), .load false 1 (.t 42), (some (33, true)), none, []⟩,
 oG 44 33 true (.move (.t 0)),
 oG 45 33 true (.move (.t 6)),
 oG 46 33 true (.idxSl 6 (.t 44) (.t 45)),
 oG 47 33 true (.fieldAddr 3 (.t 46)),
 oG 48 33 true (.fieldAddr 1 (.t 47)),
 ⟨(some 49), .load false 1 (.t 48), (some (33, true)), none, []⟩,
 ⟨(some 50), .call 1 18 [(.t 37), (.t 43), (.t 49)], (some (33, true)), none, []⟩,
 oG 51 33 true (.un .not (.t 50)),
 oP 52 (.pick (.t 33) (.t 51) (.c (.bool false)))])
 (.cond (.t 52) (.seq (.region 0 [oP 4 (.move (.c (.bool false)))])
 (.ret))
 (.skip))))
 (.region 0 [oP 28 (.move (.t 6)),
 oP 29 (.bin .add (.t 28) (.c (.int .i64 1))),
 oP 6 (.move (.t 29))]))))))
 (.seq (.region 0 [oP 4 (.move (.c (.bool true)))])
 (.ret)))))⟩
/-- almadraba/almadrabaref07.ChangeOf -/
def f23 : AFn := ⟨26, [.tmp 4],
 .seq (.region 0 [oP 4 (.move (.c (.int .i64 0)))])
 (.seq (.region 0 [oP 5 (.move (.c (.int .i64 0)))])
 (.seq (.seq (.region 0 [oP 6 (.move (.c (.int .i64 0)))])
 (.block 0 (.loop (.seq (.seq (.region 0 [oP 7 (.move (.t 6)),
 oP 8 (.move (.t 0)),
 oP 9 (.lenS (.t 8)),
 oP 10 (.bin .lss (.t 7) (.t 9))])
 (.cond (.t 10) (.skip)
 (.exit 0)))
 (.seq (.block 1 (.region 0 [oP 13 (.move (.t 5)),
 oP 14 (.move (.t 0)),
 oP 15 (.move (.t 6)),
 oP 16 (.idxSl 6 (.t 14) (.t 15)),
 oP 17 (.fieldAddr 1 (.t 16)),
 oQ 18 (.load true 2 (.t 17)),
 oP 19 (.move (.t 1)),
 oP 20 (.move (.t 6)),
 oP 21 (.idxSl 1 (.t 19) (.t 20)),
 oQ 22 (.load false 1 (.t 21)),
 oQ 23 (.call 1 41 [(.t 18), (.t 22)]),
 oP 24 (.bin .add (.t 13) (.t 23)),
 oP 5 (.move (.t 24))]))
 (.region 0 [oP 11 (.move (.t 6)),
 oP 12 (.bin .add (.t 11) (.c (.int .i64 1))),
 oP 6 (.move (.t 12))]))))))
 (.seq (.region 0 [oP 25 (.move (.t 5)),
 oP 4 (.move (.t 25))])
 (.ret))))⟩
/-- almadraba/almadrabalaw05.Example -/
def f24 : AFn := ⟨27, [.cell true 4 0, .cell true 4 1],
 .seq (.region 0 [oQ 0 (.alloc [.int .i64 0, .int .i64 0, .nils, .nils]),
 oQ 1 (.alloc [.int .i64 0, .int .i64 0, .nils, .nils])])
 (.seq (.region 0 [oP 2 (.build [.int .i64 0, .int .i64 0] [(0, 1, (.c (.int .i64 100))), (1, 1, (.c (.int .i64 120)))]),
 oP 3 (.build [.int .i64 0, .int .i64 0] [(0, 1, (.c (.int .i64 2))), (1, 1, (.c (.int .i64 6)))]),
 oP 4 (.build [.int .i64 0, .int .i64 0] [(0, 1, (.c (.int .i64 3))), (1, 1, (.c (.int .i64 5)))]),
 oP 5 (.build [.int .i64 0, .int .i64 0] [(0, 1, (.c (.int .i64 4))), (1, 1, (.c (.int .i64 6)))]),
 oQ 6 (.litS 2 3 [.int .i64 0, .int .i64 0] [(0, (.t 3)), (1, (.t 4)), (2, (.t 5))]),
 oP 7 (.build [.int .i64 0, .int .i64 0] [(0, 1, (.c (.int .i64 50))), (1, 1, (.c (.int .i64 4)))]),
 oP 8 (.build [.int .i64 0, .int .i64 0] [(0, 1, (.c (.int .i64 60))), (1, 1, (.c (.int .i64 7)))]),
 oP 9 (.build [.int .i64 0, .int .i64 0] [(0, 1, (.c (.int .i64 45))), (1, 1, (.c (.int .i64 2)))]),
 oP 10 (.build [.int .i64 0, .int .i64 0] [(0, 1, (.c (.int .i64 70))), (1, 1, (.c (.int .i64 9)))]),
 oQ 11 (.litS 2 4 [.int .i64 0, .int .i64 0] [(0, (.t 7)), (1, (.t 8)), (2, (.t 9)), (3, (.t 10))]),
 oP 12 (.build [.int .i64 0, .int .i64 0, .nils, .nils] [(0, 2, (.t 2)), (2, 1, (.t 6)), (3, 1, (.t 11))]),
 ⟨none, .store 4 (.t 0) (.t 12), none, none, []⟩])
 (.seq (.region 0 [oQ 13 (.load true 4 (.t 0)),
 oQ 14 (.call 1 29 [(.t 13)]),
 ⟨none, .store 4 (.t 1) (.t 14), none, none, []⟩])
 (.seq (.region 0 [oP 15 (.fieldAddr 3 (.t 0)),
 oQ 16 (.load false 1 (.t 15)),
 oP 17 (.idxSl 2 (.t 16) (.c (.int .i64 0))),
 oQ 18 (.load true 2 (.t 17)),
 oP 19 (.fieldAddr 3 (.t 0)),
 oQ 20 (.load false 1 (.t 19)),
 oP 21 (.idxSl 2 (.t 20) (.c (.int .i64 2))),
 oQ 22 (.load true 2 (.t 21)),
 oQ 23 (.litS 2 2 [.int .i64 0, .int .i64 0] [(0, (.t 18)), (1, (.t 22))]),
 oP 24 (.fieldAddr 3 (.t 1)),
 ⟨none, .store 1 (.t 24) (.t 23), none, none, []⟩])
 (.seq (.region 0 [oQ 25 (.load true 4 (.t 0)),
 oQ 26 (.loadR true 4 (.t 1) 1),
 ⟨none, .storeR 4 (.t 0) (.t 25) [1], none, none, []⟩,
 ⟨none, .store 4 (.t 1) (.t 26), none, none, []⟩])
 (.ret)))))⟩
/-- almadraba/almadrabalaw07.Example -/
def f25 : AFn := ⟨16, [.tmp 0, .tmp 1],
 .seq (.region 0 [oP 0 (.move (.c (.nils))),
 oP 1 (.move (.c (.nils)))])
 (.seq (.region 0 [oQ 2 (.call 1 42 [(.c (.int .i64 (-1))), (.c (.int .i64 20)), (.c (.int .i64 24)), (.c (.int .i64 1)), (.c (.int .i64 3)), (.c (.int .i64 2))]),
 oQ 3 (.call 1 42 [(.c (.int .i64 0)), (.c (.int .i64 8)), (.c (.int .i64 12)), (.c (.int .i64 0)), (.c (.int .i64 2)), (.c (.int .i64 3))]),
 oQ 4 (.call 1 42 [(.c (.int .i64 0)), (.c (.int .i64 9)), (.c (.int .i64 10)), (.c (.int .i64 0)), (.c (.int .i64 0)), (.c (.int .i64 4))]),
 oQ 5 (.call 1 42 [(.c (.int .i64 1)), (.c (.int .i64 6)), (.c (.int .i64 7)), (.c (.int .i64 0)), (.c (.int .i64 0)), (.c (.int .i64 6))]),
 oQ 6 (.call 1 42 [(.c (.int .i64 1)), (.c (.int .i64 0)), (.c (.int .i64 30)), (.c (.int .i64 0)), (.c (.int .i64 0)), (.c (.int .i64 1))]),
 oQ 7 (.litS 6 5 [.int .i64 0, .int .i64 0, .int .i64 0, .int .i64 0, .int .i64 0, .int .i64 0] [(0, (.t 2)), (1, (.t 3)), (2, (.t 4)), (3, (.t 5)), (4, (.t 6))]),
 oP 0 (.move (.t 7))])
 (.seq (.region 0 [oQ 8 (.buildSlice 6 0 [.int .i64 0, .int .i64 0, .int .i64 0, .int .i64 0, .int .i64 0, .int .i64 0] []),
 oP 9 (.move (.t 0)),
 oQ 10 (.append false 6 48 (.t 8) (.t 9)),
 oP 1 (.move (.t 10))])
 (.seq (.region 0 [oP 11 (.move (.t 1)),
 oQ 12 (.call 1 42 [(.c (.int .i64 0)), (.c (.int .i64 0)), (.c (.int .i64 5)), (.c (.int .i64 0)), (.c (.int .i64 2)), (.c (.int .i64 3))]),
 oP 13 (.idxSl 6 (.t 11) (.c (.int .i64 1))),
 ⟨none, .store 6 (.t 13) (.t 12), none, none, []⟩])
 (.seq (.region 0 [oP 14 (.move (.t 0)),
 oP 15 (.move (.t 1)),
 oP 0 (.move (.t 14)),
 oP 1 (.move (.t 15))])
 (.ret)))))⟩
/-- almadraba/cuts.Check -/
def f26 : AFn := ⟨6, [.tmp 2],
 .seq (.region 0 [oP 2 (.move (.c (.int .i64 0)))])
 (.seq (.seq (.region 0 [oP 3 (.move (.t 0)),
 oQ 4 (.call 1 43 [(.t 3)]),
 oP 5 (.un .not (.t 4))])
 (.cond (.t 5) (.seq (.region 0 [oP 2 (.move (.c (.int .i64 70)))])
 (.ret))
 (.skip)))
 (.seq (.region 0 [oP 2 (.move (.c (.int .i64 0)))])
 (.ret)))⟩
/-- (almadraba/cuts.table).between -/
def f27 : AFn := ⟨29, [.cell true 2 4, .tmp 5],
 .seq (.region 0 [oQ 3 (.box (.t 1)),
 oQ 4 (.alloc [.int .i64 0, .int .i64 0]),
 oP 5 (.move (.c (.int .i64 0)))])
 (.seq (.region 0 [oP 8 (.move (.t 0)),
 oP 9 (.move (.t 0)),
 oQ 10 (.load true 8 (.t 3)),
 oP 11 (.mkFn 46 [(.t 10)] []),
 oQ 12 (.call 0 45 [(.t 9), (.t 11)]),
 oQ 13 (.call 3 44 [(.t 8), (.t 12)]),
 oP 6 (.move (.t 13))])
 (.seq (.seq (.region 0 [oP 14 (.move (.t 6)),
 oP 15 (.bin .eql (.t 14) (.c (.int .i64 9223372036854775807)))])
 (.cond (.t 15) (.seq (.region 0 [oP 16 (.build [.int .i64 0, .int .i64 0] []),
 ⟨none, .store 2 (.t 4) (.t 16), none, none, []⟩,
 oP 5 (.move (.c (.int .i64 3)))])
 (.ret))
 (.skip)))
 (.seq (.region 0 [oP 17 (.move (.t 0)),
 oP 18 (.move (.t 0)),
 oP 19 (.build [.int .i64 0, .int .i64 0, .int .i64 0, .int .i64 0, .int .i64 0, .int .i64 0, .int .i64 0, .int .i64 0] []),
 oQ 20 (.load true 8 (.t 3)),
 oQ 21 (.call 1 47 [(.t 19), (.t 20)]),
 oP 22 (.mkFn 46 [(.t 21)] []),
 oQ 23 (.call 0 45 [(.t 18), (.t 22)]),
 oQ 24 (.call 3 44 [(.t 17), (.t 23)]),
 oP 25 (.un .neg (.t 24)),
 oP 7 (.move (.t 25))])
 (.seq (.region 0 [oP 26 (.move (.t 6)),
 oP 27 (.move (.t 7)),
 oP 28 (.build [.int .i64 0, .int .i64 0] [(0, 1, (.t 26)), (1, 1, (.t 27))]),
 ⟨none, .store 2 (.t 4) (.t 28), none, none, []⟩,
 oP 5 (.move (.c (.int .i64 0)))])
 (.ret)))))⟩
/-- (almadraba/cuts.table).whole -/
def f28 : AFn := ⟨20, [.cell true 8 2],
 .seq (.region 0 [oQ 2 (.alloc [.int .i64 0, .int .i64 0, .int .i64 0, .int .i64 0, .int .i64 0, .int .i64 0, .int .i64 0, .int .i64 0])])
 (.seq (.region 0 [oQ 3 (.alloc [.int .i64 0, .int .i64 0, .int .i64 0, .int .i64 0, .int .i64 0, .int .i64 0, .int .i64 0, .int .i64 0])])
 (.seq (.seq (.region 0 [oP 6 (.move (.t 0)),
 oP 7 (.lenS (.t 6)),
 oP 8 (.move (.c (.int .i64 0)))])
 (.block 0 (.loop (.seq (.region 0 [oP 9 (.bin .lss (.t 8) (.t 7))])
 (.seq (.cond (.t 9) (.skip)
 (.exit 0))
 (.seq (.block 1 (.seq (.region 0 [oP 10 (.move (.t 8)),
 oP 11 (.idxSl 6 (.t 6) (.t 8)),
 oQ 12 (.load true 6 (.t 11)),
 oQ 5 (.alloc [.int .i64 0, .int .i64 0, .int .i64 0, .int .i64 0, .int .i64 0, .int .i64 0]),
 oP 4 (.move (.t 10)),
 ⟨none, .store 6 (.t 5) (.t 12), none, none, []⟩])
 (.seq (.region 0 [oP 13 (.fieldAddr 0 (.t 5)),
 oQ 14 (.load false 1 (.t 13)),
 oP 15 (.bin .eql (.t 14) (.c (.int .i64 (-1))))])
 (.cond (.t 15) (.region 0 [oP 16 (.move (.t 4)),
 oP 17 (.idxArr 8 1 (.t 3) (.t 16)),
 ⟨none, .store 1 (.t 17) (.c (.int .i64 1)), none, none, []⟩])
 (.skip)))))
 (.region 0 [oP 18 (.bin .add (.t 8) (.c (.int .i64 1))),
 oP 8 (.move (.t 18))])))))))
 (.seq (.region 0 [oQ 19 (.load true 8 (.t 3)),
 ⟨none, .store 8 (.t 2) (.t 19), none, none, []⟩])
 (.ret))))⟩
/-- almadraba/almadrabaref05.Copy -/
def f29 : AFn := ⟨14, [.cell true 4 2],
 .seq (.region 0 [oQ 1 (.box (.t 0)),
 oQ 2 (.alloc [.int .i64 0, .int .i64 0, .nils, .nils])])
 (.seq (.region 4 [oP 3 (.fieldAddr 0 (.t 1)),
 ⟨(some 4), .load true 2 (.t 3), none, none, [0, 1, 2, 3]⟩,
 ⟨(some 5), .buildSlice 2 0 [.int .i64 0, .int .i64 0] [], none, (some 0), []⟩,
 oP 6 (.fieldAddr 2 (.t 1)),
 ⟨(some 7), .load false 1 (.t 6), none, none, [0, 1, 2, 3]⟩,
 ⟨(some 8), .append true 2 16 (.t 5) (.t 7), none, (some 1), [2, 3]⟩,
 ⟨(some 9), .buildSlice 2 0 [.int .i64 0, .int .i64 0] [], none, (some 2), []⟩,
 oP 10 (.fieldAddr 3 (.t 1)),
 ⟨(some 11), .load false 1 (.t 10), none, none, [0, 1, 2, 3]⟩,
 ⟨(some 12), .append true 2 16 (.t 9) (.t 11), none, (some 3), []⟩,
 oP 13 (.build [.int .i64 0, .int .i64 0, .nils, .nils] [(0, 2, (.t 4)), (2, 1, (.t 8)), (3, 1, (.t 12))]),
 ⟨none, .store 4 (.t 2) (.t 13), none, none, []⟩])
 (.ret))⟩
/-- almadraba/lifts.fitBoats -/
def f30 : AFn := ⟨18, [.tmp 2],
 .seq (.region 0 [oQ 1 (.box (.t 0)),
 oP 2 (.move (.c (.int .i64 0)))])
 (.seq (.region 0 [oQ 4 (.load true 4 (.t 1)),
 oQ 5 (.call 1 48 [(.t 4)]),
 oP 3 (.move (.t 5))])
 (.seq (.seq (.region 0 [oP 6 (.move (.t 3)),
 oP 7 (.bin .eql (.t 6) (.c (.int .i64 0))),
 oP 8 (.move (.t 7)),
 oG 9 8 true (.fieldAddr 3 (.t 1)),
 ⟨(some 10), .load false 1 (.t 9), (some (8, true)), none, []⟩,
 oG 11 8 true (.lenS (.t 10)),
 oG 12 8 true (.fieldAddr 2 (.t 1)),
 ⟨(some 13), .load false 1 (.t 12), (some (8, true)), none, []⟩,
 oG 14 8 true (.lenS (.t 13)),
 oG 15 8 true (.bin .lss (.t 11) (.t 14)),
 oP 16 (.pick (.t 8) (.t 15) (.c (.bool false)))])
 (.cond (.t 16) (.seq (.region 0 [oP 2 (.move (.c (.int .i64 3)))])
 (.ret))
 (.skip)))
 (.seq (.region 0 [oP 17 (.move (.t 3)),
 oP 2 (.move (.t 17))])
 (.ret))))⟩
/-- (almadraba/lifts.sea).most -/
def f31 : AFn := ⟨14, [.tmp 2],
 .seq (.region 0 [oQ 1 (.box (.t 0)),
 oP 2 (.move (.c (.int .i64 0)))])
 (.seq (.region 0 [oQ 3 (.alloc [.int .i64 0]),
 ⟨none, .store 1 (.t 3) (.c (.int .i64 0)), none, none, []⟩])
 (.seq (.seq (.region 0 [oQ 5 (.load true 4 (.t 1)),
 oP 6 (.mkFn 49 [(.t 5)] [])])
 (.block 0 (.rangeFunc (.t 6) [7] (.region 0 [oP 4 (.move (.t 7))])
 (.block 1 (.region 0 [oQ 8 (.load false 1 (.t 3)),
 oQ 9 (.load true 4 (.t 1)),
 oP 10 (.move (.t 4)),
 oQ 11 (.call 1 38 [(.t 9), (.t 10)]),
 oP 12 (.minmax true (.t 8) [(.t 11)]),
 ⟨none, .store 1 (.t 3) (.t 12), none, none, []⟩])))))
 (.seq (.region 0 [oQ 13 (.load false 1 (.t 3)),
 oP 2 (.move (.t 13))])
 (.ret))))⟩
/-- almadraba/lifts.cheapest -/
def f32 : AFn := ⟨23, [.tmp 2, .tmp 3, .tmp 4],
 .seq (.region 0 [oQ 1 (.box (.t 0)),
 oP 2 (.move (.c (.nils))),
 oP 3 (.move (.c (.int .i64 0))),
 oP 4 (.move (.c (.int .i64 0)))])
 (.seq (.seq (.region 0 [oQ 8 (.load true 4 (.t 1)),
 oQ 9 (.call 1 48 [(.t 8)]),
 oP 5 (.move (.t 9))])
 (.seq (.region 0 [oP 10 (.move (.t 5)),
 oP 11 (.bin .neq (.t 10) (.c (.int .i64 0)))])
 (.cond (.t 11) (.seq (.region 0 [oP 12 (.move (.t 5)),
 oP 2 (.move (.c (.nils))),
 oP 3 (.move (.c (.int .i64 0))),
 oP 4 (.move (.t 12))])
 (.ret))
 (.skip))))
 (.seq (.region 0 [oQ 14 (.load true 4 (.t 1)),
 oP 15 (.build [.int .i64 0, .int .i64 0, .nils, .nils] [(0, 4, (.t 14))]),
 oQ 16 (.call 1 50 [(.t 15)]),
 oP 13 (.move (.t 16)),
 oP 17 (.extract (.t 13) 0),
 oP 18 (.extract (.t 13) 1),
 oP 6 (.move (.t 17)),
 oP 7 (.move (.t 18))])
 (.seq (.seq (.region 0 [oP 19 (.move (.t 6)),
 oP 20 (.isNil (.t 19) (.c (.nils)))])
 (.cond (.t 20) (.seq (.region 0 [oP 2 (.move (.c (.nils))),
 oP 3 (.move (.c (.int .i64 0))),
 oP 4 (.move (.c (.int .i64 3)))])
 (.ret))
 (.skip)))
 (.seq (.region 0 [oP 21 (.move (.t 6)),
 oP 22 (.move (.t 7)),
 oP 2 (.move (.t 21)),
 oP 3 (.move (.t 22)),
 oP 4 (.move (.c (.int .i64 0)))])
 (.ret)))))⟩
/-- almadraba/almadrabaref05.IsBoat -/
def f33 : AFn := ⟨11, [.tmp 4],
 .seq (.region 0 [oQ 2 (.box (.t 0)),
 oP 4 (.move (.c (.bool false)))])
 (.seq (.region 0 [oP 5 (.move (.t 1)),
 oP 6 (.fieldAddr 3 (.t 2)),
 oQ 7 (.load false 1 (.t 6)),
 oP 8 (.lenS (.t 7)),
 oP 9 (.bin .sub (.t 8) (.c (.int .i64 1))),
 oQ 10 (.call 1 21 [(.t 5), (.c (.int .i64 0)), (.t 9)]),
 oP 4 (.move (.t 10))])
 (.ret))⟩
/-- almadraba/almadrabaref01.In -/
def f34 : AFn := ⟨18, [.tmp 4],
 .seq (.region 0 [oP 4 (.move (.c (.bool false)))])
 (.seq (.seq (.region 0 [oP 5 (.move (.c (.int .i64 0)))])
 (.block 0 (.loop (.seq (.seq (.region 0 [oP 6 (.move (.t 5)),
 oP 7 (.move (.t 0)),
 oP 8 (.lenS (.t 7)),
 oP 9 (.bin .lss (.t 6) (.t 8))])
 (.cond (.t 9) (.skip)
 (.exit 0)))
 (.seq (.block 1 (.seq (.region 0 [oP 12 (.move (.t 0)),
 oP 13 (.move (.t 5)),
 oP 14 (.idxSl 1 (.t 12) (.t 13)),
 oQ 15 (.load false 1 (.t 14)),
 oP 16 (.move (.t 1)),
 oP 17 (.bin .eql (.t 15) (.t 16))])
 (.cond (.t 17) (.seq (.region 0 [oP 4 (.move (.c (.bool true)))])
 (.ret))
 (.skip))))
 (.region 0 [oP 10 (.move (.t 5)),
 oP 11 (.bin .add (.t 10) (.c (.int .i64 1))),
 oP 5 (.move (.t 11))]))))))
 (.seq (.region 0 [oP 4 (.move (.c (.bool false)))])
 (.ret)))⟩
/-- almadraba/lifts.fitCrew -/
def f35 : AFn := ⟨17, [.tmp 4],
 .seq (.region 0 [oQ 2 (.box (.t 0)),
 oP 4 (.move (.c (.int .i64 0)))])
 (.seq (.region 0 [oQ 6 (.load true 4 (.t 2)),
 oQ 7 (.call 1 48 [(.t 6)]),
 oP 5 (.move (.t 7))])
 (.seq (.seq (.region 0 [oP 8 (.move (.t 5)),
 oP 9 (.bin .eql (.t 8) (.c (.int .i64 0))),
 oP 10 (.move (.t 9)),
 ⟨(some 11), .load true 4 (.t 2), (some (10, true)), none, []⟩,
 oG 12 10 true (.move (.t 1)),
 ⟨(some 13), .call 1 51 [(.t 11), (.t 12)], (some (10, true)), none, []⟩,
 oG 14 10 true (.un .not (.t 13)),
 oP 15 (.pick (.t 10) (.t 14) (.c (.bool false)))])
 (.cond (.t 15) (.seq (.region 0 [oP 4 (.move (.c (.int .i64 1)))])
 (.ret))
 (.skip)))
 (.seq (.region 0 [oP 16 (.move (.t 5)),
 oP 4 (.move (.t 16))])
 (.ret))))⟩
/-- (almadraba/lifts.sea).holds -/
def f36 : AFn := ⟨13, [.tmp 4],
 .seq (.region 0 [oQ 2 (.box (.t 0)),
 oP 4 (.move (.c (.bool false)))])
 (.seq (.region 0 [oQ 5 (.load true 4 (.t 2)),
 oP 6 (.move (.t 1)),
 oQ 7 (.call 1 38 [(.t 5), (.t 6)]),
 oP 8 (.fieldAddr 0 (.t 2)),
 oP 9 (.fieldAddr 0 (.t 8)),
 oP 10 (.fieldAddr 1 (.t 9)),
 oQ 11 (.load false 1 (.t 10)),
 oP 12 (.bin .geq (.t 7) (.t 11)),
 oP 4 (.move (.t 12))])
 (.ret))⟩
end Go.Proofs.Ytokhneffambgmaa.T
