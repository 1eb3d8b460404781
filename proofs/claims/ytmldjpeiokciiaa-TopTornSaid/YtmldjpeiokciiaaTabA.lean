/-
The code of functions of the seat, as the abstract machine has it (printed by a tool of ours off the dump).
-/
import Derived.Test.YtmldjpeiokciiaaAmX
namespace Go.Proofs.Ytmldjpeiokciiaa.T
open Go Go.Am
abbrev oP (n : Nat) (p : POp) : AOper := ⟨some n, .p p, none, none, []⟩
abbrev oQ (n : Nat) (p : AOp) : AOper := ⟨some n, p, none, none, []⟩
abbrev oG (n m : Nat) (b : Bool) (p : POp) : AOper := ⟨some n, .p p, some (m, b), none, []⟩
/-- gosem.cut.init -/
def f2 : AFn := ⟨1, [],
 .region 0 [oQ 0 (.call 1 1 [])]⟩
/-- almadraba/almadrabatop.TopTorn -/
def f3 : AFn := ⟨194, [.tmp 4],
 .seq (.region 0 [oQ 2 (.box (.t 0)),
 oQ 3 (.box (.t 1)),
 oP 4 (.move (.c (.bool false)))])
 (.seq (.seq (.region 0 [oQ 18 (.load true 7 (.t 2)),
 oP 19 (.fieldAddr 0 (.t 3)),
 oQ 20 (.load true 3 (.t 19)),
 oQ 21 (.call 1 4 [(.t 18), (.t 20)]),
 oP 22 (.move (.t 21)),
 ⟨(some 23), .load true 7 (.t 2), (some (22, false)), none, []⟩,
 oG 24 22 false (.fieldAddr 3 (.t 3)),
 ⟨(some 25), .load true 3 (.t 24), (some (22, false)), none, []⟩,
 ⟨(some 26), .call 1 4 [(.t 23), (.t 25)], (some (22, false)), none, []⟩,
 oP 27 (.pick (.t 22) (.c (.bool true)) (.t 26)),
 oP 28 (.move (.t 27)),
 ⟨(some 29), .load true 7 (.t 2), (some (28, false)), none, []⟩,
 ⟨(some 30), .call 1 5 [(.t 29)], (some (28, false)), none, []⟩,
 oG 31 28 false (.bin .neq (.t 30) (.c (.int .i64 0))),
 oP 32 (.pick (.t 28) (.c (.bool true)) (.t 31)),
 oP 33 (.move (.t 32)),
 ⟨(some 34), .load true 7 (.t 2), (some (33, false)), none, []⟩,
 oG 35 33 false (.fieldAddr 0 (.t 3)),
 ⟨(some 36), .load true 3 (.t 35), (some (33, false)), none, []⟩,
 ⟨(some 37), .call 1 6 [(.t 34), (.t 36)], (some (33, false)), none, []⟩,
 oG 38 33 false (.un .not (.t 37)),
 oP 39 (.pick (.t 33) (.c (.bool true)) (.t 38)),
 oP 40 (.move (.t 39)),
 ⟨(some 41), .load true 7 (.t 2), (some (40, false)), none, []⟩,
 oG 42 40 false (.fieldAddr 3 (.t 3)),
 ⟨(some 43), .load true 3 (.t 42), (some (40, false)), none, []⟩,
 ⟨(some 44), .call 1 6 [(.t 41), (.t 43)], (some (40, false)), none, []⟩,
 oG 45 40 false (.un .not (.t 44)),
 oP 46 (.pick (.t 40) (.c (.bool true)) (.t 45)),
 oP 47 (.move (.t 46)),
 oG 48 47 false (.fieldAddr 3 (.t 3)),
 oG 49 47 false (.fieldAddr 0 (.t 48)),
 ⟨(some 50), .load false 1 (.t 49), (some (47, false)), none, []⟩,
 oG 51 47 false (.fieldAddr 0 (.t 3)),
 oG 52 47 false (.fieldAddr 0 (.t 51)),
 ⟨(some 53), .load false 1 (.t 52), (some (47, false)), none, []⟩,
 oG 54 47 false (.bin .gtr (.t 50) (.t 53)),
 oP 55 (.pick (.t 47) (.c (.bool true)) (.t 54)),
 oP 56 (.move (.t 55)),
 oG 57 56 false (.fieldAddr 3 (.t 3)),
 oG 58 56 false (.fieldAddr 1 (.t 57)),
 ⟨(some 59), .load false 1 (.t 58), (some (56, false)), none, []⟩,
 oG 60 56 false (.fieldAddr 0 (.t 3)),
 oG 61 56 false (.fieldAddr 1 (.t 60)),
 ⟨(some 62), .load false 1 (.t 61), (some (56, false)), none, []⟩,
 oG 63 56 false (.bin .gtr (.t 59) (.t 62)),
 oP 64 (.pick (.t 56) (.c (.bool true)) (.t 63)),
 oP 65 (.move (.t 64)),
 oG 66 65 false (.fieldAddr 6 (.t 3)),
 ⟨(some 67), .load false 1 (.t 66), (some (65, false)), none, []⟩,
 oG 68 65 false (.lenS (.t 67)),
 oG 69 65 false (.fieldAddr 5 (.t 2)),
 ⟨(some 70), .load false 1 (.t 69), (some (65, false)), none, []⟩,
 oG 71 65 false (.lenS (.t 70)),
 oG 72 65 false (.bin .neq (.t 68) (.t 71)),
 oP 73 (.pick (.t 65) (.c (.bool true)) (.t 72)),
 oP 74 (.move (.t 73)),
 oG 75 74 false (.fieldAddr 7 (.t 3)),
 ⟨(some 76), .load false 1 (.t 75), (some (74, false)), none, []⟩,
 oG 77 74 false (.fieldAddr 6 (.t 3)),
 ⟨(some 78), .load false 1 (.t 77), (some (74, false)), none, []⟩,
 oG 79 74 false (.build [.int .i64 0, .nils, .nils] [(0, 1, (.t 76)), (1, 1, (.t 78))]),
 ⟨(some 80), .call 1 7 [(.t 79)], (some (74, false)), none, []⟩,
 oG 81 74 false (.bin .neq (.t 80) (.c (.int .i64 0))),
 oP 82 (.pick (.t 74) (.c (.bool true)) (.t 81))])
 (.cond (.t 82) (.seq (.region 0 [oQ 83 (.call 1 8 []),
 oP 4 (.move (.t 83))])
 (.ret))
 (.skip)))
 (.seq (.seq (.region 0 [oP 5 (.move (.c (.int .i64 0)))])
 (.block 0 (.loop (.seq (.seq (.region 0 [oP 84 (.move (.t 5)),
 oP 85 (.fieldAddr 4 (.t 2)),
 oQ 86 (.load false 1 (.t 85)),
 oP 87 (.lenS (.t 86)),
 oP 88 (.bin .lss (.t 84) (.t 87))])
 (.cond (.t 88) (.skip)
 (.exit 0)))
 (.seq (.block 1 (.seq (.region 0 [oP 91 (.fieldAddr 3 (.t 3)),
 oP 92 (.fieldAddr 2 (.t 91)),
 oQ 93 (.load false 1 (.t 92)),
 oP 94 (.move (.t 5)),
 oP 95 (.idxSl 1 (.t 93) (.t 94)),
 oQ 96 (.load false 1 (.t 95)),
 oP 97 (.fieldAddr 0 (.t 3)),
 oP 98 (.fieldAddr 2 (.t 97)),
 oQ 99 (.load false 1 (.t 98)),
 oP 100 (.move (.t 5)),
 oP 101 (.idxSl 1 (.t 99) (.t 100)),
 oQ 102 (.load false 1 (.t 101)),
 oP 103 (.bin .lss (.t 96) (.t 102))])
 (.cond (.t 103) (.seq (.region 0 [oQ 104 (.call 1 8 []),
 oP 4 (.move (.t 104))])
 (.ret))
 (.skip))))
 (.region 0 [oP 89 (.move (.t 5)),
 oP 90 (.bin .add (.t 89) (.c (.int .i64 1))),
 oP 5 (.move (.t 90))]))))))
 (.seq (.region 0 [oQ 106 (.load true 7 (.t 2)),
 oP 107 (.fieldAddr 0 (.t 3)),
 oQ 108 (.load true 3 (.t 107)),
 oQ 109 (.load true 8 (.t 3)),
 oQ 110 (.call 1 9 [(.t 106), (.t 108), (.t 109)]),
 oP 105 (.move (.t 110)),
 oP 111 (.extract (.t 105) 0),
 oP 112 (.extract (.t 105) 1),
 oQ 6 (.alloc [.int .i64 0, .nils, .nils]),
 ⟨none, .store 3 (.t 6) (.t 111), none, none, []⟩,
 oP 7 (.move (.t 112))])
 (.seq (.region 0 [oQ 114 (.load true 7 (.t 2)),
 oP 115 (.fieldAddr 3 (.t 3)),
 oQ 116 (.load true 3 (.t 115)),
 oQ 117 (.load true 8 (.t 3)),
 oQ 118 (.call 1 9 [(.t 114), (.t 116), (.t 117)]),
 oP 113 (.move (.t 118)),
 oP 119 (.extract (.t 113) 0),
 oP 120 (.extract (.t 113) 1),
 oQ 8 (.alloc [.int .i64 0, .nils, .nils]),
 ⟨none, .store 3 (.t 8) (.t 119), none, none, []⟩,
 oP 9 (.move (.t 120))])
 (.seq (.seq (.region 0 [oP 121 (.move (.t 7)),
 oP 122 (.un .not (.t 121)),
 oP 123 (.move (.t 122)),
 oG 124 123 false (.move (.t 9)),
 oG 125 123 false (.un .not (.t 124)),
 oP 126 (.pick (.t 123) (.c (.bool true)) (.t 125))])
 (.cond (.t 126) (.seq (.region 0 [oP 4 (.move (.c (.bool false)))])
 (.ret))
 (.skip)))
 (.seq (.region 0 [oQ 128 (.load true 3 (.t 6)),
 oQ 129 (.call 1 10 [(.t 128)]),
 oP 127 (.move (.t 129)),
 oP 130 (.extract (.t 127) 0),
 oP 131 (.extract (.t 127) 1),
 oP 10 (.move (.t 130)),
 oP 11 (.move (.t 131))])
 (.seq (.region 0 [oQ 133 (.load true 3 (.t 8)),
 oQ 134 (.call 1 10 [(.t 133)]),
 oP 132 (.move (.t 134)),
 oP 135 (.extract (.t 132) 0),
 oP 136 (.extract (.t 132) 1),
 oP 12 (.move (.t 135)),
 oP 13 (.move (.t 136))])
 (.seq (.region 0 [oQ 138 (.load true 3 (.t 6)),
 oQ 139 (.call 1 11 [(.t 138)]),
 oP 137 (.move (.t 139)),
 oP 140 (.extract (.t 137) 0),
 oP 141 (.extract (.t 137) 1),
 oP 14 (.move (.t 140)),
 oP 15 (.move (.t 141))])
 (.seq (.region 0 [oQ 143 (.load true 3 (.t 8)),
 oQ 144 (.call 1 11 [(.t 143)]),
 oP 142 (.move (.t 144)),
 oP 145 (.extract (.t 142) 0),
 oP 146 (.extract (.t 142) 1),
 oP 16 (.move (.t 145)),
 oP 17 (.move (.t 146))])
 (.seq (.seq (.region 0 [oP 147 (.move (.t 11)),
 oP 148 (.bin .neq (.t 147) (.c (.int .i64 0))),
 oP 149 (.move (.t 148)),
 oG 150 149 false (.move (.t 13)),
 oG 151 149 false (.bin .neq (.t 150) (.c (.int .i64 0))),
 oP 152 (.pick (.t 149) (.c (.bool true)) (.t 151)),
 oP 153 (.move (.t 152)),
 oG 154 153 false (.move (.t 15)),
 oG 155 153 false (.bin .neq (.t 154) (.c (.int .i64 0))),
 oP 156 (.pick (.t 153) (.c (.bool true)) (.t 155)),
 oP 157 (.move (.t 156)),
 oG 158 157 false (.move (.t 17)),
 oG 159 157 false (.bin .neq (.t 158) (.c (.int .i64 0))),
 oP 160 (.pick (.t 157) (.c (.bool true)) (.t 159)),
 oP 161 (.move (.t 160)),
 oG 162 161 false (.move (.t 12)),
 oG 163 161 false (.move (.t 10)),
 oG 164 161 false (.bin .gtr (.t 162) (.t 163)),
 oP 165 (.pick (.t 161) (.c (.bool true)) (.t 164)),
 oP 166 (.move (.t 165)),
 oG 167 166 false (.move (.t 16)),
 oG 168 166 false (.move (.t 14)),
 oG 169 166 false (.bin .gtr (.t 167) (.t 168)),
 oP 170 (.pick (.t 166) (.c (.bool true)) (.t 169)),
 oP 171 (.move (.t 170)),
 oG 172 171 false (.move (.t 10)),
 oG 173 171 false (.move (.t 12)),
 oG 174 171 false (.move (.t 14)),
 oG 175 171 false (.move (.t 16)),
 oG 176 171 false (.minmax false (.t 172) [(.t 173), (.t 174), (.t 175)]),
 oG 177 171 false (.bin .lss (.t 176) (.c (.int .i64 0))),
 oP 178 (.pick (.t 171) (.c (.bool true)) (.t 177))])
 (.cond (.t 178) (.seq (.region 0 [oP 4 (.move (.c (.bool false)))])
 (.ret))
 (.skip)))
 (.seq (.region 0 [oP 179 (.fieldAddr 1 (.t 6)),
 oQ 180 (.load false 1 (.t 179)),
 oP 181 (.lenS (.t 180)),
 oP 182 (.bin .gtr (.t 181) (.c (.int .i64 0))),
 oP 183 (.move (.t 182)),
 oG 184 183 false (.move (.t 10)),
 oG 185 183 false (.bin .eql (.t 184) (.c (.int .i64 0))),
 oG 186 183 false (.move (.t 185)),
 oG 187 186 true (.move (.t 14)),
 oG 188 186 true (.bin .eql (.t 187) (.c (.int .i64 0))),
 oG 189 183 false (.pick (.t 186) (.t 188) (.c (.bool false))),
 oP 190 (.pick (.t 183) (.c (.bool true)) (.t 189)),
 oP 191 (.move (.t 190)),
 ⟨(some 192), .call 1 8 [], (some (191, true)), none, []⟩,
 oP 193 (.pick (.t 191) (.t 192) (.c (.bool false))),
 oP 4 (.move (.t 193))])
 (.ret))))))))))))⟩
/-- almadraba/almadrabalaw02.Huge -/
def f4 : AFn := ⟨27, [.tmp 4],
 .seq (.region 0 [oQ 2 (.box (.t 0)),
 oQ 3 (.box (.t 1)),
 oP 4 (.move (.c (.bool false)))])
 (.seq (.region 0 [oP 5 (.fieldAddr 4 (.t 2)),
 oQ 6 (.load false 1 (.t 5)),
 oP 7 (.lenS (.t 6)),
 oP 8 (.bin .gtr (.t 7) (.c (.int .i64 40))),
 oP 9 (.move (.t 8)),
 oG 10 9 false (.fieldAddr 5 (.t 2)),
 ⟨(some 11), .load false 1 (.t 10), (some (9, false)), none, []⟩,
 oG 12 9 false (.lenS (.t 11)),
 oG 13 9 false (.bin .gtr (.t 12) (.c (.int .i64 40))),
 oP 14 (.pick (.t 9) (.c (.bool true)) (.t 13)),
 oP 15 (.move (.t 14)),
 oG 16 15 false (.fieldAddr 6 (.t 2)),
 ⟨(some 17), .load false 1 (.t 16), (some (15, false)), none, []⟩,
 oG 18 15 false (.lenS (.t 17)),
 oG 19 15 false (.bin .gtr (.t 18) (.c (.int .i64 40))),
 oP 20 (.pick (.t 15) (.c (.bool true)) (.t 19)),
 oP 21 (.move (.t 20)),
 oG 22 21 false (.fieldAddr 2 (.t 3)),
 ⟨(some 23), .load false 1 (.t 22), (some (21, false)), none, []⟩,
 oG 24 21 false (.lenS (.t 23)),
 oG 25 21 false (.bin .gtr (.t 24) (.c (.int .i64 40))),
 oP 26 (.pick (.t 21) (.c (.bool true)) (.t 25)),
 oP 4 (.move (.t 26))])
 (.ret))⟩
/-- almadraba/almadrabaref02.Check -/
def f5 : AFn := ⟨123, [.tmp 2],
 .seq (.region 0 [oQ 1 (.box (.t 0)),
 oP 2 (.move (.c (.int .i64 0)))])
 (.seq (.seq (.region 0 [oP 7 (.fieldAddr 0 (.t 1)),
 oQ 8 (.load true 2 (.t 7)),
 oQ 9 (.call 1 12 [(.t 8), (.c (.int .i64 20))]),
 oP 10 (.un .not (.t 9)),
 oP 11 (.move (.t 10)),
 oG 12 11 false (.fieldAddr 2 (.t 1)),
 ⟨(some 13), .load true 2 (.t 12), (some (11, false)), none, []⟩,
 ⟨(some 14), .call 1 12 [(.t 13), (.c (.int .i64 20))], (some (11, false)), none, []⟩,
 oG 15 11 false (.un .not (.t 14)),
 oP 16 (.pick (.t 11) (.c (.bool true)) (.t 15)),
 oP 17 (.move (.t 16)),
 oG 18 17 false (.fieldAddr 4 (.t 1)),
 ⟨(some 19), .load false 1 (.t 18), (some (17, false)), none, []⟩,
 oG 20 17 false (.lenS (.t 19)),
 oG 21 17 false (.bin .gtr (.t 20) (.c (.int .i64 3))),
 oP 22 (.pick (.t 17) (.c (.bool true)) (.t 21)),
 oP 23 (.move (.t 22)),
 oG 24 23 false (.fieldAddr 5 (.t 1)),
 ⟨(some 25), .load false 1 (.t 24), (some (23, false)), none, []⟩,
 oG 26 23 false (.lenS (.t 25)),
 oG 27 23 false (.bin .gtr (.t 26) (.c (.int .i64 6))),
 oP 28 (.pick (.t 23) (.c (.bool true)) (.t 27)),
 oP 29 (.move (.t 28)),
 oG 30 29 false (.fieldAddr 6 (.t 1)),
 ⟨(some 31), .load false 1 (.t 30), (some (29, false)), none, []⟩,
 oG 32 29 false (.lenS (.t 31)),
 oG 33 29 false (.fieldAddr 5 (.t 1)),
 ⟨(some 34), .load false 1 (.t 33), (some (29, false)), none, []⟩,
 oG 35 29 false (.lenS (.t 34)),
 oG 36 29 false (.bin .sub (.t 35) (.c (.int .i64 1))),
 oG 37 29 false (.minmax true (.c (.int .i64 0)) [(.t 36)]),
 oG 38 29 false (.bin .neq (.t 32) (.t 37)),
 oP 39 (.pick (.t 29) (.c (.bool true)) (.t 38))])
 (.cond (.t 39) (.seq (.region 0 [oP 2 (.move (.c (.int .i64 20)))])
 (.ret))
 (.skip)))
 (.seq (.seq (.region 0 [oP 3 (.move (.c (.int .i64 0)))])
 (.block 0 (.loop (.seq (.seq (.region 0 [oP 40 (.move (.t 3)),
 oP 41 (.fieldAddr 4 (.t 1)),
 oQ 42 (.load false 1 (.t 41)),
 oP 43 (.lenS (.t 42)),
 oP 44 (.bin .lss (.t 40) (.t 43))])
 (.cond (.t 44) (.skip)
 (.exit 0)))
 (.seq (.block 1 (.seq (.region 0 [oP 47 (.fieldAddr 4 (.t 1)),
 oQ 48 (.load false 1 (.t 47)),
 oP 49 (.move (.t 3)),
 oP 50 (.idxSl 2 (.t 48) (.t 49)),
 oQ 51 (.load true 2 (.t 50)),
 oQ 52 (.call 1 12 [(.t 51), (.c (.int .i64 9))]),
 oP 53 (.un .not (.t 52))])
 (.cond (.t 53) (.seq (.region 0 [oP 2 (.move (.c (.int .i64 20)))])
 (.ret))
 (.skip))))
 (.region 0 [oP 45 (.move (.t 3)),
 oP 46 (.bin .add (.t 45) (.c (.int .i64 1))),
 oP 3 (.move (.t 46))]))))))
 (.seq (.seq (.region 0 [oP 4 (.move (.c (.int .i64 0)))])
 (.block 2 (.loop (.seq (.seq (.region 0 [oP 54 (.move (.t 4)),
 oP 55 (.fieldAddr 5 (.t 1)),
 oQ 56 (.load false 1 (.t 55)),
 oP 57 (.lenS (.t 56)),
 oP 58 (.bin .lss (.t 54) (.t 57))])
 (.cond (.t 58) (.skip)
 (.exit 2)))
 (.seq (.block 3 (.seq (.region 0 [oP 61 (.fieldAddr 5 (.t 1)),
 oQ 62 (.load false 1 (.t 61)),
 oP 63 (.move (.t 4)),
 oP 64 (.idxSl 2 (.t 62) (.t 63)),
 oP 65 (.fieldAddr 0 (.t 64)),
 oQ 66 (.load false 1 (.t 65)),
 oQ 67 (.call 1 13 [(.t 66), (.c (.int .i64 0)), (.c (.int .i64 20))]),
 oP 68 (.un .not (.t 67)),
 oP 69 (.move (.t 68)),
 oG 70 69 false (.fieldAddr 5 (.t 1)),
 ⟨(some 71), .load false 1 (.t 70), (some (69, false)), none, []⟩,
 oG 72 69 false (.move (.t 4)),
 oG 73 69 false (.idxSl 2 (.t 71) (.t 72)),
 oG 74 69 false (.fieldAddr 1 (.t 73)),
 ⟨(some 75), .load false 1 (.t 74), (some (69, false)), none, []⟩,
 oG 76 69 false (.fieldAddr 4 (.t 1)),
 ⟨(some 77), .load false 1 (.t 76), (some (69, false)), none, []⟩,
 oG 78 69 false (.lenS (.t 77)),
 oG 79 69 false (.bin .sub (.t 78) (.c (.int .i64 1))),
 ⟨(some 80), .call 1 13 [(.t 75), (.c (.int .i64 0)), (.t 79)], (some (69, false)), none, []⟩,
 oG 81 69 false (.un .not (.t 80)),
 oP 82 (.pick (.t 69) (.c (.bool true)) (.t 81))])
 (.cond (.t 82) (.seq (.region 0 [oP 2 (.move (.c (.int .i64 20)))])
 (.ret))
 (.skip))))
 (.region 0 [oP 59 (.move (.t 4)),
 oP 60 (.bin .add (.t 59) (.c (.int .i64 1))),
 oP 4 (.move (.t 60))]))))))
 (.seq (.seq (.region 0 [oP 5 (.move (.c (.int .i64 0)))])
 (.block 4 (.loop (.seq (.seq (.region 0 [oP 83 (.move (.t 5)),
 oP 84 (.fieldAddr 6 (.t 1)),
 oQ 85 (.load false 1 (.t 84)),
 oP 86 (.lenS (.t 85)),
 oP 87 (.bin .lss (.t 83) (.t 86))])
 (.cond (.t 87) (.skip)
 (.exit 4)))
 (.seq (.block 5 (.seq (.region 0 [oP 90 (.fieldAddr 6 (.t 1)),
 oQ 91 (.load false 1 (.t 90)),
 oP 92 (.move (.t 5)),
 oP 93 (.idxSl 5 (.t 91) (.t 92)),
 oQ 94 (.load true 5 (.t 93)),
 oQ 6 (.alloc [.int .i64 0, .int .i64 0, .int .i64 0, .int .i64 0, .int .i64 0]),
 ⟨none, .store 5 (.t 6) (.t 94), none, none, []⟩])
 (.seq (.region 0 [oP 95 (.fieldAddr 0 (.t 6)),
 oQ 96 (.load false 1 (.t 95)),
 oQ 97 (.call 1 13 [(.t 96), (.c (.int .i64 0)), (.c (.int .i64 9))]),
 oP 98 (.un .not (.t 97)),
 oP 99 (.move (.t 98)),
 oG 100 99 false (.fieldAddr 1 (.t 6)),
 ⟨(some 101), .load false 1 (.t 100), (some (99, false)), none, []⟩,
 ⟨(some 102), .call 1 13 [(.t 101), (.c (.int .i64 0)), (.c (.int .i64 9))], (some (99, false)), none, []⟩,
 oG 103 99 false (.un .not (.t 102)),
 oP 104 (.pick (.t 99) (.c (.bool true)) (.t 103)),
 oP 105 (.move (.t 104)),
 oG 106 105 false (.fieldAddr 2 (.t 6)),
 ⟨(some 107), .load false 1 (.t 106), (some (105, false)), none, []⟩,
 ⟨(some 108), .call 1 13 [(.t 107), (.c (.int .i64 0)), (.c (.int .i64 9))], (some (105, false)), none, []⟩,
 oG 109 105 false (.un .not (.t 108)),
 oP 110 (.pick (.t 105) (.c (.bool true)) (.t 109)),
 oP 111 (.move (.t 110)),
 oG 112 111 false (.fieldAddr 3 (.t 6)),
 ⟨(some 113), .load false 1 (.t 112), (some (111, false)), none, []⟩,
 ⟨(some 114), .call 1 13 [(.t 113), (.c (.int .i64 0)), (.c (.int .i64 99))], (some (111, false)), none, []⟩,
 oG 115 111 false (.un .not (.t 114)),
 oP 116 (.pick (.t 111) (.c (.bool true)) (.t 115)),
 oP 117 (.move (.t 116)),
 oG 118 117 false (.fieldAddr 4 (.t 6)),
 ⟨(some 119), .load false 1 (.t 118), (some (117, false)), none, []⟩,
 ⟨(some 120), .call 1 13 [(.t 119), (.c (.int .i64 0)), (.c (.int .i64 99))], (some (117, false)), none, []⟩,
 oG 121 117 false (.un .not (.t 120)),
 oP 122 (.pick (.t 117) (.c (.bool true)) (.t 121))])
 (.cond (.t 122) (.seq (.region 0 [oP 2 (.move (.c (.int .i64 20)))])
 (.ret))
 (.skip)))))
 (.region 0 [oP 88 (.move (.t 5)),
 oP 89 (.bin .add (.t 88) (.c (.int .i64 1))),
 oP 5 (.move (.t 89))]))))))
 (.seq (.region 0 [oP 2 (.move (.c (.int .i64 0)))])
 (.ret))))))⟩
/-- almadraba/almadrabaref02.IsTruth -/
def f6 : AFn := ⟨63, [.tmp 4],
 .seq (.region 0 [oQ 2 (.box (.t 0)),
 oQ 3 (.box (.t 1)),
 oP 4 (.move (.c (.bool false)))])
 (.seq (.seq (.region 0 [oP 6 (.fieldAddr 0 (.t 3)),
 oQ 7 (.load false 1 (.t 6)),
 oP 8 (.fieldAddr 0 (.t 2)),
 oP 9 (.fieldAddr 0 (.t 8)),
 oQ 10 (.load false 1 (.t 9)),
 oP 11 (.fieldAddr 0 (.t 2)),
 oP 12 (.fieldAddr 1 (.t 11)),
 oQ 13 (.load false 1 (.t 12)),
 oQ 14 (.call 1 13 [(.t 7), (.t 10), (.t 13)]),
 oP 15 (.un .not (.t 14)),
 oP 16 (.move (.t 15)),
 oG 17 16 false (.fieldAddr 1 (.t 3)),
 ⟨(some 18), .load false 1 (.t 17), (some (16, false)), none, []⟩,
 oG 19 16 false (.fieldAddr 2 (.t 2)),
 oG 20 16 false (.fieldAddr 0 (.t 19)),
 ⟨(some 21), .load false 1 (.t 20), (some (16, false)), none, []⟩,
 oG 22 16 false (.fieldAddr 2 (.t 2)),
 oG 23 16 false (.fieldAddr 1 (.t 22)),
 ⟨(some 24), .load false 1 (.t 23), (some (16, false)), none, []⟩,
 ⟨(some 25), .call 1 13 [(.t 18), (.t 21), (.t 24)], (some (16, false)), none, []⟩,
 oG 26 16 false (.un .not (.t 25)),
 oP 27 (.pick (.t 16) (.c (.bool true)) (.t 26)),
 oP 28 (.move (.t 27)),
 oG 29 28 false (.fieldAddr 2 (.t 3)),
 ⟨(some 30), .load false 1 (.t 29), (some (28, false)), none, []⟩,
 oG 31 28 false (.lenS (.t 30)),
 oG 32 28 false (.fieldAddr 4 (.t 2)),
 ⟨(some 33), .load false 1 (.t 32), (some (28, false)), none, []⟩,
 oG 34 28 false (.lenS (.t 33)),
 oG 35 28 false (.bin .neq (.t 31) (.t 34)),
 oP 36 (.pick (.t 28) (.c (.bool true)) (.t 35))])
 (.cond (.t 36) (.seq (.region 0 [oP 4 (.move (.c (.bool false)))])
 (.ret))
 (.skip)))
 (.seq (.seq (.region 0 [oP 5 (.move (.c (.int .i64 0)))])
 (.block 0 (.loop (.seq (.seq (.region 0 [oP 37 (.move (.t 5)),
 oP 38 (.fieldAddr 2 (.t 3)),
 oQ 39 (.load false 1 (.t 38)),
 oP 40 (.lenS (.t 39)),
 oP 41 (.bin .lss (.t 37) (.t 40))])
 (.cond (.t 41) (.skip)
 (.exit 0)))
 (.seq (.block 1 (.seq (.region 0 [oP 44 (.fieldAddr 2 (.t 3)),
 oQ 45 (.load false 1 (.t 44)),
 oP 46 (.move (.t 5)),
 oP 47 (.idxSl 1 (.t 45) (.t 46)),
 oQ 48 (.load false 1 (.t 47)),
 oP 49 (.fieldAddr 4 (.t 2)),
 oQ 50 (.load false 1 (.t 49)),
 oP 51 (.move (.t 5)),
 oP 52 (.idxSl 2 (.t 50) (.t 51)),
 oP 53 (.fieldAddr 0 (.t 52)),
 oQ 54 (.load false 1 (.t 53)),
 oP 55 (.fieldAddr 4 (.t 2)),
 oQ 56 (.load false 1 (.t 55)),
 oP 57 (.move (.t 5)),
 oP 58 (.idxSl 2 (.t 56) (.t 57)),
 oP 59 (.fieldAddr 1 (.t 58)),
 oQ 60 (.load false 1 (.t 59)),
 oQ 61 (.call 1 13 [(.t 48), (.t 54), (.t 60)]),
 oP 62 (.un .not (.t 61))])
 (.cond (.t 62) (.seq (.region 0 [oP 4 (.move (.c (.bool false)))])
 (.ret))
 (.skip))))
 (.region 0 [oP 42 (.move (.t 5)),
 oP 43 (.bin .add (.t 42) (.c (.int .i64 1))),
 oP 5 (.move (.t 43))]))))))
 (.seq (.region 0 [oP 4 (.move (.c (.bool true)))])
 (.ret))))⟩
/-- almadraba/almadrabaref04.Check -/
def f7 : AFn := ⟨92, [.tmp 2],
 .seq (.region 0 [oQ 1 (.box (.t 0)),
 oP 2 (.move (.c (.int .i64 0)))])
 (.seq (.seq (.region 0 [oP 6 (.fieldAddr 0 (.t 1)),
 oQ 7 (.load false 1 (.t 6)),
 oQ 8 (.call 1 14 [(.t 7), (.c (.int .i64 1)), (.c (.int .i64 3))]),
 oP 9 (.un .not (.t 8)),
 oP 10 (.move (.t 9)),
 oG 11 10 false (.fieldAddr 1 (.t 1)),
 ⟨(some 12), .load false 1 (.t 11), (some (10, false)), none, []⟩,
 oG 13 10 false (.lenS (.t 12)),
 oG 14 10 false (.bin .gtr (.t 13) (.c (.int .i64 6))),
 oP 15 (.pick (.t 10) (.c (.bool true)) (.t 14)),
 oP 16 (.move (.t 15)),
 oG 17 16 false (.fieldAddr 2 (.t 1)),
 ⟨(some 18), .load false 1 (.t 17), (some (16, false)), none, []⟩,
 oG 19 16 false (.lenS (.t 18)),
 oG 20 16 false (.bin .gtr (.t 19) (.c (.int .i64 8))),
 oP 21 (.pick (.t 16) (.c (.bool true)) (.t 20))])
 (.cond (.t 21) (.seq (.region 0 [oP 2 (.move (.c (.int .i64 40)))])
 (.ret))
 (.skip)))
 (.seq (.seq (.region 0 [oP 3 (.move (.c (.int .i64 0)))])
 (.block 0 (.loop (.seq (.seq (.region 0 [oP 22 (.move (.t 3)),
 oP 23 (.fieldAddr 1 (.t 1)),
 oQ 24 (.load false 1 (.t 23)),
 oP 25 (.lenS (.t 24)),
 oP 26 (.bin .lss (.t 22) (.t 25))])
 (.cond (.t 26) (.skip)
 (.exit 0)))
 (.seq (.block 1 (.seq (.region 0 [oP 29 (.fieldAddr 1 (.t 1)),
 oQ 30 (.load false 1 (.t 29)),
 oP 31 (.move (.t 3)),
 oP 32 (.idxSl 4 (.t 30) (.t 31)),
 oQ 33 (.load true 4 (.t 32)),
 oQ 4 (.alloc [.int .i64 0, .int .i64 0, .int .i64 0, .int .i64 0]),
 ⟨none, .store 4 (.t 4) (.t 33), none, none, []⟩])
 (.seq (.region 0 [oP 34 (.fieldAddr 0 (.t 4)),
 oQ 35 (.load false 1 (.t 34)),
 oQ 36 (.call 1 14 [(.t 35), (.c (.int .i64 0)), (.c (.int .i64 20))]),
 oP 37 (.un .not (.t 36)),
 oP 38 (.move (.t 37)),
 oG 39 38 false (.fieldAddr 1 (.t 4)),
 oG 40 38 false (.fieldAddr 1 (.t 39)),
 ⟨(some 41), .load false 1 (.t 40), (some (38, false)), none, []⟩,
 ⟨(some 42), .call 1 14 [(.t 41), (.c (.int .i64 0)), (.c (.int .i64 20))], (some (38, false)), none, []⟩,
 oG 43 38 false (.un .not (.t 42)),
 oP 44 (.pick (.t 38) (.c (.bool true)) (.t 43)),
 oP 45 (.move (.t 44)),
 oG 46 45 false (.fieldAddr 1 (.t 4)),
 oG 47 45 false (.fieldAddr 0 (.t 46)),
 ⟨(some 48), .load false 1 (.t 47), (some (45, false)), none, []⟩,
 oG 49 45 false (.fieldAddr 1 (.t 4)),
 oG 50 45 false (.fieldAddr 1 (.t 49)),
 ⟨(some 51), .load false 1 (.t 50), (some (45, false)), none, []⟩,
 ⟨(some 52), .call 1 14 [(.t 48), (.c (.int .i64 0)), (.t 51)], (some (45, false)), none, []⟩,
 oG 53 45 false (.un .not (.t 52)),
 oP 54 (.pick (.t 45) (.c (.bool true)) (.t 53)),
 oP 55 (.move (.t 54)),
 oG 56 55 false (.fieldAddr 3 (.t 4)),
 ⟨(some 57), .load false 1 (.t 56), (some (55, false)), none, []⟩,
 ⟨(some 58), .call 1 14 [(.t 57), (.c (.int .i64 1)), (.c (.int .i64 9))], (some (55, false)), none, []⟩,
 oG 59 55 false (.un .not (.t 58)),
 oP 60 (.pick (.t 55) (.c (.bool true)) (.t 59))])
 (.cond (.t 60) (.seq (.region 0 [oP 2 (.move (.c (.int .i64 40)))])
 (.ret))
 (.skip)))))
 (.region 0 [oP 27 (.move (.t 3)),
 oP 28 (.bin .add (.t 27) (.c (.int .i64 1))),
 oP 3 (.move (.t 28))]))))))
 (.seq (.seq (.region 0 [oP 5 (.move (.c (.int .i64 0)))])
 (.block 2 (.loop (.seq (.seq (.region 0 [oP 61 (.move (.t 5)),
 oP 62 (.fieldAddr 2 (.t 1)),
 oQ 63 (.load false 1 (.t 62)),
 oP 64 (.lenS (.t 63)),
 oP 65 (.bin .lss (.t 61) (.t 64))])
 (.cond (.t 65) (.skip)
 (.exit 2)))
 (.seq (.block 3 (.seq (.region 0 [oQ 68 (.load true 3 (.t 1)),
 oP 69 (.fieldAddr 2 (.t 1)),
 oQ 70 (.load false 1 (.t 69)),
 oP 71 (.move (.t 5)),
 oP 72 (.idxSl 2 (.t 70) (.t 71)),
 oP 73 (.fieldAddr 0 (.t 72)),
 oQ 74 (.load false 1 (.t 73)),
 oQ 75 (.call 1 15 [(.t 68), (.t 74)]),
 oP 76 (.un .not (.t 75)),
 oP 77 (.move (.t 76)),
 ⟨(some 78), .load true 3 (.t 1), (some (77, false)), none, []⟩,
 oG 79 77 false (.fieldAddr 2 (.t 1)),
 ⟨(some 80), .load false 1 (.t 79), (some (77, false)), none, []⟩,
 oG 81 77 false (.move (.t 5)),
 oG 82 77 false (.idxSl 2 (.t 80) (.t 81)),
 oG 83 77 false (.fieldAddr 1 (.t 82)),
 ⟨(some 84), .load false 1 (.t 83), (some (77, false)), none, []⟩,
 ⟨(some 85), .call 1 15 [(.t 78), (.t 84)], (some (77, false)), none, []⟩,
 oG 86 77 false (.un .not (.t 85)),
 oP 87 (.pick (.t 77) (.c (.bool true)) (.t 86))])
 (.cond (.t 87) (.seq (.region 0 [oP 2 (.move (.c (.int .i64 40)))])
 (.ret))
 (.skip))))
 (.region 0 [oP 66 (.move (.t 5)),
 oP 67 (.bin .add (.t 66) (.c (.int .i64 1))),
 oP 5 (.move (.t 67))]))))))
 (.seq (.seq (.region 0 [oQ 88 (.load true 3 (.t 1)),
 oQ 89 (.call 1 16 [(.t 88), (.c (.nils))]),
 oP 90 (.lenS (.t 89)),
 oP 91 (.bin .eql (.t 90) (.c (.int .i64 0)))])
 (.cond (.t 91) (.seq (.region 0 [oP 2 (.move (.c (.int .i64 40)))])
 (.ret))
 (.skip)))
 (.seq (.region 0 [oP 2 (.move (.c (.int .i64 0)))])
 (.ret))))))⟩
/-- almadraba/almadrabatop.torn -/
def f8 : AFn := ⟨44, [.tmp 0],
 .seq (.region 0 [oP 0 (.move (.c (.bool false)))])
 (.seq (.region 0 [oQ 11 (.call 1 17 []),
 oP 10 (.move (.t 11)),
 oP 12 (.extract (.t 10) 0),
 oP 13 (.extract (.t 10) 1),
 oP 14 (.extract (.t 10) 2),
 oQ 1 (.alloc [.int .i64 0, .int .i64 0, .int .i64 0, .int .i64 0, .nils, .nils, .nils]),
 oQ 2 (.alloc [.int .i64 0, .int .i64 0, .nils]),
 oQ 3 (.alloc [.int .i64 0, .int .i64 0, .nils]),
 ⟨none, .store 7 (.t 1) (.t 12), none, none, []⟩,
 ⟨none, .store 3 (.t 2) (.t 13), none, none, []⟩,
 ⟨none, .store 3 (.t 3) (.t 14), none, none, []⟩])
 (.seq (.region 0 [oQ 16 (.call 1 18 []),
 oP 15 (.move (.t 16)),
 oP 17 (.extract (.t 15) 0),
 oP 18 (.extract (.t 15) 1),
 oQ 4 (.alloc [.int .i64 0, .nils, .nils]),
 oQ 5 (.alloc [.int .i64 0, .nils, .nils]),
 ⟨none, .store 3 (.t 4) (.t 17), none, none, []⟩,
 ⟨none, .store 3 (.t 5) (.t 18), none, none, []⟩])
 (.seq (.region 0 [oQ 20 (.load true 7 (.t 1)),
 oQ 21 (.call 1 19 [(.t 20)]),
 oP 19 (.move (.t 21)),
 oP 22 (.extract (.t 19) 0),
 oP 23 (.extract (.t 19) 1),
 oP 6 (.move (.t 22)),
 oP 7 (.move (.t 23))])
 (.seq (.region 0 [oQ 25 (.load true 3 (.t 4)),
 oQ 26 (.call 1 20 [(.t 25)]),
 oP 24 (.move (.t 26)),
 oP 27 (.extract (.t 24) 0),
 oP 28 (.extract (.t 24) 1),
 oP 8 (.move (.t 27)),
 oP 9 (.move (.t 28))])
 (.seq (.region 0 [oP 29 (.move (.t 7)),
 oP 30 (.bin .eql (.t 29) (.c (.int .i64 0))),
 oP 31 (.move (.t 30)),
 oG 32 31 true (.move (.t 9)),
 oG 33 31 true (.bin .eql (.t 32) (.c (.int .i64 0))),
 oP 34 (.pick (.t 31) (.t 33) (.c (.bool false))),
 oP 35 (.move (.t 34)),
 oG 36 35 true (.move (.t 6)),
 oG 37 35 true (.bin .eql (.t 36) (.c (.int .i64 1))),
 oP 38 (.pick (.t 35) (.t 37) (.c (.bool false))),
 oP 39 (.move (.t 38)),
 oG 40 39 true (.move (.t 8)),
 ⟨(some 41), .litS 1 3 [.int .i64 0] [(0, (.c (.int .i64 0))), (1, (.c (.int .i64 2))), (2, (.c (.int .i64 1)))], (some (39, true)), none, []⟩,
 ⟨(some 42), .call 1 21 [(.t 40), (.t 41)], (some (39, true)), none, []⟩,
 oP 43 (.pick (.t 39) (.t 42) (.c (.bool false))),
 oP 0 (.move (.t 43))])
 (.ret))))))⟩
/-- almadraba/almadrabatop.holes -/
def f9 : AFn := ⟨54, [.cell true 3 6, .tmp 7],
 .seq (.region 0 [oQ 3 (.box (.t 0)),
 oQ 4 (.box (.t 1)),
 oQ 5 (.box (.t 2)),
 oQ 6 (.alloc [.int .i64 0, .nils, .nils]),
 oP 7 (.move (.c (.bool false)))])
 (.seq (.region 0 [oP 12 (.fieldAddr 7 (.t 5)),
 oQ 13 (.load false 1 (.t 12)),
 oP 14 (.build [.int .i64 0, .nils, .nils] [(0, 1, (.t 13))]),
 oQ 8 (.alloc [.int .i64 0, .nils, .nils]),
 ⟨none, .store 3 (.t 8) (.t 14), none, none, []⟩])
 (.seq (.region 0 [oQ 16 (.load true 7 (.t 3)),
 oQ 17 (.load true 3 (.t 4)),
 oQ 18 (.call 1 23 [(.t 17)]),
 oQ 19 (.call 1 22 [(.t 16), (.t 18)]),
 oP 15 (.move (.t 19)),
 oP 20 (.extract (.t 15) 0),
 oP 21 (.extract (.t 15) 1),
 oP 9 (.move (.t 20)),
 oP 10 (.move (.t 21))])
 (.seq (.seq (.region 0 [oP 22 (.move (.t 10)),
 oP 23 (.bin .neq (.t 22) (.c (.int .i64 0))),
 oP 24 (.move (.t 23)),
 oG 25 24 false (.move (.t 9)),
 oG 26 24 false (.fieldAddr 5 (.t 3)),
 ⟨(some 27), .load false 1 (.t 26), (some (24, false)), none, []⟩,
 oG 28 24 false (.lenS (.t 27)),
 oG 29 24 false (.bin .sub (.t 28) (.c (.int .i64 1))),
 ⟨(some 30), .call 1 24 [(.t 25), (.c (.int .i64 0)), (.t 29)], (some (24, false)), none, []⟩,
 oG 31 24 false (.un .not (.t 30)),
 oP 32 (.pick (.t 24) (.c (.bool true)) (.t 31))])
 (.cond (.t 32) (.seq (.region 0 [oQ 33 (.load true 3 (.t 8)),
 ⟨none, .store 3 (.t 6) (.t 33), none, none, []⟩,
 oP 7 (.move (.c (.bool false)))])
 (.ret))
 (.skip)))
 (.seq (.seq (.region 0 [oP 11 (.move (.c (.int .i64 0)))])
 (.block 0 (.loop (.seq (.seq (.region 0 [oP 34 (.move (.t 11)),
 oP 35 (.move (.t 9)),
 oP 36 (.lenS (.t 35)),
 oP 37 (.bin .lss (.t 34) (.t 36))])
 (.cond (.t 37) (.skip)
 (.exit 0)))
 (.seq (.block 1 (.region 1 [oP 40 (.fieldAddr 1 (.t 8)),
 ⟨(some 41), .load false 1 (.t 40), none, none, [0]⟩,
 oP 42 (.fieldAddr 6 (.t 5)),
 ⟨(some 43), .load false 1 (.t 42), none, none, [0]⟩,
 oP 44 (.move (.t 9)),
 oP 45 (.move (.t 11)),
 oP 46 (.idxSl 1 (.t 44) (.t 45)),
 ⟨(some 47), .load false 1 (.t 46), none, none, [0]⟩,
 oP 48 (.idxSl 4 (.t 43) (.t 47)),
 ⟨(some 49), .load true 4 (.t 48), none, none, [0]⟩,
 oQ 50 (.litS 4 1 [.int .i64 0, .int .i64 0, .int .i64 0, .int .i64 0] [(0, (.t 49))]),
 ⟨(some 51), .append false 4 32 (.t 41) (.t 50), none, (some 0), []⟩,
 oP 52 (.fieldAddr 1 (.t 8)),
 ⟨none, .store 1 (.t 52) (.t 51), none, none, []⟩]))
 (.region 0 [oP 38 (.move (.t 11)),
 oP 39 (.bin .add (.t 38) (.c (.int .i64 1))),
 oP 11 (.move (.t 39))]))))))
 (.seq (.region 0 [oQ 53 (.load true 3 (.t 8)),
 ⟨none, .store 3 (.t 6) (.t 53), none, none, []⟩,
 oP 7 (.move (.c (.bool true)))])
 (.ret))))))⟩
/-- almadraba/mesh.Least -/
def f10 : AFn := ⟨18, [.tmp 2, .tmp 3],
 .seq (.region 0 [oQ 1 (.box (.t 0)),
 oP 2 (.move (.c (.int .i64 0))),
 oP 3 (.move (.c (.int .i64 0)))])
 (.seq (.seq (.region 0 [oQ 6 (.load true 3 (.t 1)),
 oQ 7 (.call 1 25 [(.t 6)]),
 oP 4 (.move (.t 7))])
 (.seq (.region 0 [oP 8 (.move (.t 4)),
 oP 9 (.bin .neq (.t 8) (.c (.int .i64 0)))])
 (.cond (.t 9) (.seq (.region 0 [oP 10 (.move (.t 4)),
 oP 2 (.move (.c (.int .i64 0))),
 oP 3 (.move (.t 10))])
 (.ret))
 (.skip))))
 (.seq (.region 0 [oQ 11 (.load true 3 (.t 1)),
 oP 12 (.build [.int .i64 0, .nils, .nils] [(0, 3, (.t 11))]),
 oQ 5 (.alloc [.int .i64 0, .nils, .nils]),
 ⟨none, .store 3 (.t 5) (.t 12), none, none, []⟩])
 (.seq (.region 0 [oQ 13 (.load true 3 (.t 5)),
 oQ 14 (.load true 3 (.t 5)),
 oP 15 (.mkFn 27 [(.t 14)] []),
 oQ 16 (.call 1 26 [(.t 13), (.t 15)]),
 oP 17 (.field false 0 1 (.t 16)),
 oP 2 (.move (.t 17)),
 oP 3 (.move (.c (.int .i64 0)))])
 (.ret))))⟩
/-- almadraba/mesh.Done -/
def f11 : AFn := ⟨18, [.tmp 2, .tmp 3],
 .seq (.region 0 [oQ 1 (.box (.t 0)),
 oP 2 (.move (.c (.int .i64 0))),
 oP 3 (.move (.c (.int .i64 0)))])
 (.seq (.seq (.region 0 [oQ 6 (.load true 3 (.t 1)),
 oQ 7 (.call 1 25 [(.t 6)]),
 oP 4 (.move (.t 7))])
 (.seq (.region 0 [oP 8 (.move (.t 4)),
 oP 9 (.bin .neq (.t 8) (.c (.int .i64 0)))])
 (.cond (.t 9) (.seq (.region 0 [oP 10 (.move (.t 4)),
 oP 2 (.move (.c (.int .i64 0))),
 oP 3 (.move (.t 10))])
 (.ret))
 (.skip))))
 (.seq (.region 0 [oQ 11 (.load true 3 (.t 1)),
 oP 12 (.build [.int .i64 0, .nils, .nils] [(0, 3, (.t 11))]),
 oQ 5 (.alloc [.int .i64 0, .nils, .nils]),
 ⟨none, .store 3 (.t 5) (.t 12), none, none, []⟩])
 (.seq (.region 0 [oQ 13 (.load true 3 (.t 5)),
 oQ 14 (.load true 3 (.t 5)),
 oP 15 (.mkFn 28 [(.t 14)] []),
 oQ 16 (.call 1 26 [(.t 13), (.t 15)]),
 oP 17 (.field false 0 1 (.t 16)),
 oP 2 (.move (.t 17)),
 oP 3 (.move (.c (.int .i64 0)))])
 (.ret))))⟩
/-- almadraba/almadrabaref02.isSpan -/
def f12 : AFn := ⟨16, [.tmp 4],
 .seq (.region 0 [oQ 2 (.box (.t 0)),
 oP 4 (.move (.c (.bool false)))])
 (.seq (.region 0 [oP 5 (.fieldAddr 1 (.t 2)),
 oQ 6 (.load false 1 (.t 5)),
 oP 7 (.move (.t 1)),
 oQ 8 (.call 1 13 [(.t 6), (.c (.int .i64 0)), (.t 7)]),
 oP 9 (.move (.t 8)),
 oG 10 9 true (.fieldAddr 0 (.t 2)),
 ⟨(some 11), .load false 1 (.t 10), (some (9, true)), none, []⟩,
 oG 12 9 true (.fieldAddr 1 (.t 2)),
 ⟨(some 13), .load false 1 (.t 12), (some (9, true)), none, []⟩,
 ⟨(some 14), .call 1 13 [(.t 11), (.c (.int .i64 0)), (.t 13)], (some (9, true)), none, []⟩,
 oP 15 (.pick (.t 9) (.t 14) (.c (.bool false))),
 oP 4 (.move (.t 15))])
 (.ret))⟩
/-- almadraba/almadrabaref02.within -/
def f13 : AFn := ⟨11, [.tmp 6],
 .seq (.region 0 [oP 6 (.move (.c (.bool false)))])
 (.seq (.region 0 [oP 7 (.move (.t 0)),
 oP 8 (.move (.t 1)),
 oP 9 (.move (.t 2)),
 oQ 10 (.call 1 29 [(.t 7), (.t 8), (.t 9)]),
 oP 6 (.move (.t 10))])
 (.ret))⟩
/-- almadraba/almadrabaref04.within -/
def f14 : AFn := ⟨11, [.tmp 6],
 .seq (.region 0 [oP 6 (.move (.c (.bool false)))])
 (.seq (.region 0 [oP 7 (.move (.t 0)),
 oP 8 (.move (.t 1)),
 oP 9 (.move (.t 2)),
 oQ 10 (.call 1 29 [(.t 7), (.t 8), (.t 9)]),
 oP 6 (.move (.t 10))])
 (.ret))⟩
/-- almadraba/almadrabaref04.IsHole -/
def f15 : AFn := ⟨11, [.tmp 4],
 .seq (.region 0 [oQ 2 (.box (.t 0)),
 oP 4 (.move (.c (.bool false)))])
 (.seq (.region 0 [oP 5 (.move (.t 1)),
 oP 6 (.fieldAddr 1 (.t 2)),
 oQ 7 (.load false 1 (.t 6)),
 oP 8 (.lenS (.t 7)),
 oP 9 (.bin .sub (.t 8) (.c (.int .i64 1))),
 oQ 10 (.call 1 14 [(.t 5), (.c (.int .i64 0)), (.t 9)]),
 oP 4 (.move (.t 10))])
 (.ret))⟩
/-- almadraba/almadrabaref04.Orders -/
def f16 : AFn := ⟨37, [.tmp 4],
 .seq (.region 0 [oQ 2 (.box (.t 0)),
 oP 4 (.move (.c (.nils)))])
 (.seq (.seq (.region 0 [oP 7 (.move (.t 1)),
 oP 8 (.lenS (.t 7)),
 oP 9 (.fieldAddr 1 (.t 2)),
 oQ 10 (.load false 1 (.t 9)),
 oP 11 (.lenS (.t 10)),
 oP 12 (.bin .eql (.t 8) (.t 11))])
 (.cond (.t 12) (.seq (.region 0 [oP 13 (.move (.t 1)),
 oQ 14 (.buildSlice 1 1 [.nils] [(0, (.t 13))]),
 oP 4 (.move (.t 14))])
 (.ret))
 (.skip)))
 (.seq (.region 0 [oP 5 (.move (.c (.nils)))])
 (.seq (.seq (.region 0 [oP 6 (.move (.c (.int .i64 0)))])
 (.block 0 (.loop (.seq (.seq (.region 0 [oP 15 (.move (.t 6)),
 oP 16 (.fieldAddr 1 (.t 2)),
 oQ 17 (.load false 1 (.t 16)),
 oP 18 (.lenS (.t 17)),
 oP 19 (.bin .lss (.t 15) (.t 18))])
 (.cond (.t 19) (.skip)
 (.exit 0)))
 (.seq (.block 1 (.seq (.region 0 [oQ 22 (.load true 3 (.t 2)),
 oP 23 (.move (.t 1)),
 oP 24 (.move (.t 6)),
 oQ 25 (.call 1 30 [(.t 22), (.t 23), (.t 24)])])
 (.cond (.t 25) (.region 5 [oP 26 (.move (.t 5)),
 ⟨(some 27), .load true 3 (.t 2), none, none, [0, 1, 2, 3, 4]⟩,
 ⟨(some 28), .buildSlice 1 0 [.int .i64 0] [], none, (some 0), []⟩,
 oP 29 (.move (.t 1)),
 ⟨(some 30), .append true 1 8 (.t 28) (.t 29), none, (some 1), [2, 3, 4]⟩,
 oP 31 (.move (.t 6)),
 ⟨(some 32), .buildSlice 1 1 [.int .i64 0] [(0, (.t 31))], none, (some 2), []⟩,
 ⟨(some 33), .append true 1 8 (.t 30) (.t 32), none, (some 3), [4]⟩,
 ⟨(some 34), .call 0 16 [(.t 27), (.t 33)], none, none, [4]⟩,
 ⟨(some 35), .append false 1 24 (.t 26) (.t 34), none, (some 4), []⟩,
 oP 5 (.move (.t 35))])
 (.skip))))
 (.region 0 [oP 20 (.move (.t 6)),
 oP 21 (.bin .add (.t 20) (.c (.int .i64 1))),
 oP 6 (.move (.t 21))]))))))
 (.seq (.region 0 [oP 36 (.move (.t 5)),
 oP 4 (.move (.t 36))])
 (.ret)))))⟩
/-- almadraba/almadrabalaw02.Example -/
def f17 : AFn := ⟨21, [.cell true 7 0, .cell true 3 1, .cell true 3 2],
 .seq (.region 0 [oQ 0 (.alloc [.int .i64 0, .int .i64 0, .int .i64 0, .int .i64 0, .nils, .nils, .nils]),
 oQ 1 (.alloc [.int .i64 0, .int .i64 0, .nils]),
 oQ 2 (.alloc [.int .i64 0, .int .i64 0, .nils])])
 (.seq (.region 0 [oP 3 (.build [.int .i64 0, .int .i64 0] [(0, 1, (.c (.int .i64 2))), (1, 1, (.c (.int .i64 4)))]),
 oP 4 (.build [.int .i64 0, .int .i64 0] [(0, 1, (.c (.int .i64 1))), (1, 1, (.c (.int .i64 3)))]),
 oP 5 (.build [.int .i64 0, .int .i64 0] [(0, 1, (.c (.int .i64 2))), (1, 1, (.c (.int .i64 3)))]),
 oP 6 (.build [.int .i64 0, .int .i64 0] [(0, 1, (.c (.int .i64 1))), (1, 1, (.c (.int .i64 4)))]),
 oQ 7 (.litS 2 2 [.int .i64 0, .int .i64 0] [(0, (.t 5)), (1, (.t 6))]),
 oP 8 (.build [.int .i64 0, .int .i64 0] [(0, 1, (.c (.int .i64 6)))]),
 oP 9 (.build [.int .i64 0, .int .i64 0] [(0, 1, (.c (.int .i64 5))), (1, 1, (.c (.int .i64 1)))]),
 oP 10 (.build [.int .i64 0, .int .i64 0] [(0, 1, (.c (.int .i64 4)))]),
 oQ 11 (.litS 2 3 [.int .i64 0, .int .i64 0] [(0, (.t 8)), (1, (.t 9)), (2, (.t 10))]),
 oP 12 (.build [.int .i64 0, .int .i64 0, .int .i64 0, .int .i64 0, .int .i64 0] [(0, 1, (.c (.int .i64 2))), (1, 1, (.c (.int .i64 1))), (2, 1, (.c (.int .i64 3))), (3, 1, (.c (.int .i64 8))), (4, 1, (.c (.int .i64 9)))]),
 oP 13 (.build [.int .i64 0, .int .i64 0, .int .i64 0, .int .i64 0, .int .i64 0] [(0, 1, (.c (.int .i64 1))), (1, 1, (.c (.int .i64 2))), (2, 1, (.c (.int .i64 2))), (3, 1, (.c (.int .i64 6))), (4, 1, (.c (.int .i64 6)))]),
 oQ 14 (.litS 5 2 [.int .i64 0, .int .i64 0, .int .i64 0, .int .i64 0, .int .i64 0] [(0, (.t 12)), (1, (.t 13))]),
 oP 15 (.build [.int .i64 0, .int .i64 0, .int .i64 0, .int .i64 0, .nils, .nils, .nils] [(0, 2, (.t 3)), (2, 2, (.t 4)), (4, 1, (.t 7)), (5, 1, (.t 11)), (6, 1, (.t 14))]),
 ⟨none, .store 7 (.t 0) (.t 15), none, none, []⟩])
 (.seq (.region 0 [oQ 16 (.load true 7 (.t 0)),
 oQ 17 (.litS 1 2 [.int .i64 0] [(0, (.c (.int .i64 2))), (1, (.c (.int .i64 1)))]),
 oP 18 (.build [.int .i64 0, .int .i64 0, .nils] [(0, 1, (.c (.int .i64 4))), (1, 1, (.c (.int .i64 3))), (2, 1, (.t 17))]),
 oQ 19 (.litS 1 2 [.int .i64 0] [(0, (.c (.int .i64 3))), (1, (.c (.int .i64 4)))]),
 oP 20 (.build [.int .i64 0, .int .i64 0, .nils] [(0, 1, (.c (.int .i64 2))), (1, 1, (.c (.int .i64 1))), (2, 1, (.t 19))]),
 ⟨none, .store 7 (.t 0) (.t 16), none, none, []⟩,
 ⟨none, .store 3 (.t 1) (.t 18), none, none, []⟩,
 ⟨none, .store 3 (.t 2) (.t 20), none, none, []⟩])
 (.ret)))⟩
/-- almadraba/almadrabalaw04.Example -/
def f18 : AFn := ⟨13, [.cell true 3 0, .cell true 3 1],
 .seq (.region 0 [oQ 0 (.alloc [.int .i64 0, .nils, .nils]),
 oQ 1 (.alloc [.int .i64 0, .nils, .nils])])
 (.seq (.region 0 [oQ 2 (.call 1 31 [(.c (.int .i64 0)), (.c (.int .i64 2)), (.c (.int .i64 3)), (.c (.int .i64 2))]),
 oQ 3 (.call 1 31 [(.c (.int .i64 0)), (.c (.int .i64 5)), (.c (.int .i64 6)), (.c (.int .i64 3))]),
 oQ 4 (.call 1 31 [(.c (.int .i64 1)), (.c (.int .i64 4)), (.c (.int .i64 8)), (.c (.int .i64 1))]),
 oQ 5 (.litS 4 3 [.int .i64 0, .int .i64 0, .int .i64 0, .int .i64 0] [(0, (.t 2)), (1, (.t 3)), (2, (.t 4))]),
 oP 6 (.build [.int .i64 0, .int .i64 0] [(0, 1, (.c (.int .i64 0))), (1, 1, (.c (.int .i64 2)))]),
 oQ 7 (.litS 2 1 [.int .i64 0, .int .i64 0] [(0, (.t 6))]),
 oP 8 (.build [.int .i64 0, .nils, .nils] [(0, 1, (.c (.int .i64 1))), (1, 1, (.t 5)), (2, 1, (.t 7))]),
 ⟨none, .store 3 (.t 0) (.t 8), none, none, []⟩])
 (.seq (.region 0 [oQ 9 (.load true 3 (.t 0)),
 ⟨none, .store 3 (.t 1) (.t 9), none, none, []⟩])
 (.seq (.region 0 [oP 10 (.fieldAddr 0 (.t 1)),
 ⟨none, .store 1 (.t 10) (.c (.int .i64 2)), none, none, []⟩])
 (.seq (.region 0 [oQ 11 (.load true 3 (.t 0)),
 oQ 12 (.loadR true 3 (.t 1) 1),
 ⟨none, .storeR 3 (.t 0) (.t 11) [1], none, none, []⟩,
 ⟨none, .store 3 (.t 1) (.t 12), none, none, []⟩])
 (.ret)))))⟩
/-- almadraba/anchors.Wind -/
def f19 : AFn := ⟨16, [.tmp 2, .tmp 3],
 .seq (.region 0 [oQ 1 (.box (.t 0)),
 oP 2 (.move (.c (.int .i64 0))),
 oP 3 (.move (.c (.int .i64 0)))])
 (.seq (.seq (.region 0 [oQ 5 (.load true 7 (.t 1)),
 oQ 6 (.call 1 32 [(.t 5)]),
 oP 4 (.move (.t 6))])
 (.seq (.region 0 [oP 7 (.move (.t 4)),
 oP 8 (.bin .neq (.t 7) (.c (.int .i64 0)))])
 (.cond (.t 8) (.seq (.region 0 [oP 9 (.move (.t 4)),
 oP 2 (.move (.c (.int .i64 0))),
 oP 3 (.move (.t 9))])
 (.ret))
 (.skip))))
 (.seq (.region 0 [oQ 10 (.load true 7 (.t 1)),
 oQ 11 (.call 1 34 [(.t 10)]),
 oQ 12 (.call 1 35 [(.t 11)]),
 oQ 13 (.call 1 33 [(.t 12)]),
 oP 14 (.extract (.t 13) 0),
 oP 15 (.extract (.t 13) 1),
 oP 2 (.move (.t 14)),
 oP 3 (.move (.t 15))])
 (.ret)))⟩
/-- almadraba/mesh.Order -/
def f20 : AFn := ⟨18, [.tmp 2, .tmp 3],
 .seq (.region 0 [oQ 1 (.box (.t 0)),
 oP 2 (.move (.c (.nils))),
 oP 3 (.move (.c (.int .i64 0)))])
 (.seq (.seq (.region 0 [oQ 6 (.load true 3 (.t 1)),
 oQ 7 (.call 1 25 [(.t 6)]),
 oP 4 (.move (.t 7))])
 (.seq (.region 0 [oP 8 (.move (.t 4)),
 oP 9 (.bin .neq (.t 8) (.c (.int .i64 0)))])
 (.cond (.t 9) (.seq (.region 0 [oP 10 (.move (.t 4)),
 oP 2 (.move (.c (.nils))),
 oP 3 (.move (.t 10))])
 (.ret))
 (.skip))))
 (.seq (.region 0 [oQ 11 (.load true 3 (.t 1)),
 oP 12 (.build [.int .i64 0, .nils, .nils] [(0, 3, (.t 11))]),
 oQ 5 (.alloc [.int .i64 0, .nils, .nils]),
 ⟨none, .store 3 (.t 5) (.t 12), none, none, []⟩])
 (.seq (.region 0 [oQ 13 (.load true 3 (.t 5)),
 oQ 14 (.load true 3 (.t 5)),
 oP 15 (.mkFn 27 [(.t 14)] []),
 oQ 16 (.call 1 26 [(.t 13), (.t 15)]),
 oP 17 (.field false 1 1 (.t 16)),
 oP 2 (.move (.t 17)),
 oP 3 (.move (.c (.int .i64 0)))])
 (.ret))))⟩
/-- almadraba/almadrabaref01.SameInts -/
def f21 : AFn := ⟨26, [.tmp 4],
 .seq (.region 0 [oP 4 (.move (.c (.bool false)))])
 (.seq (.seq (.region 0 [oP 6 (.move (.t 0)),
 oP 7 (.lenS (.t 6)),
 oP 8 (.move (.t 1)),
 oP 9 (.lenS (.t 8)),
 oP 10 (.bin .neq (.t 7) (.t 9))])
 (.cond (.t 10) (.seq (.region 0 [oP 4 (.move (.c (.bool false)))])
 (.ret))
 (.skip)))
 (.seq (.seq (.region 0 [oP 5 (.move (.c (.int .i64 0)))])
 (.block 0 (.loop (.seq (.seq (.region 0 [oP 11 (.move (.t 5)),
 oP 12 (.move (.t 0)),
 oP 13 (.lenS (.t 12)),
 oP 14 (.bin .lss (.t 11) (.t 13))])
 (.cond (.t 14) (.skip)
 (.exit 0)))
 (.seq (.block 1 (.seq (.region 0 [oP 17 (.move (.t 0)),
 oP 18 (.move (.t 5)),
 oP 19 (.idxSl 1 (.t 17) (.t 18)),
 oQ 20 (.load false 1 (.t 19)),
 oP 21 (.move (.t 1)),
 oP 22 (.move (.t 5)),
 oP 23 (.idxSl 1 (.t 21) (.t 22)),
 oQ 24 (.load false 1 (.t 23)),
 oP 25 (.bin .neq (.t 20) (.t 24))])
 (.cond (.t 25) (.seq (.region 0 [oP 4 (.move (.c (.bool false)))])
 (.ret))
 (.skip))))
 (.region 0 [oP 15 (.move (.t 5)),
 oP 16 (.bin .add (.t 15) (.c (.int .i64 1))),
 oP 5 (.move (.t 16))]))))))
 (.seq (.region 0 [oP 4 (.move (.c (.bool true)))])
 (.ret))))⟩
/-- almadraba/anchors.Drags -/
def f22 : AFn := ⟨21, [.tmp 4, .tmp 5],
 .seq (.region 0 [oQ 2 (.box (.t 0)),
 oQ 3 (.box (.t 1)),
 oP 4 (.move (.c (.nils))),
 oP 5 (.move (.c (.int .i64 0)))])
 (.seq (.seq (.region 0 [oQ 7 (.load true 7 (.t 2)),
 oQ 8 (.load true 7 (.t 2)),
 oQ 9 (.load true 3 (.t 3)),
 oQ 10 (.call 1 37 [(.t 8), (.t 9)]),
 oQ 11 (.call 1 36 [(.t 7), (.t 10)]),
 oP 6 (.move (.t 11))])
 (.seq (.region 0 [oP 12 (.move (.t 6)),
 oP 13 (.bin .neq (.t 12) (.c (.int .i64 0)))])
 (.cond (.t 13) (.seq (.region 0 [oP 14 (.move (.t 6)),
 oP 4 (.move (.c (.nils))),
 oP 5 (.move (.t 14))])
 (.ret))
 (.skip))))
 (.seq (.region 0 [oQ 15 (.load true 7 (.t 2)),
 oQ 16 (.load true 3 (.t 3)),
 oP 17 (.build [.int .i64 0, .int .i64 0, .int .i64 0, .int .i64 0, .nils, .nils, .nils, .int .i64 0, .int .i64 0, .nils] [(0, 7, (.t 15)), (7, 3, (.t 16))]),
 oP 18 (.build [.bool false, .bool false, .bool false, .bool false, .bool false, .bool false] []),
 oQ 19 (.call 1 38 [(.t 17), (.t 18)]),
 oQ 20 (.call 1 39 [(.t 19)]),
 oP 4 (.move (.t 20)),
 oP 5 (.move (.c (.int .i64 0)))])
 (.ret)))⟩
/-- almadraba/almadrabaref02.CopyTruth -/
def f23 : AFn := ⟨12, [.cell true 3 2],
 .seq (.region 0 [oQ 1 (.box (.t 0)),
 oQ 2 (.alloc [.int .i64 0, .int .i64 0, .nils])])
 (.seq (.region 2 [oP 3 (.fieldAddr 0 (.t 1)),
 ⟨(some 4), .load false 1 (.t 3), none, none, [0, 1]⟩,
 oP 5 (.fieldAddr 1 (.t 1)),
 ⟨(some 6), .load false 1 (.t 5), none, none, [0, 1]⟩,
 ⟨(some 7), .buildSlice 1 0 [.int .i64 0] [], none, (some 0), []⟩,
 oP 8 (.fieldAddr 2 (.t 1)),
 ⟨(some 9), .load false 1 (.t 8), none, none, [0, 1]⟩,
 ⟨(some 10), .append true 1 8 (.t 7) (.t 9), none, (some 1), []⟩,
 oP 11 (.build [.int .i64 0, .int .i64 0, .nils] [(0, 1, (.t 4)), (1, 1, (.t 6)), (2, 1, (.t 10))]),
 ⟨none, .store 3 (.t 2) (.t 11), none, none, []⟩])
 (.ret))⟩
/-- almadraba/almadrabaref01.Rising -/
def f24 : AFn := ⟨38, [.tmp 6],
 .seq (.region 0 [oP 6 (.move (.c (.bool false)))])
 (.seq (.seq (.region 0 [oP 7 (.move (.c (.int .i64 0)))])
 (.block 0 (.loop (.seq (.seq (.region 0 [oP 8 (.move (.t 7)),
 oP 9 (.move (.t 0)),
 oP 10 (.lenS (.t 9)),
 oP 11 (.bin .lss (.t 8) (.t 10))])
 (.cond (.t 11) (.skip)
 (.exit 0)))
 (.seq (.block 1 (.seq (.region 0 [oP 14 (.move (.t 0)),
 oP 15 (.move (.t 7)),
 oP 16 (.idxSl 1 (.t 14) (.t 15)),
 oQ 17 (.load false 1 (.t 16)),
 oP 18 (.move (.t 1)),
 oP 19 (.move (.t 2)),
 oQ 20 (.call 1 29 [(.t 17), (.t 18), (.t 19)]),
 oP 21 (.un .not (.t 20)),
 oP 22 (.move (.t 21)),
 oG 23 22 false (.move (.t 7)),
 oG 24 22 false (.bin .gtr (.t 23) (.c (.int .i64 0))),
 oG 25 22 false (.move (.t 24)),
 oG 26 25 true (.move (.t 0)),
 oG 27 25 true (.move (.t 7)),
 oG 28 25 true (.idxSl 1 (.t 26) (.t 27)),
 ⟨(some 29), .load false 1 (.t 28), (some (25, true)), none, []⟩,
 oG 30 25 true (.move (.t 0)),
 oG 31 25 true (.move (.t 7)),
 oG 32 25 true (.bin .sub (.t 31) (.c (.int .i64 1))),
 oG 33 25 true (.idxSl 1 (.t 30) (.t 32)),
 ⟨(some 34), .load false 1 (.t 33), (some (25, true)), none, []⟩,
 oG 35 25 true (.bin .leq (.t 29) (.t 34)),
 oG 36 22 false (.pick (.t 25) (.t 35) (.c (.bool false))),
 oP 37 (.pick (.t 22) (.c (.bool true)) (.t 36))])
 (.cond (.t 37) (.seq (.region 0 [oP 6 (.move (.c (.bool false)))])
 (.ret))
 (.skip))))
 (.region 0 [oP 12 (.move (.t 7)),
 oP 13 (.bin .add (.t 12) (.c (.int .i64 1))),
 oP 7 (.move (.t 13))]))))))
 (.seq (.region 0 [oP 6 (.move (.c (.bool true)))])
 (.ret)))⟩
/-- almadraba/mesh.Check -/
def f25 : AFn := ⟨6, [.tmp 2],
 .seq (.region 0 [oQ 1 (.box (.t 0)),
 oP 2 (.move (.c (.int .i64 0)))])
 (.seq (.seq (.region 0 [oQ 3 (.load true 3 (.t 1)),
 oQ 4 (.call 1 40 [(.t 3)]),
 oP 5 (.un .not (.t 4))])
 (.cond (.t 5) (.seq (.region 0 [oP 2 (.move (.c (.int .i64 40)))])
 (.ret))
 (.skip)))
 (.seq (.region 0 [oP 2 (.move (.c (.int .i64 0)))])
 (.ret)))⟩
/-- (almadraba/mesh.plan).best -/
def f26 : AFn := ⟨16, [.cell true 3 4],
 .seq (.region 0 [oQ 2 (.box (.t 0)),
 oQ 3 (.box (.t 1)),
 oQ 4 (.alloc [.int .i64 0, .nils, .bool false])])
 (.seq (.region 0 [oQ 5 (.alloc [.int .i64 0, .nils, .bool false])])
 (.seq (.seq (.region 0 [oQ 7 (.load true 3 (.t 2)),
 oP 8 (.mkFn 41 [(.t 7)] [])])
 (.block 0 (.rangeFunc (.t 8) [9] (.region 0 [oP 6 (.move (.t 9))])
 (.block 1 (.region 0 [oP 10 (.move (.t 6)),
 oQ 11 (.load false 1 (.t 3)),
 oP 12 (.move (.t 6)),
 oQ 13 (.callv true (.t 11) [(.t 12)]),
 oQ 14 (.call 0 42 [(.t 5), (.t 10), (.t 13)])])))))
 (.seq (.region 0 [oQ 15 (.load true 3 (.t 5)),
 ⟨none, .store 3 (.t 4) (.t 15), none, none, []⟩])
 (.ret))))⟩
/-- (almadraba/mesh.plan).loss -/
def f27 : AFn := ⟨9, [.tmp 4],
 .seq (.region 0 [oQ 2 (.box (.t 0)),
 oP 4 (.move (.c (.int .i64 0)))])
 (.seq (.region 0 [oQ 5 (.load true 3 (.t 2)),
 oP 6 (.move (.t 1)),
 oQ 7 (.call 1 43 [(.t 5), (.t 6)]),
 oP 8 (.field false 1 1 (.t 7)),
 oP 4 (.move (.t 8))])
 (.ret))⟩
/-- (almadraba/mesh.plan).done -/
def f28 : AFn := ⟨11, [.tmp 4],
 .seq (.region 0 [oQ 2 (.box (.t 0)),
 oP 4 (.move (.c (.int .i64 0)))])
 (.seq (.region 0 [oQ 6 (.load true 3 (.t 2)),
 oP 7 (.move (.t 1)),
 oQ 8 (.call 1 44 [(.t 6), (.t 7)]),
 oQ 5 (.alloc [.int .i64 0, .int .i64 0, .int .i64 0, .int .i64 0, .int .i64 0, .int .i64 0]),
 ⟨none, .store 6 (.t 5) (.t 8), none, none, []⟩])
 (.seq (.region 0 [oQ 9 (.sliceA 6 1 (.t 5) none),
 oQ 10 (.call 1 45 [(.t 9)]),
 oP 4 (.move (.t 10))])
 (.ret)))⟩
/-- almadraba/almadrabaref01.Within -/
def f29 : AFn := ⟨15, [.tmp 6],
 .seq (.region 0 [oP 6 (.move (.c (.bool false)))])
 (.seq (.region 0 [oP 7 (.move (.t 1)),
 oP 8 (.move (.t 0)),
 oP 9 (.bin .leq (.t 7) (.t 8)),
 oP 10 (.move (.t 9)),
 oG 11 10 true (.move (.t 0)),
 oG 12 10 true (.move (.t 2)),
 oG 13 10 true (.bin .leq (.t 11) (.t 12)),
 oP 14 (.pick (.t 10) (.t 13) (.c (.bool false))),
 oP 6 (.move (.t 14))])
 (.ret))⟩
/-- almadraba/almadrabaref04.May -/
def f30 : AFn := ⟨37, [.tmp 6],
 .seq (.region 0 [oQ 3 (.box (.t 0)),
 oP 6 (.move (.c (.bool false)))])
 (.seq (.seq (.region 0 [oP 8 (.move (.t 1)),
 oP 9 (.move (.t 2)),
 oQ 10 (.call 1 46 [(.t 8), (.t 9)])])
 (.cond (.t 10) (.seq (.region 0 [oP 6 (.move (.c (.bool false)))])
 (.ret))
 (.skip)))
 (.seq (.seq (.region 0 [oP 7 (.move (.c (.int .i64 0)))])
 (.block 0 (.loop (.seq (.seq (.region 0 [oP 11 (.move (.t 7)),
 oP 12 (.fieldAddr 2 (.t 3)),
 oQ 13 (.load false 1 (.t 12)),
 oP 14 (.lenS (.t 13)),
 oP 15 (.bin .lss (.t 11) (.t 14))])
 (.cond (.t 15) (.skip)
 (.exit 0)))
 (.seq (.block 1 (.seq (.region 0 [oP 18 (.fieldAddr 2 (.t 3)),
 oQ 19 (.load false 1 (.t 18)),
 oP 20 (.move (.t 7)),
 oP 21 (.idxSl 2 (.t 19) (.t 20)),
 oP 22 (.fieldAddr 1 (.t 21)),
 oQ 23 (.load false 1 (.t 22)),
 oP 24 (.move (.t 2)),
 oP 25 (.bin .eql (.t 23) (.t 24)),
 oP 26 (.move (.t 25)),
 oG 27 26 true (.move (.t 1)),
 oG 28 26 true (.fieldAddr 2 (.t 3)),
 ⟨(some 29), .load false 1 (.t 28), (some (26, true)), none, []⟩,
 oG 30 26 true (.move (.t 7)),
 oG 31 26 true (.idxSl 2 (.t 29) (.t 30)),
 oG 32 26 true (.fieldAddr 0 (.t 31)),
 ⟨(some 33), .load false 1 (.t 32), (some (26, true)), none, []⟩,
 ⟨(some 34), .call 1 46 [(.t 27), (.t 33)], (some (26, true)), none, []⟩,
 oG 35 26 true (.un .not (.t 34)),
 oP 36 (.pick (.t 26) (.t 35) (.c (.bool false)))])
 (.cond (.t 36) (.seq (.region 0 [oP 6 (.move (.c (.bool false)))])
 (.ret))
 (.skip))))
 (.region 0 [oP 16 (.move (.t 7)),
 oP 17 (.bin .add (.t 16) (.c (.int .i64 1))),
 oP 7 (.move (.t 17))]))))))
 (.seq (.region 0 [oP 6 (.move (.c (.bool true)))])
 (.ret))))⟩
/-- almadraba/almadrabalaw04.hole -/
def f31 : AFn := ⟨15, [.cell true 4 8],
 .seq (.region 0 [oQ 8 (.alloc [.int .i64 0, .int .i64 0, .int .i64 0, .int .i64 0])])
 (.seq (.region 0 [oP 9 (.move (.t 0)),
 oP 10 (.move (.t 1)),
 oP 11 (.move (.t 2)),
 oP 12 (.build [.int .i64 0, .int .i64 0] [(0, 1, (.t 10)), (1, 1, (.t 11))]),
 oP 13 (.move (.t 3)),
 oP 14 (.build [.int .i64 0, .int .i64 0, .int .i64 0, .int .i64 0] [(0, 1, (.t 9)), (1, 2, (.t 12)), (3, 1, (.t 13))]),
 ⟨none, .store 4 (.t 8) (.t 14), none, none, []⟩])
 (.ret))⟩
/-- almadraba/anchors.Check -/
def f32 : AFn := ⟨6, [.tmp 2],
 .seq (.region 0 [oQ 1 (.box (.t 0)),
 oP 2 (.move (.c (.int .i64 0)))])
 (.seq (.seq (.region 0 [oQ 3 (.load true 7 (.t 1)),
 oQ 4 (.call 1 47 [(.t 3)]),
 oP 5 (.un .not (.t 4))])
 (.cond (.t 5) (.seq (.region 0 [oP 2 (.move (.c (.int .i64 20)))])
 (.ret))
 (.skip)))
 (.seq (.region 0 [oP 2 (.move (.c (.int .i64 0)))])
 (.ret)))⟩
/-- almadraba/anchors.isWind -/
def f33 : AFn := ⟨7, [.tmp 2, .tmp 3],
 .seq (.region 0 [oP 2 (.move (.c (.int .i64 0))),
 oP 3 (.move (.c (.int .i64 0)))])
 (.seq (.seq (.region 0 [oP 4 (.move (.t 0)),
 oP 5 (.bin .gtr (.t 4) (.c (.int .i64 20)))])
 (.cond (.t 5) (.seq (.region 0 [oP 2 (.move (.c (.int .i64 0))),
 oP 3 (.move (.c (.int .i64 3)))])
 (.ret))
 (.skip)))
 (.seq (.region 0 [oP 6 (.move (.t 0)),
 oP 2 (.move (.t 6)),
 oP 3 (.move (.c (.int .i64 0)))])
 (.ret)))⟩
end Go.Proofs.Ytmldjpeiokciiaa.T
