/-
The code of functions of the seat, as the abstract machine has it (printed by a tool of ours off the dump).
-/
import Derived.Test.YtdmhbefdidmliaaAmX
namespace Go.Proofs.Ytdmhbefdidmliaa.T
open Go Go.Am
abbrev oP (n : Nat) (p : POp) : AOper := ⟨some n, .p p, none, none, []⟩
abbrev oQ (n : Nat) (p : AOp) : AOper := ⟨some n, p, none, none, []⟩
abbrev oG (n m : Nat) (b : Bool) (p : POp) : AOper := ⟨some n, .p p, some (m, b), none, []⟩
/-- gosem.cut.init -/
def f2 : AFn := ⟨1, [],
 .region 0 [oQ 0 (.call 1 1 [])]⟩
/-- almadraba/almadrabalaw05.LiftsEach -/
def f3 : AFn := ⟨200, [.tmp 6],
 .seq (.region 0 [oQ 3 (.box (.t 0)),
 oQ 4 (.box (.t 1)),
 oP 6 (.move (.c (.bool false)))])
 (.seq (.seq (.region 0 [oQ 22 (.load true 4 (.t 3)),
 oQ 23 (.call 1 16 [(.t 22)]),
 oP 24 (.un .not (.t 23)),
 oP 25 (.move (.t 24)),
 oG 26 25 false (.move (.t 2)),
 oG 27 25 false (.lenS (.t 26)),
 oG 28 25 false (.bin .gtr (.t 27) (.c (.int .i64 40))),
 oP 29 (.pick (.t 25) (.c (.bool true)) (.t 28)),
 oP 30 (.move (.t 29)),
 oG 31 30 false (.fieldAddr 0 (.t 4)),
 ⟨(some 32), .load false 1 (.t 31), (some (30, false)), none, []⟩,
 oG 33 30 false (.fieldAddr 0 (.t 3)),
 oG 34 30 false (.fieldAddr 0 (.t 33)),
 ⟨(some 35), .load false 1 (.t 34), (some (30, false)), none, []⟩,
 oG 36 30 false (.fieldAddr 0 (.t 3)),
 oG 37 30 false (.fieldAddr 1 (.t 36)),
 ⟨(some 38), .load false 1 (.t 37), (some (30, false)), none, []⟩,
 ⟨(some 39), .call 1 17 [(.t 32), (.t 35), (.t 38)], (some (30, false)), none, []⟩,
 oG 40 30 false (.un .not (.t 39)),
 oP 41 (.pick (.t 30) (.c (.bool true)) (.t 40)),
 oP 42 (.move (.t 41)),
 ⟨(some 43), .load true 4 (.t 3), (some (42, false)), none, []⟩,
 oG 44 42 false (.move (.t 2)),
 ⟨(some 45), .call 1 18 [(.t 43), (.t 44)], (some (42, false)), none, []⟩,
 oG 46 42 false (.un .not (.t 45)),
 oP 47 (.pick (.t 42) (.c (.bool true)) (.t 46))])
 (.cond (.t 47) (.seq (.region 0 [oQ 48 (.call 1 19 []),
 oP 6 (.move (.t 48))])
 (.ret))
 (.skip)))
 (.seq (.region 0 [oQ 50 (.load true 4 (.t 3)),
 oQ 51 (.call 1 20 [(.t 50)]),
 oP 49 (.move (.t 51)),
 oP 52 (.extract (.t 49) 0),
 oP 53 (.extract (.t 49) 1),
 oP 7 (.move (.t 52)),
 oP 8 (.move (.t 53))])
 (.seq (.region 2 [⟨(some 55), .load true 4 (.t 3), none, none, [0, 1]⟩,
 oP 56 (.fieldAddr 0 (.t 4)),
 ⟨(some 57), .load false 1 (.t 56), none, none, [0, 1]⟩,
 ⟨(some 58), .buildSlice 1 0 [.int .i64 0] [], none, (some 0), []⟩,
 oP 59 (.move (.t 2)),
 ⟨(some 60), .append true 1 8 (.t 58) (.t 59), none, (some 1), []⟩,
 oQ 61 (.call 1 21 [(.t 55), (.t 57), (.t 60)]),
 oP 54 (.move (.t 61)),
 oP 62 (.extract (.t 54) 0),
 oP 63 (.extract (.t 54) 1),
 oP 9 (.move (.t 62)),
 oP 10 (.move (.t 63))])
 (.seq (.seq (.region 0 [oP 64 (.move (.t 8)),
 oP 65 (.un .not (.t 64)),
 oP 66 (.move (.t 65)),
 oG 67 66 false (.move (.t 10)),
 oG 68 66 false (.bin .neq (.t 67) (.c (.int .i64 0))),
 oP 69 (.pick (.t 66) (.c (.bool true)) (.t 68)),
 oP 70 (.move (.t 69)),
 oG 71 70 false (.move (.t 9)),
 oG 72 70 false (.un .not (.t 71)),
 oP 73 (.pick (.t 70) (.c (.bool true)) (.t 72))])
 (.cond (.t 73) (.seq (.region 0 [oP 6 (.move (.c (.bool false)))])
 (.ret))
 (.skip)))
 (.seq (.seq (.region 0 [oP 11 (.move (.c (.int .i64 0)))])
 (.block 0 (.loop (.seq (.seq (.region 0 [oP 74 (.move (.t 11)),
 oP 75 (.move (.t 2)),
 oP 76 (.lenS (.t 75)),
 oP 77 (.bin .lss (.t 74) (.t 76))])
 (.cond (.t 77) (.skip)
 (.exit 0)))
 (.seq (.block 1 (.seq (.region 0 [oQ 81 (.load true 4 (.t 3)),
 oP 82 (.move (.t 11)),
 oQ 83 (.call 1 22 [(.t 81), (.t 82)]),
 oP 80 (.move (.t 83)),
 oP 84 (.extract (.t 80) 0),
 oP 85 (.extract (.t 80) 1),
 oQ 12 (.alloc [.int .i64 0, .int .i64 0]),
 ⟨none, .store 2 (.t 12) (.t 84), none, none, []⟩,
 oP 13 (.move (.t 85))])
 (.seq (.region 0 [oQ 87 (.load true 4 (.t 3)),
 oP 88 (.move (.t 11)),
 oQ 89 (.call 1 23 [(.t 87), (.t 88)]),
 oP 86 (.move (.t 89)),
 oP 90 (.extract (.t 86) 0),
 oP 91 (.extract (.t 86) 1),
 oQ 14 (.alloc [.int .i64 0, .int .i64 0]),
 ⟨none, .store 2 (.t 14) (.t 90), none, none, []⟩,
 oP 15 (.move (.t 91))])
 (.seq (.region 0 [oP 92 (.fieldAddr 0 (.t 4)),
 oQ 93 (.load false 1 (.t 92)),
 oP 94 (.move (.t 2)),
 oP 95 (.move (.t 11)),
 oP 96 (.idxSl 1 (.t 94) (.t 95)),
 oQ 97 (.load false 1 (.t 96)),
 oP 98 (.bin .mul (.t 93) (.t 97)),
 oP 16 (.move (.t 98))])
 (.seq (.region 0 [oP 99 (.move (.t 13)),
 oP 100 (.bin .neq (.t 99) (.c (.int .i64 0))),
 oP 101 (.move (.t 100)),
 oG 102 101 false (.move (.t 15)),
 oG 103 101 false (.bin .neq (.t 102) (.c (.int .i64 0))),
 oP 104 (.pick (.t 101) (.c (.bool true)) (.t 103)),
 oP 105 (.move (.t 104)),
 ⟨(some 106), .load true 2 (.t 12), (some (105, false)), none, []⟩,
 oG 107 105 false (.move (.t 2)),
 oG 108 105 false (.move (.t 11)),
 oG 109 105 false (.idxSl 1 (.t 107) (.t 108)),
 ⟨(some 110), .load false 1 (.t 109), (some (105, false)), none, []⟩,
 ⟨(some 111), .call 1 24 [(.t 106), (.t 110)], (some (105, false)), none, []⟩,
 oG 112 105 false (.un .not (.t 111)),
 oP 113 (.pick (.t 105) (.c (.bool true)) (.t 112)),
 oP 114 (.move (.t 113)),
 ⟨(some 115), .load true 2 (.t 14), (some (114, false)), none, []⟩,
 oG 116 114 false (.move (.t 16)),
 ⟨(some 117), .call 1 24 [(.t 115), (.t 116)], (some (114, false)), none, []⟩,
 oG 118 114 false (.un .not (.t 117)),
 oP 119 (.pick (.t 114) (.c (.bool true)) (.t 118)),
 oP 120 (.move (.t 119)),
 oG 121 120 false (.move (.t 16)),
 oG 122 120 false (.move (.t 7)),
 oG 123 120 false (.move (.t 11)),
 oG 124 120 false (.idxSl 1 (.t 122) (.t 123)),
 ⟨(some 125), .load false 1 (.t 124), (some (120, false)), none, []⟩,
 oG 126 120 false (.bin .mul (.c (.int .i64 12)) (.t 125)),
 oG 127 120 false (.bin .gtr (.t 121) (.t 126)),
 oP 128 (.pick (.t 120) (.c (.bool true)) (.t 127))])
 (.cond (.t 128) (.seq (.region 0 [oP 6 (.move (.c (.bool false)))])
 (.ret))
 (.skip)))))))
 (.region 0 [oP 78 (.move (.t 11)),
 oP 79 (.bin .add (.t 78) (.c (.int .i64 1))),
 oP 11 (.move (.t 79))]))))))
 (.seq (.seq (.region 0 [oQ 129 (.load true 4 (.t 3)),
 oP 130 (.fieldAddr 1 (.t 4)),
 oQ 131 (.load false 1 (.t 130)),
 oQ 132 (.call 1 25 [(.t 129), (.t 131)]),
 oP 133 (.un .not (.t 132))])
 (.cond (.t 133) (.seq (.region 0 [oQ 134 (.call 1 19 []),
 oP 6 (.move (.t 134))])
 (.ret))
 (.skip)))
 (.seq (.region 0 [oQ 136 (.load true 4 (.t 3)),
 oP 137 (.fieldAddr 1 (.t 4)),
 oQ 138 (.load false 1 (.t 137)),
 oQ 139 (.call 1 22 [(.t 136), (.t 138)]),
 oP 135 (.move (.t 139)),
 oP 140 (.extract (.t 135) 0),
 oP 141 (.extract (.t 135) 1),
 oQ 17 (.alloc [.int .i64 0, .int .i64 0]),
 ⟨none, .store 2 (.t 17) (.t 140), none, none, []⟩,
 oP 10 (.move (.t 141))])
 (.seq (.region 0 [oP 18 (.move (.c (.int .i64 0))),
 oP 19 (.move (.c (.int .i64 0)))])
 (.seq (.seq (.region 0 [oP 20 (.move (.c (.int .i64 0)))])
 (.block 2 (.loop (.seq (.seq (.region 0 [oP 142 (.move (.t 20)),
 oP 143 (.fieldAddr 2 (.t 3)),
 oQ 144 (.load false 1 (.t 143)),
 oP 145 (.lenS (.t 144)),
 oP 146 (.bin .lss (.t 142) (.t 145))])
 (.cond (.t 146) (.skip)
 (.exit 2)))
 (.seq (.block 3 (.seq (.region 0 [oP 149 (.move (.t 20)),
 oP 150 (.fieldAddr 1 (.t 4)),
 oQ 151 (.load false 1 (.t 150)),
 oP 152 (.bin .neq (.t 149) (.t 151))])
 (.cond (.t 152) (.region 0 [oP 153 (.move (.t 18)),
 oP 154 (.fieldAddr 2 (.t 3)),
 oQ 155 (.load false 1 (.t 154)),
 oP 156 (.move (.t 20)),
 oP 157 (.idxSl 2 (.t 155) (.t 156)),
 oP 158 (.fieldAddr 0 (.t 157)),
 oQ 159 (.load false 1 (.t 158)),
 oP 160 (.bin .add (.t 153) (.t 159)),
 oP 161 (.move (.t 19)),
 oP 162 (.fieldAddr 2 (.t 3)),
 oQ 163 (.load false 1 (.t 162)),
 oP 164 (.move (.t 20)),
 oP 165 (.idxSl 2 (.t 163) (.t 164)),
 oP 166 (.fieldAddr 1 (.t 165)),
 oQ 167 (.load false 1 (.t 166)),
 oP 168 (.bin .add (.t 161) (.t 167)),
 oP 18 (.move (.t 160)),
 oP 19 (.move (.t 168))])
 (.skip))))
 (.region 0 [oP 147 (.move (.t 20)),
 oP 148 (.bin .add (.t 147) (.c (.int .i64 1))),
 oP 20 (.move (.t 148))]))))))
 (.seq (.region 0 [oP 169 (.fieldAddr 2 (.t 3)),
 oQ 170 (.load false 1 (.t 169)),
 oP 171 (.fieldAddr 1 (.t 4)),
 oQ 172 (.load false 1 (.t 171)),
 oP 173 (.idxSl 2 (.t 170) (.t 172)),
 oQ 174 (.load true 2 (.t 173)),
 oQ 21 (.alloc [.int .i64 0, .int .i64 0]),
 ⟨none, .store 2 (.t 21) (.t 174), none, none, []⟩])
 (.seq (.region 0 [oP 175 (.move (.t 10)),
 oP 176 (.bin .eql (.t 175) (.c (.int .i64 0))),
 oP 177 (.move (.t 176)),
 oG 178 177 true (.fieldAddr 0 (.t 17)),
 ⟨(some 179), .load false 1 (.t 178), (some (177, true)), none, []⟩,
 oG 180 177 true (.fieldAddr 0 (.t 21)),
 ⟨(some 181), .load false 1 (.t 180), (some (177, true)), none, []⟩,
 oG 182 177 true (.move (.t 19)),
 oG 183 177 true (.bin .sub (.c (.int .i64 12)) (.t 182)),
 oG 184 177 true (.minmax true (.t 181) [(.t 183)]),
 oG 185 177 true (.bin .eql (.t 179) (.t 184)),
 oP 186 (.pick (.t 177) (.t 185) (.c (.bool false))),
 oP 187 (.move (.t 186)),
 oG 188 187 true (.fieldAddr 1 (.t 17)),
 ⟨(some 189), .load false 1 (.t 188), (some (187, true)), none, []⟩,
 oG 190 187 true (.fieldAddr 1 (.t 21)),
 ⟨(some 191), .load false 1 (.t 190), (some (187, true)), none, []⟩,
 oG 192 187 true (.move (.t 18)),
 oG 193 187 true (.bin .sub (.c (.int .i64 12)) (.t 192)),
 oG 194 187 true (.minmax false (.t 191) [(.t 193)]),
 oG 195 187 true (.bin .eql (.t 189) (.t 194)),
 oP 196 (.pick (.t 187) (.t 195) (.c (.bool false))),
 oP 197 (.move (.t 196)),
 ⟨(some 198), .call 1 19 [], (some (197, true)), none, []⟩,
 oP 199 (.pick (.t 197) (.t 198) (.c (.bool false))),
 oP 6 (.move (.t 199))])
 (.ret))))))))))))⟩
/-- almadraba/almadrabalaw05.LiftsHeld -/
def f4 : AFn := ⟨124, [.tmp 6],
 .seq (.region 0 [oQ 3 (.box (.t 0)),
 oQ 5 (.box (.t 2)),
 oP 6 (.move (.c (.bool false)))])
 (.seq (.seq (.region 0 [oQ 14 (.load true 4 (.t 3)),
 oQ 15 (.call 1 16 [(.t 14)]),
 oP 16 (.un .not (.t 15)),
 oP 17 (.move (.t 16)),
 oG 18 17 false (.move (.t 1)),
 oG 19 17 false (.lenS (.t 18)),
 oG 20 17 false (.bin .gtr (.t 19) (.c (.int .i64 40))),
 oP 21 (.pick (.t 17) (.c (.bool true)) (.t 20)),
 oP 22 (.move (.t 21)),
 ⟨(some 23), .load true 4 (.t 3), (some (22, false)), none, []⟩,
 oG 24 22 false (.move (.t 1)),
 ⟨(some 25), .call 1 26 [(.t 23), (.t 24)], (some (22, false)), none, []⟩,
 oG 26 22 false (.un .not (.t 25)),
 oP 27 (.pick (.t 22) (.c (.bool true)) (.t 26))])
 (.cond (.t 27) (.seq (.region 0 [oQ 28 (.call 1 19 []),
 oP 6 (.move (.t 28))])
 (.ret))
 (.skip)))
 (.seq (.region 2 [⟨(some 30), .load true 4 (.t 3), none, none, [0, 1]⟩,
 ⟨(some 31), .buildSlice 1 0 [.int .i64 0] [], none, (some 0), []⟩,
 oP 32 (.move (.t 1)),
 ⟨(some 33), .append true 1 8 (.t 31) (.t 32), none, (some 1), []⟩,
 oQ 34 (.call 1 27 [(.t 30), (.t 33)]),
 oP 29 (.move (.t 34)),
 oP 35 (.extract (.t 29) 0),
 oP 36 (.extract (.t 29) 1),
 oP 7 (.move (.t 35)),
 oP 8 (.move (.t 36))])
 (.seq (.region 0 [oQ 38 (.load true 4 (.t 3)),
 oQ 39 (.call 1 20 [(.t 38)]),
 oP 37 (.move (.t 39)),
 oP 40 (.extract (.t 37) 0),
 oP 41 (.extract (.t 37) 1),
 oP 9 (.move (.t 40)),
 oP 10 (.move (.t 41))])
 (.seq (.region 0 [oQ 42 (.load true 4 (.t 3)),
 oP 43 (.move (.t 1)),
 oQ 44 (.call 1 28 [(.t 42), (.t 43)]),
 oP 11 (.move (.t 44))])
 (.seq (.seq (.region 0 [oP 45 (.move (.t 8)),
 oP 46 (.bin .neq (.t 45) (.c (.int .i64 0))),
 oP 47 (.move (.t 46)),
 oG 48 47 false (.move (.t 10)),
 oG 49 47 false (.un .not (.t 48)),
 oP 50 (.pick (.t 47) (.c (.bool true)) (.t 49)),
 oP 51 (.move (.t 50)),
 oG 52 51 false (.move (.t 11)),
 oG 53 51 false (.bin .lss (.t 52) (.c (.int .i64 0))),
 oP 54 (.pick (.t 51) (.c (.bool true)) (.t 53)),
 oP 55 (.move (.t 54)),
 oG 56 55 false (.move (.t 7)),
 ⟨(some 57), .call 1 17 [(.t 56), (.c (.int .i64 1)), (.c (.int .i64 3))], (some (55, false)), none, []⟩,
 oG 58 55 false (.un .not (.t 57)),
 oP 59 (.pick (.t 55) (.c (.bool true)) (.t 58))])
 (.cond (.t 59) (.seq (.region 0 [oP 6 (.move (.c (.bool false)))])
 (.ret))
 (.skip)))
 (.seq (.seq (.region 0 [oQ 60 (.load true 4 (.t 3)),
 oP 61 (.move (.t 1)),
 oP 62 (.move (.t 9)),
 oQ 63 (.call 1 29 [(.t 60), (.t 61), (.t 62)]),
 oP 12 (.move (.t 63))])
 (.seq (.region 0 [oP 64 (.move (.t 12)),
 oP 65 (.move (.t 7)),
 oP 66 (.bin .eql (.t 65) (.c (.int .i64 1))),
 oP 67 (.eqB true (.t 64) (.t 66)),
 oP 68 (.move (.t 67)),
 oG 69 68 false (.move (.t 12)),
 oG 70 68 false (.move (.t 11)),
 oG 71 68 false (.fieldAddr 0 (.t 3)),
 oG 72 68 false (.fieldAddr 1 (.t 71)),
 ⟨(some 73), .load false 1 (.t 72), (some (68, false)), none, []⟩,
 oG 74 68 false (.bin .geq (.t 70) (.t 73)),
 oG 75 68 false (.eqB true (.t 69) (.t 74)),
 oP 76 (.pick (.t 68) (.c (.bool true)) (.t 75))])
 (.cond (.t 76) (.seq (.region 0 [oP 6 (.move (.c (.bool false)))])
 (.ret))
 (.skip))))
 (.seq (.seq (.region 0 [oP 77 (.fieldAddr 1 (.t 5)),
 oQ 78 (.load false 1 (.t 77)),
 oP 79 (.lenS (.t 78)),
 oP 80 (.bin .gtr (.t 79) (.c (.int .i64 40))),
 oP 81 (.move (.t 80)),
 oG 82 81 false (.fieldAddr 0 (.t 5)),
 ⟨(some 83), .load false 1 (.t 82), (some (81, false)), none, []⟩,
 oG 84 81 false (.fieldAddr 0 (.t 3)),
 oG 85 81 false (.fieldAddr 0 (.t 84)),
 ⟨(some 86), .load false 1 (.t 85), (some (81, false)), none, []⟩,
 oG 87 81 false (.fieldAddr 0 (.t 3)),
 oG 88 81 false (.fieldAddr 1 (.t 87)),
 ⟨(some 89), .load false 1 (.t 88), (some (81, false)), none, []⟩,
 ⟨(some 90), .call 1 17 [(.t 83), (.t 86), (.t 89)], (some (81, false)), none, []⟩,
 oG 91 81 false (.un .not (.t 90)),
 oP 92 (.pick (.t 81) (.c (.bool true)) (.t 91)),
 oP 93 (.move (.t 92)),
 ⟨(some 94), .load true 4 (.t 3), (some (93, false)), none, []⟩,
 oG 95 93 false (.fieldAddr 1 (.t 5)),
 ⟨(some 96), .load false 1 (.t 95), (some (93, false)), none, []⟩,
 ⟨(some 97), .call 1 18 [(.t 94), (.t 96)], (some (93, false)), none, []⟩,
 oG 98 93 false (.un .not (.t 97)),
 oP 99 (.pick (.t 93) (.c (.bool true)) (.t 98))])
 (.cond (.t 99) (.seq (.region 0 [oQ 100 (.call 1 19 []),
 oP 6 (.move (.t 100))])
 (.ret))
 (.skip)))
 (.seq (.region 0 [oQ 101 (.load true 4 (.t 3)),
 oP 102 (.move (.t 1)),
 oP 103 (.fieldAddr 0 (.t 5)),
 oQ 104 (.load false 1 (.t 103)),
 oP 105 (.fieldAddr 1 (.t 5)),
 oQ 106 (.load false 1 (.t 105)),
 oQ 107 (.call 1 30 [(.t 101), (.t 102), (.t 104), (.t 106)]),
 oP 13 (.move (.t 107))])
 (.seq (.region 0 [oP 108 (.move (.t 7)),
 oP 109 (.bin .neq (.t 108) (.c (.int .i64 1))),
 oP 110 (.move (.t 109)),
 oG 111 110 false (.move (.t 13)),
 oG 112 110 false (.un .not (.t 111)),
 oP 113 (.pick (.t 110) (.c (.bool true)) (.t 112)),
 oP 114 (.move (.t 113)),
 oG 115 114 true (.move (.t 7)),
 oG 116 114 true (.bin .neq (.t 115) (.c (.int .i64 2))),
 oG 117 114 true (.move (.t 116)),
 oG 118 117 false (.move (.t 13)),
 oG 119 114 true (.pick (.t 117) (.c (.bool true)) (.t 118)),
 oP 120 (.pick (.t 114) (.t 119) (.c (.bool false))),
 oP 121 (.move (.t 120)),
 ⟨(some 122), .call 1 19 [], (some (121, true)), none, []⟩,
 oP 123 (.pick (.t 121) (.t 122) (.c (.bool false))),
 oP 6 (.move (.t 123))])
 (.ret))))))))))⟩
/-- almadraba/almadrabalaw05.LiftsChosen -/
def f5 : AFn := ⟨152, [.tmp 4],
 .seq (.region 0 [oQ 2 (.box (.t 0)),
 oP 4 (.move (.c (.bool false)))])
 (.seq (.seq (.region 0 [oQ 16 (.load true 4 (.t 2)),
 oQ 17 (.call 1 16 [(.t 16)]),
 oP 18 (.un .not (.t 17))])
 (.cond (.t 18) (.seq (.region 0 [oQ 19 (.call 1 19 []),
 oP 4 (.move (.t 19))])
 (.ret))
 (.skip)))
 (.seq (.region 0 [oQ 21 (.load true 4 (.t 2)),
 oQ 22 (.call 1 31 [(.t 21)]),
 oP 20 (.move (.t 22)),
 oP 23 (.extract (.t 20) 0),
 oP 24 (.extract (.t 20) 1),
 oP 5 (.move (.t 23)),
 oP 6 (.move (.t 24))])
 (.seq (.region 0 [oQ 26 (.load true 4 (.t 2)),
 oQ 27 (.call 1 32 [(.t 26)]),
 oP 25 (.move (.t 27)),
 oP 28 (.extract (.t 25) 0),
 oP 29 (.extract (.t 25) 1),
 oP 7 (.move (.t 28)),
 oP 8 (.move (.t 29))])
 (.seq (.region 0 [oQ 31 (.load true 4 (.t 2)),
 oQ 32 (.call 1 33 [(.t 31)]),
 oP 30 (.move (.t 32)),
 oP 33 (.extract (.t 30) 0),
 oP 34 (.extract (.t 30) 1),
 oP 9 (.move (.t 33)),
 oP 10 (.move (.t 34))])
 (.seq (.region 0 [oQ 36 (.load true 4 (.t 2)),
 oQ 37 (.call 1 34 [(.t 36)]),
 oP 35 (.move (.t 37)),
 oP 38 (.extract (.t 35) 0),
 oP 39 (.extract (.t 35) 1),
 oP 11 (.move (.t 38)),
 oP 12 (.move (.t 39))])
 (.seq (.seq (.region 0 [oP 40 (.move (.t 6)),
 oP 41 (.move (.t 8)),
 oP 42 (.bin .neq (.t 40) (.t 41)),
 oP 43 (.move (.t 42)),
 oG 44 43 false (.move (.t 6)),
 ⟨(some 45), .call 1 35 [(.t 44)], (some (43, false)), none, []⟩,
 oG 46 43 false (.un .not (.t 45)),
 oP 47 (.pick (.t 43) (.c (.bool true)) (.t 46)),
 oP 48 (.move (.t 47)),
 oG 49 48 false (.move (.t 10)),
 oG 50 48 false (.un .not (.t 49)),
 oP 51 (.pick (.t 48) (.c (.bool true)) (.t 50)),
 oP 52 (.move (.t 51)),
 oG 53 52 false (.move (.t 12)),
 ⟨(some 54), .call 1 35 [(.t 53)], (some (52, false)), none, []⟩,
 oG 55 52 false (.un .not (.t 54)),
 oP 56 (.pick (.t 52) (.c (.bool true)) (.t 55)),
 oP 57 (.move (.t 56)),
 oG 58 57 false (.move (.t 6)),
 oG 59 57 false (.bin .eql (.t 58) (.c (.int .i64 0))),
 oG 60 57 false (.move (.t 9)),
 oG 61 57 false (.fieldAddr 0 (.t 2)),
 oG 62 57 false (.fieldAddr 1 (.t 61)),
 ⟨(some 63), .load false 1 (.t 62), (some (57, false)), none, []⟩,
 oG 64 57 false (.bin .geq (.t 60) (.t 63)),
 oG 65 57 false (.eqB true (.t 59) (.t 64)),
 oP 66 (.pick (.t 57) (.c (.bool true)) (.t 65)),
 oP 67 (.move (.t 66)),
 oG 68 67 false (.move (.t 6)),
 oG 69 67 false (.bin .eql (.t 68) (.c (.int .i64 0))),
 oG 70 67 false (.move (.t 12)),
 oG 71 67 false (.bin .eql (.t 70) (.c (.int .i64 3))),
 oG 72 67 false (.eqB true (.t 69) (.t 71)),
 oP 73 (.pick (.t 67) (.c (.bool true)) (.t 72))])
 (.cond (.t 73) (.seq (.region 0 [oP 4 (.move (.c (.bool false)))])
 (.ret))
 (.skip)))
 (.seq (.region 0 [oQ 75 (.load true 4 (.t 2)),
 oQ 76 (.call 1 20 [(.t 75)]),
 oP 74 (.move (.t 76)),
 oP 77 (.extract (.t 74) 0),
 oP 78 (.extract (.t 74) 1),
 oP 13 (.move (.t 77)),
 oP 14 (.move (.t 78))])
 (.seq (.seq (.region 0 [oP 79 (.move (.t 14)),
 oP 80 (.un .not (.t 79))])
 (.cond (.t 80) (.seq (.region 0 [oP 4 (.move (.c (.bool false)))])
 (.ret))
 (.skip)))
 (.seq (.seq (.region 0 [oP 81 (.move (.t 6)),
 oP 82 (.bin .eql (.t 81) (.c (.int .i64 0))),
 oP 83 (.move (.t 82)),
 oG 84 83 true (.move (.t 5)),
 oG 85 83 true (.lenS (.t 84)),
 oG 86 83 true (.fieldAddr 2 (.t 2)),
 ⟨(some 87), .load false 1 (.t 86), (some (83, true)), none, []⟩,
 oG 88 83 true (.lenS (.t 87)),
 oG 89 83 true (.bin .neq (.t 85) (.t 88)),
 oG 90 83 true (.move (.t 89)),
 ⟨(some 91), .load true 4 (.t 2), (some (90, false)), none, []⟩,
 oG 92 90 false (.move (.t 5)),
 ⟨(some 93), .call 1 26 [(.t 91), (.t 92)], (some (90, false)), none, []⟩,
 oG 94 90 false (.un .not (.t 93)),
 oG 95 83 true (.pick (.t 90) (.c (.bool true)) (.t 94)),
 oG 96 83 true (.move (.t 95)),
 ⟨(some 97), .load true 4 (.t 2), (some (96, false)), none, []⟩,
 oG 98 96 false (.move (.t 5)),
 oG 99 96 false (.move (.t 13)),
 ⟨(some 100), .call 1 29 [(.t 97), (.t 98), (.t 99)], (some (96, false)), none, []⟩,
 oG 101 96 false (.un .not (.t 100)),
 oG 102 83 true (.pick (.t 96) (.c (.bool true)) (.t 101)),
 oG 103 83 true (.move (.t 102)),
 ⟨(some 104), .load true 4 (.t 2), (some (103, false)), none, []⟩,
 oG 105 103 false (.move (.t 5)),
 ⟨(some 106), .call 1 36 [(.t 104), (.t 105)], (some (103, false)), none, []⟩,
 oG 107 103 false (.move (.t 7)),
 oG 108 103 false (.bin .neq (.t 106) (.t 107)),
 oG 109 83 true (.pick (.t 103) (.c (.bool true)) (.t 108)),
 oP 110 (.pick (.t 83) (.t 109) (.c (.bool false)))])
 (.cond (.t 110) (.seq (.region 0 [oP 4 (.move (.c (.bool false)))])
 (.ret))
 (.skip)))
 (.seq (.seq (.region 0 [oP 111 (.move (.t 1)),
 oP 112 (.lenS (.t 111)),
 oP 113 (.bin .gtr (.t 112) (.c (.int .i64 40))),
 oP 114 (.move (.t 113)),
 ⟨(some 115), .load true 4 (.t 2), (some (114, false)), none, []⟩,
 oG 116 114 false (.move (.t 1)),
 ⟨(some 117), .call 1 26 [(.t 115), (.t 116)], (some (114, false)), none, []⟩,
 oG 118 114 false (.un .not (.t 117)),
 oP 119 (.pick (.t 114) (.c (.bool true)) (.t 118)),
 oP 120 (.move (.t 119)),
 ⟨(some 121), .load true 4 (.t 2), (some (120, false)), none, []⟩,
 oG 122 120 false (.move (.t 1)),
 oG 123 120 false (.move (.t 13)),
 ⟨(some 124), .call 1 29 [(.t 121), (.t 122), (.t 123)], (some (120, false)), none, []⟩,
 oG 125 120 false (.un .not (.t 124)),
 oP 126 (.pick (.t 120) (.c (.bool true)) (.t 125))])
 (.cond (.t 126) (.seq (.region 0 [oQ 127 (.call 1 19 []),
 oP 4 (.move (.t 127))])
 (.ret))
 (.skip)))
 (.seq (.region 0 [oQ 128 (.load true 4 (.t 2)),
 oP 129 (.move (.t 1)),
 oQ 130 (.call 1 36 [(.t 128), (.t 129)]),
 oP 15 (.move (.t 130))])
 (.seq (.region 0 [oP 131 (.move (.t 6)),
 oP 132 (.bin .eql (.t 131) (.c (.int .i64 0))),
 oP 133 (.move (.t 132)),
 oG 134 133 true (.move (.t 15)),
 oG 135 133 true (.move (.t 7)),
 oG 136 133 true (.bin .geq (.t 134) (.t 135)),
 oP 137 (.pick (.t 133) (.t 136) (.c (.bool false))),
 oP 138 (.move (.t 137)),
 oG 139 138 true (.move (.t 15)),
 oG 140 138 true (.move (.t 7)),
 oG 141 138 true (.bin .gtr (.t 139) (.t 140)),
 oG 142 138 true (.move (.t 141)),
 oG 143 142 false (.move (.t 1)),
 oG 144 142 false (.move (.t 5)),
 ⟨(some 145), .call 1 37 [(.t 143), (.t 144)], (some (142, false)), none, []⟩,
 oG 146 142 false (.un .not (.t 145)),
 oG 147 138 true (.pick (.t 142) (.c (.bool true)) (.t 146)),
 oP 148 (.pick (.t 138) (.t 147) (.c (.bool false))),
 oP 149 (.move (.t 148)),
 ⟨(some 150), .call 1 19 [], (some (149, true)), none, []⟩,
 oP 151 (.pick (.t 149) (.t 150) (.c (.bool false))),
 oP 4 (.move (.t 151))])
 (.ret)))))))))))))⟩
/-- almadraba/almadrabalaw05.LiftsFirst -/
def f6 : AFn := ⟨138, [.tmp 6],
 .seq (.region 0 [oQ 3 (.box (.t 0)),
 oP 6 (.move (.c (.bool false)))])
 (.seq (.seq (.region 0 [oQ 13 (.load true 4 (.t 3)),
 oQ 14 (.call 1 16 [(.t 13)]),
 oP 15 (.un .not (.t 14)),
 oP 16 (.move (.t 15)),
 oG 17 16 false (.move (.t 1)),
 oG 18 16 false (.lenS (.t 17)),
 oG 19 16 false (.bin .gtr (.t 18) (.c (.int .i64 40))),
 oP 20 (.pick (.t 16) (.c (.bool true)) (.t 19)),
 oP 21 (.move (.t 20)),
 oG 22 21 false (.move (.t 2)),
 oG 23 21 false (.lenS (.t 22)),
 oG 24 21 false (.bin .gtr (.t 23) (.c (.int .i64 40))),
 oP 25 (.pick (.t 21) (.c (.bool true)) (.t 24)),
 oP 26 (.move (.t 25)),
 ⟨(some 27), .load true 4 (.t 3), (some (26, false)), none, []⟩,
 oG 28 26 false (.move (.t 1)),
 ⟨(some 29), .call 1 26 [(.t 27), (.t 28)], (some (26, false)), none, []⟩,
 oG 30 26 false (.un .not (.t 29)),
 oP 31 (.pick (.t 26) (.c (.bool true)) (.t 30)),
 oP 32 (.move (.t 31)),
 ⟨(some 33), .load true 4 (.t 3), (some (32, false)), none, []⟩,
 oG 34 32 false (.move (.t 2)),
 ⟨(some 35), .call 1 18 [(.t 33), (.t 34)], (some (32, false)), none, []⟩,
 oG 36 32 false (.un .not (.t 35)),
 oP 37 (.pick (.t 32) (.c (.bool true)) (.t 36))])
 (.cond (.t 37) (.seq (.region 0 [oQ 38 (.call 1 19 []),
 oP 6 (.move (.t 38))])
 (.ret))
 (.skip)))
 (.seq (.region 0 [oQ 39 (.load true 4 (.t 3)),
 oP 40 (.move (.t 1)),
 oQ 41 (.call 1 28 [(.t 39), (.t 40)]),
 oP 7 (.move (.t 41))])
 (.seq (.region 2 [⟨(some 43), .load true 4 (.t 3), none, none, [0, 1]⟩,
 ⟨(some 44), .buildSlice 1 0 [.int .i64 0] [], none, (some 0), []⟩,
 oP 45 (.move (.t 1)),
 ⟨(some 46), .append true 1 8 (.t 44) (.t 45), none, (some 1), []⟩,
 oQ 47 (.call 1 38 [(.t 43), (.t 46)]),
 oP 42 (.move (.t 47)),
 oP 48 (.extract (.t 42) 0),
 oP 49 (.extract (.t 42) 1),
 oP 8 (.move (.t 48)),
 oP 9 (.move (.t 49))])
 (.seq (.seq (.region 0 [oP 50 (.move (.t 7)),
 oP 51 (.bin .lss (.t 50) (.c (.int .i64 0))),
 oP 52 (.move (.t 51)),
 oG 53 52 false (.move (.t 9)),
 ⟨(some 54), .call 1 35 [(.t 53)], (some (52, false)), none, []⟩,
 oG 55 52 false (.un .not (.t 54)),
 oP 56 (.pick (.t 52) (.c (.bool true)) (.t 55)),
 oP 57 (.move (.t 56)),
 oG 58 57 false (.move (.t 9)),
 oG 59 57 false (.bin .eql (.t 58) (.c (.int .i64 3))),
 oG 60 57 false (.move (.t 7)),
 oG 61 57 false (.bin .eql (.t 60) (.c (.int .i64 2000))),
 oG 62 57 false (.eqB true (.t 59) (.t 61)),
 oP 63 (.pick (.t 57) (.c (.bool true)) (.t 62)),
 oP 64 (.move (.t 63)),
 ⟨(some 65), .load true 4 (.t 3), (some (64, false)), none, []⟩,
 oG 66 64 false (.move (.t 1)),
 oG 67 64 false (.move (.t 7)),
 oG 68 64 false (.move (.t 2)),
 ⟨(some 69), .call 1 30 [(.t 65), (.t 66), (.t 67), (.t 68)], (some (64, false)), none, []⟩,
 oP 70 (.pick (.t 64) (.c (.bool true)) (.t 69))])
 (.cond (.t 70) (.seq (.region 0 [oP 6 (.move (.c (.bool false)))])
 (.ret))
 (.skip)))
 (.seq (.seq (.region 0 [oP 71 (.move (.t 9)),
 oP 72 (.bin .neq (.t 71) (.c (.int .i64 0)))])
 (.cond (.t 72) (.seq (.region 0 [oQ 73 (.call 1 19 []),
 oP 6 (.move (.t 73))])
 (.ret))
 (.skip)))
 (.seq (.seq (.region 0 [oQ 74 (.load true 4 (.t 3)),
 oP 75 (.move (.t 8)),
 oQ 76 (.call 1 25 [(.t 74), (.t 75)]),
 oP 77 (.un .not (.t 76))])
 (.cond (.t 77) (.seq (.region 0 [oP 6 (.move (.c (.bool false)))])
 (.ret))
 (.skip)))
 (.seq (.region 0 [oQ 79 (.load true 4 (.t 3)),
 oP 80 (.move (.t 8)),
 oQ 81 (.call 1 22 [(.t 79), (.t 80)]),
 oP 78 (.move (.t 81)),
 oP 82 (.extract (.t 78) 0),
 oP 83 (.extract (.t 78) 1),
 oQ 10 (.alloc [.int .i64 0, .int .i64 0]),
 ⟨none, .store 2 (.t 10) (.t 82), none, none, []⟩,
 oP 11 (.move (.t 83))])
 (.seq (.seq (.region 0 [oP 84 (.move (.t 11)),
 oP 85 (.bin .neq (.t 84) (.c (.int .i64 0))),
 oP 86 (.move (.t 85)),
 oG 87 86 false (.fieldAddr 1 (.t 10)),
 ⟨(some 88), .load false 1 (.t 87), (some (86, false)), none, []⟩,
 oG 89 86 false (.bin .lss (.t 88) (.c (.int .i64 0))),
 oP 90 (.pick (.t 86) (.c (.bool true)) (.t 89)),
 oP 91 (.move (.t 90)),
 oG 92 91 false (.fieldAddr 1 (.t 10)),
 ⟨(some 93), .load false 1 (.t 92), (some (91, false)), none, []⟩,
 oG 94 91 false (.bin .gtr (.t 93) (.c (.int .i64 12))),
 oP 95 (.pick (.t 91) (.c (.bool true)) (.t 94)),
 oP 96 (.move (.t 95)),
 oG 97 96 false (.move (.t 7)),
 oG 98 96 false (.bin .add (.t 97) (.c (.int .i64 1))),
 oG 99 96 false (.fieldAddr 1 (.t 10)),
 ⟨(some 100), .load false 1 (.t 99), (some (96, false)), none, []⟩,
 oG 101 96 false (.bin .mul (.t 98) (.t 100)),
 oG 102 96 false (.fieldAddr 3 (.t 3)),
 ⟨(some 103), .load false 1 (.t 102), (some (96, false)), none, []⟩,
 oG 104 96 false (.move (.t 1)),
 oG 105 96 false (.move (.t 8)),
 oG 106 96 false (.idxSl 1 (.t 104) (.t 105)),
 ⟨(some 107), .load false 1 (.t 106), (some (96, false)), none, []⟩,
 oG 108 96 false (.idxSl 2 (.t 103) (.t 107)),
 oG 109 96 false (.fieldAddr 0 (.t 108)),
 ⟨(some 110), .load false 1 (.t 109), (some (96, false)), none, []⟩,
 oG 111 96 false (.bin .mul (.c (.int .i64 12)) (.t 110)),
 oG 112 96 false (.bin .leq (.t 101) (.t 111)),
 oP 113 (.pick (.t 96) (.c (.bool true)) (.t 112))])
 (.cond (.t 113) (.seq (.region 0 [oP 6 (.move (.c (.bool false)))])
 (.ret))
 (.skip)))
 (.seq (.seq (.region 0 [oP 12 (.move (.c (.int .i64 0)))])
 (.block 0 (.loop (.seq (.seq (.region 0 [oP 114 (.move (.t 12)),
 oP 115 (.move (.t 8)),
 oP 116 (.bin .lss (.t 114) (.t 115))])
 (.cond (.t 116) (.skip)
 (.exit 0)))
 (.seq (.block 1 (.seq (.region 0 [oP 119 (.move (.t 7)),
 oP 120 (.bin .add (.t 119) (.c (.int .i64 1))),
 oP 121 (.move (.t 2)),
 oP 122 (.move (.t 12)),
 oP 123 (.idxSl 1 (.t 121) (.t 122)),
 oQ 124 (.load false 1 (.t 123)),
 oP 125 (.bin .mul (.t 120) (.t 124)),
 oP 126 (.fieldAddr 3 (.t 3)),
 oQ 127 (.load false 1 (.t 126)),
 oP 128 (.move (.t 1)),
 oP 129 (.move (.t 12)),
 oP 130 (.idxSl 1 (.t 128) (.t 129)),
 oQ 131 (.load false 1 (.t 130)),
 oP 132 (.idxSl 2 (.t 127) (.t 131)),
 oP 133 (.fieldAddr 0 (.t 132)),
 oQ 134 (.load false 1 (.t 133)),
 oP 135 (.bin .mul (.c (.int .i64 12)) (.t 134)),
 oP 136 (.bin .gtr (.t 125) (.t 135))])
 (.cond (.t 136) (.seq (.region 0 [oP 6 (.move (.c (.bool false)))])
 (.ret))
 (.skip))))
 (.region 0 [oP 117 (.move (.t 12)),
 oP 118 (.bin .add (.t 117) (.c (.int .i64 1))),
 oP 12 (.move (.t 118))]))))))
 (.seq (.region 0 [oQ 137 (.call 1 19 []),
 oP 6 (.move (.t 137))])
 (.ret)))))))))))⟩
/-- almadraba/almadrabalaw05.LiftsMore -/
def f7 : AFn := ⟨208, [.tmp 6],
 .seq (.region 0 [oQ 3 (.box (.t 0)),
 oQ 4 (.box (.t 1)),
 oQ 5 (.box (.t 2)),
 oP 6 (.move (.c (.bool false)))])
 (.seq (.seq (.region 0 [oQ 28 (.load true 4 (.t 3)),
 oQ 29 (.call 1 16 [(.t 28)]),
 oP 30 (.un .not (.t 29))])
 (.cond (.t 30) (.seq (.region 0 [oQ 31 (.call 1 19 []),
 oP 6 (.move (.t 31))])
 (.ret))
 (.skip)))
 (.seq (.region 0 [oQ 33 (.load true 4 (.t 3)),
 oQ 34 (.call 1 39 [(.t 33)]),
 oP 32 (.move (.t 34)),
 oP 35 (.extract (.t 32) 0),
 oP 36 (.extract (.t 32) 1),
 oP 7 (.move (.t 35)),
 oP 8 (.move (.t 36))])
 (.seq (.region 0 [oQ 38 (.load true 4 (.t 3)),
 oQ 39 (.call 1 33 [(.t 38)]),
 oP 37 (.move (.t 39)),
 oP 40 (.extract (.t 37) 0),
 oP 41 (.extract (.t 37) 1),
 oP 9 (.move (.t 40)),
 oP 10 (.move (.t 41))])
 (.seq (.region 0 [oQ 43 (.load true 4 (.t 3)),
 oQ 44 (.call 1 20 [(.t 43)]),
 oP 42 (.move (.t 44)),
 oP 45 (.extract (.t 42) 0),
 oP 46 (.extract (.t 42) 1),
 oP 11 (.move (.t 45)),
 oP 12 (.move (.t 46))])
 (.seq (.seq (.region 0 [oP 47 (.move (.t 8)),
 oP 48 (.un .not (.t 47)),
 oP 49 (.move (.t 48)),
 oG 50 49 false (.move (.t 10)),
 oG 51 49 false (.un .not (.t 50)),
 oP 52 (.pick (.t 49) (.c (.bool true)) (.t 51)),
 oP 53 (.move (.t 52)),
 oG 54 53 false (.move (.t 12)),
 oG 55 53 false (.un .not (.t 54)),
 oP 56 (.pick (.t 53) (.c (.bool true)) (.t 55))])
 (.cond (.t 56) (.seq (.region 0 [oP 6 (.move (.c (.bool false)))])
 (.ret))
 (.skip)))
 (.seq (.region 0 [oQ 57 (.load true 4 (.t 3)),
 oQ 58 (.call 2 40 [(.t 57)]),
 oQ 13 (.alloc [.int .i64 0, .int .i64 0, .nils, .nils]),
 ⟨none, .store 4 (.t 13) (.t 58), none, none, []⟩])
 (.seq (.region 0 [oP 59 (.fieldAddr 3 (.t 13)),
 oQ 60 (.load false 1 (.t 59)),
 oQ 61 (.load true 2 (.t 4)),
 oQ 62 (.litS 2 1 [.int .i64 0, .int .i64 0] [(0, (.t 61))]),
 oQ 63 (.append false 2 16 (.t 60) (.t 62)),
 oP 64 (.fieldAddr 3 (.t 13)),
 ⟨none, .store 1 (.t 64) (.t 63), none, none, []⟩])
 (.seq (.seq (.region 0 [oQ 65 (.load true 4 (.t 13)),
 oQ 66 (.call 1 16 [(.t 65)])])
 (.cond (.t 66) (.seq (.region 0 [oQ 68 (.load true 4 (.t 13)),
 oQ 69 (.call 1 39 [(.t 68)]),
 oP 67 (.move (.t 69)),
 oP 70 (.extract (.t 67) 0),
 oP 71 (.extract (.t 67) 1),
 oP 14 (.move (.t 70)),
 oP 15 (.move (.t 71))])
 (.seq (.region 0 [oQ 73 (.load true 4 (.t 13)),
 oQ 74 (.call 1 33 [(.t 73)]),
 oP 72 (.move (.t 74)),
 oP 75 (.extract (.t 72) 0),
 oP 76 (.extract (.t 72) 1),
 oP 16 (.move (.t 75)),
 oP 17 (.move (.t 76))])
 (.seq (.region 0 [oP 77 (.move (.t 15)),
 oP 78 (.un .not (.t 77)),
 oP 79 (.move (.t 78)),
 oG 80 79 false (.move (.t 17)),
 oG 81 79 false (.un .not (.t 80)),
 oP 82 (.pick (.t 79) (.c (.bool true)) (.t 81)),
 oP 83 (.move (.t 82)),
 oG 84 83 false (.move (.t 14)),
 oG 85 83 false (.move (.t 7)),
 oG 86 83 false (.bin .gtr (.t 84) (.t 85)),
 oP 87 (.pick (.t 83) (.c (.bool true)) (.t 86)),
 oP 88 (.move (.t 87)),
 oG 89 88 false (.move (.t 16)),
 oG 90 88 false (.move (.t 9)),
 oG 91 88 false (.bin .lss (.t 89) (.t 90)),
 oP 92 (.pick (.t 88) (.c (.bool true)) (.t 91))])
 (.cond (.t 92) (.seq (.region 0 [oP 6 (.move (.c (.bool false)))])
 (.ret))
 (.skip)))))
 (.skip)))
 (.seq (.seq (.region 0 [oP 18 (.move (.c (.int .i64 0)))])
 (.block 0 (.loop (.seq (.seq (.region 0 [oP 93 (.move (.t 18)),
 oP 94 (.fieldAddr 3 (.t 3)),
 oQ 95 (.load false 1 (.t 94)),
 oP 96 (.lenS (.t 95)),
 oP 97 (.bin .lss (.t 93) (.t 96))])
 (.cond (.t 97) (.skip)
 (.exit 0)))
 (.seq (.block 1 (.seq (.region 0 [oQ 100 (.load true 4 (.t 3)),
 oP 101 (.move (.t 18)),
 oQ 102 (.call 1 41 [(.t 100), (.t 101)]),
 oQ 19 (.alloc [.int .i64 0, .int .i64 0, .nils, .nils]),
 ⟨none, .store 4 (.t 19) (.t 102), none, none, []⟩])
 (.seq (.seq (.region 0 [oQ 103 (.load true 4 (.t 19)),
 oQ 104 (.call 1 16 [(.t 103)]),
 oP 105 (.un .not (.t 104))])
 (.cond (.t 105) (.exit 1)
 (.skip)))
 (.seq (.region 0 [oQ 107 (.load true 4 (.t 19)),
 oQ 108 (.call 1 39 [(.t 107)]),
 oP 106 (.move (.t 108)),
 oP 109 (.extract (.t 106) 0),
 oP 110 (.extract (.t 106) 1),
 oP 20 (.move (.t 109)),
 oP 21 (.move (.t 110))])
 (.seq (.region 0 [oQ 112 (.load true 4 (.t 19)),
 oQ 113 (.call 1 33 [(.t 112)]),
 oP 111 (.move (.t 113)),
 oP 114 (.extract (.t 111) 0),
 oP 115 (.extract (.t 111) 1),
 oP 22 (.move (.t 114)),
 oP 23 (.move (.t 115))])
 (.seq (.region 0 [oP 116 (.move (.t 21)),
 oP 117 (.un .not (.t 116)),
 oP 118 (.move (.t 117)),
 oG 119 118 false (.move (.t 23)),
 oG 120 118 false (.un .not (.t 119)),
 oP 121 (.pick (.t 118) (.c (.bool true)) (.t 120)),
 oP 122 (.move (.t 121)),
 oG 123 122 false (.move (.t 20)),
 oG 124 122 false (.move (.t 7)),
 oG 125 122 false (.bin .gtr (.t 123) (.t 124)),
 oP 126 (.pick (.t 122) (.c (.bool true)) (.t 125)),
 oP 127 (.move (.t 126)),
 oG 128 127 false (.move (.t 22)),
 oG 129 127 false (.move (.t 9)),
 oG 130 127 false (.bin .lss (.t 128) (.t 129)),
 oP 131 (.pick (.t 127) (.c (.bool true)) (.t 130))])
 (.cond (.t 131) (.seq (.region 0 [oP 6 (.move (.c (.bool false)))])
 (.ret))
 (.skip))))))))
 (.region 0 [oP 98 (.move (.t 18)),
 oP 99 (.bin .add (.t 98) (.c (.int .i64 1))),
 oP 18 (.move (.t 99))]))))))
 (.seq (.region 0 [oQ 132 (.load true 4 (.t 3)),
 oQ 133 (.call 2 40 [(.t 132)]),
 ⟨none, .store 4 (.t 13) (.t 133), none, none, []⟩])
 (.seq (.region 0 [oP 134 (.fieldAddr 0 (.t 3)),
 oQ 135 (.load true 2 (.t 134)),
 oQ 24 (.alloc [.int .i64 0, .int .i64 0]),
 ⟨none, .store 2 (.t 24) (.t 135), none, none, []⟩])
 (.seq (.seq (.region 0 [oQ 136 (.load true 4 (.t 3)),
 oP 137 (.fieldAddr 0 (.t 5)),
 oQ 138 (.load false 1 (.t 137)),
 oQ 139 (.call 1 25 [(.t 136), (.t 138)])])
 (.cond (.t 139) (.seq (.region 0 [oP 140 (.fieldAddr 2 (.t 3)),
 oQ 141 (.load false 1 (.t 140)),
 oP 142 (.fieldAddr 0 (.t 5)),
 oQ 143 (.load false 1 (.t 142)),
 oP 144 (.idxSl 2 (.t 141) (.t 143)),
 oQ 145 (.load true 2 (.t 144)),
 ⟨none, .store 2 (.t 24) (.t 145), none, none, []⟩])
 (.region 0 [oP 146 (.fieldAddr 2 (.t 13)),
 oQ 147 (.load false 1 (.t 146)),
 oP 148 (.fieldAddr 0 (.t 5)),
 oQ 149 (.load false 1 (.t 148)),
 oP 150 (.fieldAddr 1 (.t 5)),
 oQ 151 (.load true 2 (.t 150)),
 oP 152 (.idxSl 2 (.t 147) (.t 149)),
 ⟨none, .store 2 (.t 152) (.t 151), none, none, []⟩]))
 (.region 0 [oP 153 (.fieldAddr 1 (.t 5)),
 oQ 154 (.load true 2 (.t 153)),
 oP 155 (.fieldAddr 0 (.t 13)),
 ⟨none, .store 2 (.t 155) (.t 154), none, none, []⟩])))
 (.seq (.seq (.region 0 [oP 156 (.fieldAddr 1 (.t 5)),
 oP 157 (.fieldAddr 0 (.t 156)),
 oQ 158 (.load false 1 (.t 157)),
 oP 159 (.fieldAddr 0 (.t 24)),
 oQ 160 (.load false 1 (.t 159)),
 oP 161 (.bin .lss (.t 158) (.t 160)),
 oP 162 (.move (.t 161)),
 oG 163 162 false (.fieldAddr 1 (.t 5)),
 oG 164 162 false (.fieldAddr 1 (.t 163)),
 ⟨(some 165), .load false 1 (.t 164), (some (162, false)), none, []⟩,
 oG 166 162 false (.fieldAddr 1 (.t 24)),
 ⟨(some 167), .load false 1 (.t 166), (some (162, false)), none, []⟩,
 oG 168 162 false (.bin .gtr (.t 165) (.t 167)),
 oP 169 (.pick (.t 162) (.c (.bool true)) (.t 168)),
 oP 170 (.move (.t 169)),
 oG 171 170 false (.fieldAddr 1 (.t 5)),
 oG 172 170 false (.fieldAddr 0 (.t 171)),
 ⟨(some 173), .load false 1 (.t 172), (some (170, false)), none, []⟩,
 oG 174 170 false (.fieldAddr 1 (.t 5)),
 oG 175 170 false (.fieldAddr 1 (.t 174)),
 ⟨(some 176), .load false 1 (.t 175), (some (170, false)), none, []⟩,
 oG 177 170 false (.bin .gtr (.t 173) (.t 176)),
 oP 178 (.pick (.t 170) (.c (.bool true)) (.t 177)),
 oP 179 (.move (.t 178)),
 ⟨(some 180), .load true 4 (.t 13), (some (179, false)), none, []⟩,
 ⟨(some 181), .call 1 16 [(.t 180)], (some (179, false)), none, []⟩,
 oG 182 179 false (.un .not (.t 181)),
 oP 183 (.pick (.t 179) (.c (.bool true)) (.t 182))])
 (.cond (.t 183) (.seq (.region 0 [oQ 184 (.call 1 19 []),
 oP 6 (.move (.t 184))])
 (.ret))
 (.skip)))
 (.seq (.region 0 [oQ 186 (.load true 4 (.t 13)),
 oQ 187 (.call 1 20 [(.t 186)]),
 oP 185 (.move (.t 187)),
 oP 188 (.extract (.t 185) 0),
 oP 189 (.extract (.t 185) 1),
 oP 25 (.move (.t 188)),
 oP 26 (.move (.t 189))])
 (.seq (.seq (.region 0 [oP 190 (.move (.t 26)),
 oP 191 (.un .not (.t 190))])
 (.cond (.t 191) (.seq (.region 0 [oP 6 (.move (.c (.bool false)))])
 (.ret))
 (.skip)))
 (.seq (.seq (.region 0 [oP 27 (.move (.c (.int .i64 0)))])
 (.block 2 (.loop (.seq (.seq (.region 0 [oP 192 (.move (.t 27)),
 oP 193 (.move (.t 25)),
 oP 194 (.lenS (.t 193)),
 oP 195 (.bin .lss (.t 192) (.t 194))])
 (.cond (.t 195) (.skip)
 (.exit 2)))
 (.seq (.block 3 (.seq (.region 0 [oP 198 (.move (.t 25)),
 oP 199 (.move (.t 27)),
 oP 200 (.idxSl 1 (.t 198) (.t 199)),
 oQ 201 (.load false 1 (.t 200)),
 oP 202 (.move (.t 11)),
 oP 203 (.move (.t 27)),
 oP 204 (.idxSl 1 (.t 202) (.t 203)),
 oQ 205 (.load false 1 (.t 204)),
 oP 206 (.bin .gtr (.t 201) (.t 205))])
 (.cond (.t 206) (.seq (.region 0 [oP 6 (.move (.c (.bool false)))])
 (.ret))
 (.skip))))
 (.region 0 [oP 196 (.move (.t 27)),
 oP 197 (.bin .add (.t 196) (.c (.int .i64 1))),
 oP 27 (.move (.t 197))]))))))
 (.seq (.region 0 [oQ 207 (.call 1 19 []),
 oP 6 (.move (.t 207))])
 (.ret))))))))))))))))))⟩
/-- almadraba/almadrabalaw05.LiftsSwap -/
def f8 : AFn := ⟨152, [.tmp 6],
 .seq (.region 0 [oQ 3 (.box (.t 0)),
 oQ 5 (.box (.t 2)),
 oP 6 (.move (.c (.bool false)))])
 (.seq (.seq (.region 0 [oQ 13 (.load true 4 (.t 3)),
 oQ 14 (.call 1 16 [(.t 13)]),
 oP 15 (.un .not (.t 14)),
 oP 16 (.move (.t 15)),
 oG 17 16 false (.move (.t 1)),
 oG 18 16 false (.lenS (.t 17)),
 oG 19 16 false (.bin .gtr (.t 18) (.c (.int .i64 40))),
 oP 20 (.pick (.t 16) (.c (.bool true)) (.t 19)),
 oP 21 (.move (.t 20)),
 ⟨(some 22), .load true 4 (.t 3), (some (21, false)), none, []⟩,
 oG 23 21 false (.move (.t 1)),
 ⟨(some 24), .call 1 26 [(.t 22), (.t 23)], (some (21, false)), none, []⟩,
 oG 25 21 false (.un .not (.t 24)),
 oP 26 (.pick (.t 21) (.c (.bool true)) (.t 25))])
 (.cond (.t 26) (.seq (.region 0 [oQ 27 (.call 1 19 []),
 oP 6 (.move (.t 27))])
 (.ret))
 (.skip)))
 (.seq (.region 0 [oQ 28 (.load true 4 (.t 3)),
 oP 29 (.move (.t 1)),
 oQ 30 (.call 1 28 [(.t 28), (.t 29)]),
 oP 7 (.move (.t 30))])
 (.seq (.region 0 [oQ 32 (.load true 4 (.t 3)),
 oQ 33 (.call 1 33 [(.t 32)]),
 oP 31 (.move (.t 33)),
 oP 34 (.extract (.t 31) 0),
 oP 35 (.extract (.t 31) 1),
 oP 8 (.move (.t 34)),
 oP 9 (.move (.t 35))])
 (.seq (.region 3 [⟨(some 37), .load true 4 (.t 3), none, none, [0, 1, 2]⟩,
 ⟨(some 38), .buildSlice 1 0 [.int .i64 0] [], none, (some 0), []⟩,
 oP 39 (.move (.t 1)),
 ⟨(some 40), .append true 1 8 (.t 38) (.t 39), none, (some 1), [2]⟩,
 ⟨(some 41), .call 1 42 [(.t 37), (.t 40)], none, none, [2]⟩,
 oP 36 (.move (.t 41)),
 oP 42 (.extract (.t 36) 0),
 oP 43 (.extract (.t 36) 1),
 ⟨(some 10), .alloc [.int .i64 0, .int .i64 0], none, (some 2), []⟩,
 ⟨none, .store 2 (.t 10) (.t 42), none, (some 2), []⟩,
 oP 11 (.move (.t 43))])
 (.seq (.seq (.region 0 [oP 44 (.move (.t 7)),
 oP 45 (.bin .lss (.t 44) (.c (.int .i64 0))),
 oP 46 (.move (.t 45)),
 oG 47 46 false (.move (.t 9)),
 oG 48 46 false (.un .not (.t 47)),
 oP 49 (.pick (.t 46) (.c (.bool true)) (.t 48)),
 oP 50 (.move (.t 49)),
 oG 51 50 false (.move (.t 8)),
 oG 52 50 false (.move (.t 7)),
 oG 53 50 false (.bin .lss (.t 51) (.t 52)),
 oP 54 (.pick (.t 50) (.c (.bool true)) (.t 53)),
 oP 55 (.move (.t 54)),
 oG 56 55 false (.move (.t 11)),
 ⟨(some 57), .call 1 35 [(.t 56)], (some (55, false)), none, []⟩,
 oG 58 55 false (.un .not (.t 57)),
 oP 59 (.pick (.t 55) (.c (.bool true)) (.t 58))])
 (.cond (.t 59) (.seq (.region 0 [oP 6 (.move (.c (.bool false)))])
 (.ret))
 (.skip)))
 (.seq (.seq (.region 0 [oP 60 (.move (.t 11)),
 oP 61 (.bin .eql (.t 60) (.c (.int .i64 0))),
 oP 62 (.move (.t 61)),
 ⟨(some 63), .load true 4 (.t 3), (some (62, true)), none, []⟩,
 oG 64 62 true (.fieldAddr 0 (.t 10)),
 ⟨(some 65), .load false 1 (.t 64), (some (62, true)), none, []⟩,
 ⟨(some 66), .call 1 25 [(.t 63), (.t 65)], (some (62, true)), none, []⟩,
 oG 67 62 true (.un .not (.t 66)),
 oG 68 62 true (.move (.t 67)),
 ⟨(some 69), .load true 4 (.t 3), (some (68, false)), none, []⟩,
 oG 70 68 false (.fieldAddr 1 (.t 10)),
 ⟨(some 71), .load false 1 (.t 70), (some (68, false)), none, []⟩,
 ⟨(some 72), .call 1 25 [(.t 69), (.t 71)], (some (68, false)), none, []⟩,
 oG 73 68 false (.un .not (.t 72)),
 oG 74 62 true (.pick (.t 68) (.c (.bool true)) (.t 73)),
 oG 75 62 true (.move (.t 74)),
 oG 76 75 false (.fieldAddr 0 (.t 10)),
 ⟨(some 77), .load false 1 (.t 76), (some (75, false)), none, []⟩,
 oG 78 75 false (.fieldAddr 1 (.t 10)),
 ⟨(some 79), .load false 1 (.t 78), (some (75, false)), none, []⟩,
 oG 80 75 false (.bin .geq (.t 77) (.t 79)),
 oG 81 62 true (.pick (.t 75) (.c (.bool true)) (.t 80)),
 oG 82 62 true (.move (.t 81)),
 ⟨(some 83), .load true 4 (.t 3), (some (82, false)), none, []⟩,
 oG 84 82 false (.move (.t 1)),
 ⟨(some 85), .load true 2 (.t 10), (some (82, false)), none, []⟩,
 ⟨(some 86), .call 1 43 [(.t 84), (.t 85)], (some (82, false)), none, []⟩,
 ⟨(some 87), .call 1 28 [(.t 83), (.t 86)], (some (82, false)), none, []⟩,
 oG 88 82 false (.move (.t 7)),
 oG 89 82 false (.bin .leq (.t 87) (.t 88)),
 oG 90 62 true (.pick (.t 82) (.c (.bool true)) (.t 89)),
 oP 91 (.pick (.t 62) (.t 90) (.c (.bool false)))])
 (.cond (.t 91) (.seq (.region 0 [oP 6 (.move (.c (.bool false)))])
 (.ret))
 (.skip)))
 (.seq (.seq (.region 0 [oQ 92 (.load true 4 (.t 3)),
 oP 93 (.fieldAddr 0 (.t 5)),
 oQ 94 (.load false 1 (.t 93)),
 oQ 95 (.call 1 25 [(.t 92), (.t 94)]),
 oP 96 (.un .not (.t 95)),
 oP 97 (.move (.t 96)),
 ⟨(some 98), .load true 4 (.t 3), (some (97, false)), none, []⟩,
 oG 99 97 false (.fieldAddr 1 (.t 5)),
 ⟨(some 100), .load false 1 (.t 99), (some (97, false)), none, []⟩,
 ⟨(some 101), .call 1 25 [(.t 98), (.t 100)], (some (97, false)), none, []⟩,
 oG 102 97 false (.un .not (.t 101)),
 oP 103 (.pick (.t 97) (.c (.bool true)) (.t 102)),
 oP 104 (.move (.t 103)),
 oG 105 104 false (.fieldAddr 0 (.t 5)),
 ⟨(some 106), .load false 1 (.t 105), (some (104, false)), none, []⟩,
 oG 107 104 false (.fieldAddr 1 (.t 5)),
 ⟨(some 108), .load false 1 (.t 107), (some (104, false)), none, []⟩,
 oG 109 104 false (.bin .geq (.t 106) (.t 108)),
 oP 110 (.pick (.t 104) (.c (.bool true)) (.t 109)),
 oP 111 (.move (.t 110)),
 oG 112 111 false (.move (.t 11)),
 oG 113 111 false (.bin .eql (.t 112) (.c (.int .i64 0))),
 oG 114 111 false (.move (.t 113)),
 oG 115 114 true (.fieldAddr 0 (.t 5)),
 ⟨(some 116), .load false 1 (.t 115), (some (114, true)), none, []⟩,
 oG 117 114 true (.fieldAddr 0 (.t 10)),
 ⟨(some 118), .load false 1 (.t 117), (some (114, true)), none, []⟩,
 oG 119 114 true (.bin .gtr (.t 116) (.t 118)),
 oG 120 114 true (.move (.t 119)),
 oG 121 120 false (.fieldAddr 0 (.t 5)),
 ⟨(some 122), .load false 1 (.t 121), (some (120, false)), none, []⟩,
 oG 123 120 false (.fieldAddr 0 (.t 10)),
 ⟨(some 124), .load false 1 (.t 123), (some (120, false)), none, []⟩,
 oG 125 120 false (.bin .eql (.t 122) (.t 124)),
 oG 126 120 false (.move (.t 125)),
 oG 127 126 true (.fieldAddr 1 (.t 5)),
 ⟨(some 128), .load false 1 (.t 127), (some (126, true)), none, []⟩,
 oG 129 126 true (.fieldAddr 1 (.t 10)),
 ⟨(some 130), .load false 1 (.t 129), (some (126, true)), none, []⟩,
 oG 131 126 true (.bin .geq (.t 128) (.t 130)),
 oG 132 120 false (.pick (.t 126) (.t 131) (.c (.bool false))),
 oG 133 114 true (.pick (.t 120) (.c (.bool true)) (.t 132)),
 oG 134 111 false (.pick (.t 114) (.t 133) (.c (.bool false))),
 oP 135 (.pick (.t 111) (.c (.bool true)) (.t 134))])
 (.cond (.t 135) (.seq (.region 0 [oQ 136 (.call 1 19 []),
 oP 6 (.move (.t 136))])
 (.ret))
 (.skip)))
 (.seq (.region 0 [oQ 137 (.load true 4 (.t 3)),
 oP 138 (.move (.t 1)),
 oQ 139 (.load true 2 (.t 5)),
 oQ 140 (.call 1 43 [(.t 138), (.t 139)]),
 oQ 141 (.call 1 28 [(.t 137), (.t 140)]),
 oP 12 (.move (.t 141))])
 (.seq (.region 0 [oP 142 (.move (.t 12)),
 oP 143 (.bin .geq (.t 142) (.c (.int .i64 0))),
 oP 144 (.move (.t 143)),
 oG 145 144 true (.move (.t 12)),
 oG 146 144 true (.move (.t 7)),
 oG 147 144 true (.bin .leq (.t 145) (.t 146)),
 oP 148 (.pick (.t 144) (.t 147) (.c (.bool false))),
 oP 149 (.move (.t 148)),
 ⟨(some 150), .call 1 19 [], (some (149, true)), none, []⟩,
 oP 151 (.pick (.t 149) (.t 150) (.c (.bool false))),
 oP 6 (.move (.t 151))])
 (.ret))))))))))⟩
/-- almadraba/almadrabalaw05.LiftsOrder -/
def f9 : AFn := ⟨123, [.tmp 6],
 .seq (.region 0 [oQ 3 (.box (.t 0)),
 oP 6 (.move (.c (.bool false)))])
 (.seq (.seq (.region 0 [oQ 18 (.load true 4 (.t 3)),
 oQ 19 (.call 1 16 [(.t 18)]),
 oP 20 (.un .not (.t 19)),
 oP 21 (.move (.t 20)),
 oG 22 21 false (.move (.t 1)),
 oG 23 21 false (.move (.t 2)),
 oG 24 21 false (.minmax false (.t 22) [(.t 23)]),
 oG 25 21 false (.bin .lss (.t 24) (.c (.int .i64 0))),
 oP 26 (.pick (.t 21) (.c (.bool true)) (.t 25)),
 oP 27 (.move (.t 26)),
 oG 28 27 false (.move (.t 1)),
 oG 29 27 false (.move (.t 2)),
 oG 30 27 false (.minmax true (.t 28) [(.t 29)]),
 oG 31 27 false (.bin .gtr (.t 30) (.c (.int .i64 100))),
 oP 32 (.pick (.t 27) (.c (.bool true)) (.t 31))])
 (.cond (.t 32) (.seq (.region 0 [oQ 33 (.call 1 19 []),
 oP 6 (.move (.t 33))])
 (.ret))
 (.skip)))
 (.seq (.region 0 [oQ 34 (.load true 4 (.t 3)),
 oQ 35 (.call 2 40 [(.t 34)]),
 oQ 7 (.alloc [.int .i64 0, .int .i64 0, .nils, .nils]),
 ⟨none, .store 4 (.t 7) (.t 35), none, none, []⟩])
 (.seq (.seq (.region 0 [oP 8 (.move (.c (.int .i64 0)))])
 (.block 0 (.loop (.seq (.seq (.region 0 [oP 36 (.move (.t 8)),
 oP 37 (.fieldAddr 2 (.t 3)),
 oQ 38 (.load false 1 (.t 37)),
 oP 39 (.lenS (.t 38)),
 oP 40 (.bin .lss (.t 36) (.t 39))])
 (.cond (.t 40) (.skip)
 (.exit 0)))
 (.seq (.block 1 (.region 0 [oP 43 (.fieldAddr 2 (.t 7)),
 oQ 44 (.load false 1 (.t 43)),
 oP 45 (.move (.t 8)),
 oP 46 (.fieldAddr 2 (.t 3)),
 oQ 47 (.load false 1 (.t 46)),
 oP 48 (.move (.t 8)),
 oP 49 (.move (.t 1)),
 oP 50 (.bin .add (.t 48) (.t 49)),
 oP 51 (.fieldAddr 2 (.t 3)),
 oQ 52 (.load false 1 (.t 51)),
 oP 53 (.lenS (.t 52)),
 oP 54 (.bin .rem (.t 50) (.t 53)),
 oP 55 (.idxSl 2 (.t 47) (.t 54)),
 oQ 56 (.load true 2 (.t 55)),
 oP 57 (.idxSl 2 (.t 44) (.t 45)),
 ⟨none, .store 2 (.t 57) (.t 56), none, none, []⟩]))
 (.region 0 [oP 41 (.move (.t 8)),
 oP 42 (.bin .add (.t 41) (.c (.int .i64 1))),
 oP 8 (.move (.t 42))]))))))
 (.seq (.seq (.region 0 [oP 9 (.move (.c (.int .i64 0)))])
 (.block 2 (.loop (.seq (.seq (.region 0 [oP 58 (.move (.t 9)),
 oP 59 (.fieldAddr 3 (.t 3)),
 oQ 60 (.load false 1 (.t 59)),
 oP 61 (.lenS (.t 60)),
 oP 62 (.bin .lss (.t 58) (.t 61))])
 (.cond (.t 62) (.skip)
 (.exit 2)))
 (.seq (.block 3 (.region 0 [oP 65 (.fieldAddr 3 (.t 7)),
 oQ 66 (.load false 1 (.t 65)),
 oP 67 (.move (.t 9)),
 oP 68 (.fieldAddr 3 (.t 3)),
 oQ 69 (.load false 1 (.t 68)),
 oP 70 (.move (.t 9)),
 oP 71 (.move (.t 2)),
 oP 72 (.bin .add (.t 70) (.t 71)),
 oP 73 (.fieldAddr 3 (.t 3)),
 oQ 74 (.load false 1 (.t 73)),
 oP 75 (.lenS (.t 74)),
 oP 76 (.bin .rem (.t 72) (.t 75)),
 oP 77 (.idxSl 2 (.t 69) (.t 76)),
 oQ 78 (.load true 2 (.t 77)),
 oP 79 (.idxSl 2 (.t 66) (.t 67)),
 ⟨none, .store 2 (.t 79) (.t 78), none, none, []⟩]))
 (.region 0 [oP 63 (.move (.t 9)),
 oP 64 (.bin .add (.t 63) (.c (.int .i64 1))),
 oP 9 (.move (.t 64))]))))))
 (.seq (.region 0 [oQ 81 (.load true 4 (.t 3)),
 oQ 82 (.call 1 39 [(.t 81)]),
 oP 80 (.move (.t 82)),
 oP 83 (.extract (.t 80) 0),
 oP 84 (.extract (.t 80) 1),
 oP 10 (.move (.t 83)),
 oP 11 (.move (.t 84))])
 (.seq (.region 0 [oQ 86 (.load true 4 (.t 7)),
 oQ 87 (.call 1 39 [(.t 86)]),
 oP 85 (.move (.t 87)),
 oP 88 (.extract (.t 85) 0),
 oP 89 (.extract (.t 85) 1),
 oP 12 (.move (.t 88)),
 oP 13 (.move (.t 89))])
 (.seq (.region 0 [oQ 91 (.load true 4 (.t 3)),
 oQ 92 (.call 1 33 [(.t 91)]),
 oP 90 (.move (.t 92)),
 oP 93 (.extract (.t 90) 0),
 oP 94 (.extract (.t 90) 1),
 oP 14 (.move (.t 93)),
 oP 15 (.move (.t 94))])
 (.seq (.region 0 [oQ 96 (.load true 4 (.t 7)),
 oQ 97 (.call 1 33 [(.t 96)]),
 oP 95 (.move (.t 97)),
 oP 98 (.extract (.t 95) 0),
 oP 99 (.extract (.t 95) 1),
 oP 16 (.move (.t 98)),
 oP 17 (.move (.t 99))])
 (.seq (.region 0 [oP 100 (.move (.t 11)),
 oP 101 (.move (.t 100)),
 oG 102 101 true (.move (.t 13)),
 oP 103 (.pick (.t 101) (.t 102) (.c (.bool false))),
 oP 104 (.move (.t 103)),
 oG 105 104 true (.move (.t 15)),
 oP 106 (.pick (.t 104) (.t 105) (.c (.bool false))),
 oP 107 (.move (.t 106)),
 oG 108 107 true (.move (.t 17)),
 oP 109 (.pick (.t 107) (.t 108) (.c (.bool false))),
 oP 110 (.move (.t 109)),
 oG 111 110 true (.move (.t 10)),
 oG 112 110 true (.move (.t 12)),
 oG 113 110 true (.bin .eql (.t 111) (.t 112)),
 oP 114 (.pick (.t 110) (.t 113) (.c (.bool false))),
 oP 115 (.move (.t 114)),
 oG 116 115 true (.move (.t 14)),
 oG 117 115 true (.move (.t 16)),
 oG 118 115 true (.bin .eql (.t 116) (.t 117)),
 oP 119 (.pick (.t 115) (.t 118) (.c (.bool false))),
 oP 120 (.move (.t 119)),
 ⟨(some 121), .call 1 19 [], (some (120, true)), none, []⟩,
 oP 122 (.pick (.t 120) (.t 121) (.c (.bool false))),
 oP 6 (.move (.t 122))])
 (.ret))))))))))⟩
/-- almadraba/almadrabalaw05.LiftsShort -/
def f10 : AFn := ⟨112, [.tmp 4],
 .seq (.region 0 [oQ 2 (.box (.t 0)),
 oP 4 (.move (.c (.bool false)))])
 (.seq (.seq (.region 0 [oQ 9 (.load true 4 (.t 2)),
 oQ 10 (.call 1 16 [(.t 9)]),
 oP 11 (.un .not (.t 10)),
 oP 12 (.move (.t 11)),
 oG 13 12 false (.move (.t 1)),
 oG 14 12 false (.lenS (.t 13)),
 oG 15 12 false (.bin .gtr (.t 14) (.c (.int .i64 40))),
 oP 16 (.pick (.t 12) (.c (.bool true)) (.t 15))])
 (.cond (.t 16) (.seq (.region 0 [oQ 17 (.call 1 19 []),
 oP 4 (.move (.t 17))])
 (.ret))
 (.skip)))
 (.seq (.region 0 [oQ 19 (.load true 4 (.t 2)),
 oQ 20 (.call 1 34 [(.t 19)]),
 oP 18 (.move (.t 20)),
 oP 21 (.extract (.t 18) 0),
 oP 22 (.extract (.t 18) 1),
 oP 5 (.move (.t 21)),
 oP 6 (.move (.t 22))])
 (.seq (.region 0 [oQ 24 (.load true 4 (.t 2)),
 oQ 25 (.call 1 20 [(.t 24)]),
 oP 23 (.move (.t 25)),
 oP 26 (.extract (.t 23) 0),
 oP 27 (.extract (.t 23) 1),
 oP 7 (.move (.t 26)),
 oP 8 (.move (.t 27))])
 (.seq (.seq (.region 0 [oP 28 (.move (.t 8)),
 oP 29 (.un .not (.t 28)),
 oP 30 (.move (.t 29)),
 oG 31 30 false (.move (.t 6)),
 ⟨(some 32), .call 1 35 [(.t 31)], (some (30, false)), none, []⟩,
 oG 33 30 false (.un .not (.t 32)),
 oP 34 (.pick (.t 30) (.c (.bool true)) (.t 33)),
 oP 35 (.move (.t 34)),
 oG 36 35 false (.move (.t 6)),
 oG 37 35 false (.bin .eql (.t 36) (.c (.int .i64 0))),
 oG 38 35 false (.move (.t 5)),
 oG 39 35 false (.lenS (.t 38)),
 oG 40 35 false (.bin .gtr (.t 39) (.c (.int .i64 0))),
 oG 41 35 false (.eqB true (.t 37) (.t 40)),
 oP 42 (.pick (.t 35) (.c (.bool true)) (.t 41))])
 (.cond (.t 42) (.seq (.region 0 [oP 4 (.move (.c (.bool false)))])
 (.ret))
 (.skip)))
 (.seq (.seq (.region 0 [oP 43 (.move (.t 6)),
 oP 44 (.bin .eql (.t 43) (.c (.int .i64 0))),
 oP 45 (.move (.t 44)),
 oG 46 45 true (.move (.t 5)),
 oG 47 45 true (.fieldAddr 2 (.t 2)),
 ⟨(some 48), .load false 1 (.t 47), (some (45, true)), none, []⟩,
 oG 49 45 true (.lenS (.t 48)),
 oG 50 45 true (.bin .sub (.t 49) (.c (.int .i64 1))),
 ⟨(some 51), .call 1 44 [(.t 46), (.c (.int .i64 0)), (.t 50)], (some (45, true)), none, []⟩,
 oG 52 45 true (.un .not (.t 51)),
 oG 53 45 true (.move (.t 52)),
 ⟨(some 54), .load true 4 (.t 2), (some (53, false)), none, []⟩,
 oG 55 53 false (.move (.t 7)),
 oG 56 53 false (.move (.t 5)),
 ⟨(some 57), .call 1 46 [(.t 55), (.t 56)], (some (53, false)), none, []⟩,
 ⟨(some 58), .call 1 45 [(.t 54), (.t 57)], (some (53, false)), none, []⟩,
 oG 59 53 false (.move (.t 5)),
 oG 60 53 false (.lenS (.t 59)),
 oG 61 53 false (.bin .geq (.t 58) (.t 60)),
 oG 62 45 true (.pick (.t 53) (.c (.bool true)) (.t 61)),
 oP 63 (.pick (.t 45) (.t 62) (.c (.bool false)))])
 (.cond (.t 63) (.seq (.region 0 [oP 4 (.move (.c (.bool false)))])
 (.ret))
 (.skip)))
 (.seq (.seq (.region 0 [oP 64 (.move (.t 1)),
 oP 65 (.lenS (.t 64)),
 oP 66 (.bin .eql (.t 65) (.c (.int .i64 0))),
 oP 67 (.move (.t 66)),
 oG 68 67 false (.move (.t 1)),
 oG 69 67 false (.fieldAddr 2 (.t 2)),
 ⟨(some 70), .load false 1 (.t 69), (some (67, false)), none, []⟩,
 oG 71 67 false (.lenS (.t 70)),
 oG 72 67 false (.bin .sub (.t 71) (.c (.int .i64 1))),
 ⟨(some 73), .call 1 44 [(.t 68), (.c (.int .i64 0)), (.t 72)], (some (67, false)), none, []⟩,
 oG 74 67 false (.un .not (.t 73)),
 oP 75 (.pick (.t 67) (.c (.bool true)) (.t 74)),
 oP 76 (.move (.t 75)),
 oG 77 76 false (.move (.t 6)),
 oG 78 76 false (.bin .eql (.t 77) (.c (.int .i64 0))),
 oG 79 76 false (.move (.t 78)),
 oG 80 79 true (.move (.t 1)),
 oG 81 79 true (.lenS (.t 80)),
 oG 82 79 true (.move (.t 5)),
 oG 83 79 true (.lenS (.t 82)),
 oG 84 79 true (.bin .gtr (.t 81) (.t 83)),
 oG 85 79 true (.move (.t 84)),
 oG 86 85 false (.move (.t 1)),
 oG 87 85 false (.lenS (.t 86)),
 oG 88 85 false (.move (.t 5)),
 oG 89 85 false (.lenS (.t 88)),
 oG 90 85 false (.bin .eql (.t 87) (.t 89)),
 oG 91 85 false (.move (.t 90)),
 oG 92 91 true (.move (.t 1)),
 oG 93 91 true (.move (.t 5)),
 ⟨(some 94), .call 1 37 [(.t 92), (.t 93)], (some (91, true)), none, []⟩,
 oG 95 91 true (.un .not (.t 94)),
 oG 96 85 false (.pick (.t 91) (.t 95) (.c (.bool false))),
 oG 97 79 true (.pick (.t 85) (.c (.bool true)) (.t 96)),
 oG 98 76 false (.pick (.t 79) (.t 97) (.c (.bool false))),
 oP 99 (.pick (.t 76) (.c (.bool true)) (.t 98))])
 (.cond (.t 99) (.seq (.region 0 [oQ 100 (.call 1 19 []),
 oP 4 (.move (.t 100))])
 (.ret))
 (.skip)))
 (.seq (.region 0 [oQ 101 (.load true 4 (.t 2)),
 oP 102 (.move (.t 7)),
 oP 103 (.move (.t 1)),
 oQ 104 (.call 1 46 [(.t 102), (.t 103)]),
 oQ 105 (.call 1 45 [(.t 101), (.t 104)]),
 oP 106 (.move (.t 1)),
 oP 107 (.lenS (.t 106)),
 oP 108 (.bin .geq (.t 105) (.t 107)),
 oP 109 (.move (.t 108)),
 ⟨(some 110), .call 1 19 [], (some (109, true)), none, []⟩,
 oP 111 (.pick (.t 109) (.t 110) (.c (.bool false))),
 oP 4 (.move (.t 111))])
 (.ret))))))))⟩
/-- almadraba/almadrabalaw05.LiftsHelps -/
def f11 : AFn := ⟨120, [.tmp 6],
 .seq (.region 0 [oQ 3 (.box (.t 0)),
 oP 6 (.move (.c (.bool false)))])
 (.seq (.seq (.region 0 [oQ 13 (.load true 4 (.t 3)),
 oQ 14 (.call 1 16 [(.t 13)]),
 oP 15 (.un .not (.t 14)),
 oP 16 (.move (.t 15)),
 ⟨(some 17), .load true 4 (.t 3), (some (16, false)), none, []⟩,
 oG 18 16 false (.move (.t 1)),
 ⟨(some 19), .call 1 47 [(.t 17), (.t 18)], (some (16, false)), none, []⟩,
 oG 20 16 false (.un .not (.t 19)),
 oP 21 (.pick (.t 16) (.c (.bool true)) (.t 20)),
 oP 22 (.move (.t 21)),
 oG 23 22 false (.fieldAddr 3 (.t 3)),
 ⟨(some 24), .load false 1 (.t 23), (some (22, false)), none, []⟩,
 oG 25 22 false (.move (.t 1)),
 oG 26 22 false (.idxSl 2 (.t 24) (.t 25)),
 oG 27 22 false (.fieldAddr 0 (.t 26)),
 ⟨(some 28), .load false 1 (.t 27), (some (22, false)), none, []⟩,
 oG 29 22 false (.bin .eql (.t 28) (.c (.int .i64 999))),
 oP 30 (.pick (.t 22) (.c (.bool true)) (.t 29))])
 (.cond (.t 30) (.seq (.region 0 [oQ 31 (.call 1 19 []),
 oP 6 (.move (.t 31))])
 (.ret))
 (.skip)))
 (.seq (.region 0 [oQ 33 (.load true 4 (.t 3)),
 oQ 34 (.call 1 48 [(.t 33)]),
 oP 32 (.move (.t 34)),
 oP 35 (.extract (.t 32) 0),
 oP 36 (.extract (.t 32) 1),
 oP 7 (.move (.t 35)),
 oP 8 (.move (.t 36))])
 (.seq (.region 0 [oQ 38 (.load true 4 (.t 3)),
 oQ 39 (.call 1 33 [(.t 38)]),
 oP 37 (.move (.t 39)),
 oP 40 (.extract (.t 37) 0),
 oP 41 (.extract (.t 37) 1),
 oP 9 (.move (.t 40)),
 oP 10 (.move (.t 41))])
 (.seq (.region 0 [oQ 43 (.load true 4 (.t 3)),
 oP 44 (.move (.t 1)),
 oQ 45 (.call 1 41 [(.t 43), (.t 44)]),
 oQ 46 (.call 1 33 [(.t 45)]),
 oP 42 (.move (.t 46)),
 oP 47 (.extract (.t 42) 0),
 oP 48 (.extract (.t 42) 1),
 oP 11 (.move (.t 47)),
 oP 12 (.move (.t 48))])
 (.seq (.seq (.region 0 [oP 49 (.move (.t 10)),
 oP 50 (.un .not (.t 49)),
 oP 51 (.move (.t 50)),
 oG 52 51 false (.move (.t 12)),
 oG 53 51 false (.un .not (.t 52)),
 oP 54 (.pick (.t 51) (.c (.bool true)) (.t 53)),
 oP 55 (.move (.t 54)),
 oG 56 55 false (.move (.t 8)),
 oG 57 55 false (.bin .eql (.t 56) (.c (.int .i64 0))),
 oG 58 55 false (.move (.t 9)),
 oG 59 55 false (.bin .geq (.t 58) (.c (.int .i64 0))),
 oG 60 55 false (.eqB true (.t 57) (.t 59)),
 oP 61 (.pick (.t 55) (.c (.bool true)) (.t 60)),
 oP 62 (.move (.t 61)),
 oG 63 62 false (.move (.t 8)),
 ⟨(some 64), .call 1 35 [(.t 63)], (some (62, false)), none, []⟩,
 oG 65 62 false (.un .not (.t 64)),
 oP 66 (.pick (.t 62) (.c (.bool true)) (.t 65)),
 oP 67 (.move (.t 66)),
 oG 68 67 false (.move (.t 7)),
 oG 69 67 false (.lenS (.t 68)),
 oG 70 67 false (.fieldAddr 3 (.t 3)),
 ⟨(some 71), .load false 1 (.t 70), (some (67, false)), none, []⟩,
 oG 72 67 false (.lenS (.t 71)),
 oG 73 67 false (.bin .gtr (.t 69) (.t 72)),
 oP 74 (.pick (.t 67) (.c (.bool true)) (.t 73)),
 oP 75 (.move (.t 74)),
 oG 76 75 false (.move (.t 8)),
 oG 77 75 false (.bin .eql (.t 76) (.c (.int .i64 0))),
 oG 78 75 false (.move (.t 77)),
 oG 79 78 true (.move (.t 7)),
 oG 80 78 true (.move (.t 1)),
 ⟨(some 81), .call 1 49 [(.t 79), (.t 80)], (some (78, true)), none, []⟩,
 oG 82 78 true (.move (.t 11)),
 oG 83 78 true (.move (.t 9)),
 oG 84 78 true (.bin .gtr (.t 82) (.t 83)),
 oG 85 78 true (.eqB true (.t 81) (.t 84)),
 oG 86 75 false (.pick (.t 78) (.t 85) (.c (.bool false))),
 oP 87 (.pick (.t 75) (.c (.bool true)) (.t 86))])
 (.cond (.t 87) (.seq (.region 0 [oP 6 (.move (.c (.bool false)))])
 (.ret))
 (.skip)))
 (.seq (.seq (.region 0 [oP 88 (.move (.t 8)),
 oP 89 (.bin .neq (.t 88) (.c (.int .i64 0))),
 oP 90 (.move (.t 89)),
 oG 91 90 false (.move (.t 11)),
 oG 92 90 false (.move (.t 9)),
 oG 93 90 false (.bin .eql (.t 91) (.t 92)),
 oP 94 (.pick (.t 90) (.c (.bool true)) (.t 93)),
 oP 95 (.move (.t 94)),
 oG 96 95 false (.move (.t 2)),
 oG 97 95 false (.lenS (.t 96)),
 oG 98 95 false (.bin .gtr (.t 97) (.c (.int .i64 40))),
 oP 99 (.pick (.t 95) (.c (.bool true)) (.t 98)),
 oP 100 (.move (.t 99)),
 ⟨(some 101), .load true 4 (.t 3), (some (100, false)), none, []⟩,
 oG 102 100 false (.move (.t 2)),
 ⟨(some 103), .call 1 26 [(.t 101), (.t 102)], (some (100, false)), none, []⟩,
 oG 104 100 false (.un .not (.t 103)),
 oP 105 (.pick (.t 100) (.c (.bool true)) (.t 104)),
 oP 106 (.move (.t 105)),
 oG 107 106 false (.move (.t 2)),
 oG 108 106 false (.move (.t 1)),
 ⟨(some 109), .call 1 49 [(.t 107), (.t 108)], (some (106, false)), none, []⟩,
 oP 110 (.pick (.t 106) (.c (.bool true)) (.t 109))])
 (.cond (.t 110) (.seq (.region 0 [oQ 111 (.call 1 19 []),
 oP 6 (.move (.t 111))])
 (.ret))
 (.skip)))
 (.seq (.region 0 [oQ 112 (.load true 4 (.t 3)),
 oP 113 (.move (.t 2)),
 oQ 114 (.call 1 28 [(.t 112), (.t 113)]),
 oP 115 (.move (.t 11)),
 oP 116 (.bin .lss (.t 114) (.t 115)),
 oP 117 (.move (.t 116)),
 ⟨(some 118), .call 1 19 [], (some (117, true)), none, []⟩,
 oP 119 (.pick (.t 117) (.t 118) (.c (.bool false))),
 oP 6 (.move (.t 119))])
 (.ret))))))))⟩
/-- almadraba/almadrabalaw05.LiftsHolds -/
def f12 : AFn := ⟨151, [.tmp 6],
 .seq (.region 0 [oQ 3 (.box (.t 0)),
 oQ 4 (.box (.t 1)),
 oP 6 (.move (.c (.bool false)))])
 (.seq (.seq (.region 0 [oQ 23 (.load true 4 (.t 3)),
 oQ 24 (.call 1 50 [(.t 23)]),
 oP 25 (.move (.t 24)),
 oG 26 25 false (.move (.t 2)),
 oG 27 25 false (.lenS (.t 26)),
 oG 28 25 false (.bin .gtr (.t 27) (.c (.int .i64 40))),
 oP 29 (.pick (.t 25) (.c (.bool true)) (.t 28))])
 (.cond (.t 29) (.seq (.region 0 [oQ 30 (.call 1 19 []),
 oP 6 (.move (.t 30))])
 (.ret))
 (.skip)))
 (.seq (.region 0 [oQ 31 (.load true 4 (.t 3)),
 oQ 32 (.call 1 40 [(.t 31)]),
 oQ 33 (.buildSlice 1 0 [.int .i64 0] []),
 oP 34 (.move (.t 2)),
 oQ 35 (.append false 1 8 (.t 33) (.t 34)),
 oQ 7 (.alloc [.int .i64 0, .int .i64 0, .nils, .nils]),
 ⟨none, .store 4 (.t 7) (.t 32), none, none, []⟩,
 oP 8 (.move (.t 35))])
 (.seq (.region 0 [oQ 37 (.load true 4 (.t 7)),
 oP 38 (.fieldAddr 0 (.t 4)),
 oQ 39 (.load false 1 (.t 38)),
 oP 40 (.move (.t 8)),
 oQ 41 (.call 1 21 [(.t 37), (.t 39), (.t 40)]),
 oP 36 (.move (.t 41)),
 oP 42 (.extract (.t 36) 0),
 oP 43 (.extract (.t 36) 1),
 oP 9 (.move (.t 42)),
 oP 10 (.move (.t 43))])
 (.seq (.region 0 [oQ 45 (.load true 4 (.t 3)),
 oP 46 (.fieldAddr 0 (.t 4)),
 oQ 47 (.load false 1 (.t 46)),
 oP 48 (.move (.t 2)),
 oQ 49 (.call 1 51 [(.t 45), (.t 47), (.t 48)]),
 oP 44 (.move (.t 49)),
 oP 50 (.extract (.t 44) 0),
 oP 51 (.extract (.t 44) 1),
 oP 11 (.move (.t 50)),
 oP 12 (.move (.t 51))])
 (.seq (.seq (.region 0 [oQ 52 (.load true 4 (.t 7)),
 oQ 53 (.call 1 52 [(.t 52)]),
 oQ 54 (.load true 4 (.t 3)),
 oQ 55 (.call 1 53 [(.t 54)]),
 oP 56 (.bin .neq (.t 53) (.t 55)),
 oP 57 (.move (.t 56)),
 oG 58 57 false (.move (.t 9)),
 oG 59 57 false (.move (.t 11)),
 oG 60 57 false (.eqB true (.t 58) (.t 59)),
 oP 61 (.pick (.t 57) (.c (.bool true)) (.t 60)),
 oP 62 (.move (.t 61)),
 oG 63 62 false (.move (.t 10)),
 oG 64 62 false (.move (.t 12)),
 oG 65 62 false (.bin .neq (.t 63) (.t 64)),
 oP 66 (.pick (.t 62) (.c (.bool true)) (.t 65)),
 oP 67 (.move (.t 66)),
 oG 68 67 false (.move (.t 8)),
 oG 69 67 false (.move (.t 2)),
 ⟨(some 70), .call 1 54 [(.t 68), (.t 69)], (some (67, false)), none, []⟩,
 oG 71 67 false (.un .not (.t 70)),
 oP 72 (.pick (.t 67) (.c (.bool true)) (.t 71))])
 (.cond (.t 72) (.seq (.region 0 [oP 6 (.move (.c (.bool false)))])
 (.ret))
 (.skip)))
 (.seq (.region 0 [oQ 74 (.load true 4 (.t 7)),
 oP 75 (.fieldAddr 1 (.t 4)),
 oQ 76 (.load false 1 (.t 75)),
 oQ 77 (.call 1 22 [(.t 74), (.t 76)]),
 oP 73 (.move (.t 77)),
 oP 78 (.extract (.t 73) 0),
 oP 79 (.extract (.t 73) 1),
 oQ 13 (.alloc [.int .i64 0, .int .i64 0]),
 ⟨none, .store 2 (.t 13) (.t 78), none, none, []⟩,
 oP 10 (.move (.t 79))])
 (.seq (.region 0 [oQ 81 (.load true 4 (.t 3)),
 oP 82 (.fieldAddr 1 (.t 4)),
 oQ 83 (.load false 1 (.t 82)),
 oQ 84 (.call 1 55 [(.t 81), (.t 83)]),
 oP 80 (.move (.t 84)),
 oP 85 (.extract (.t 80) 0),
 oP 86 (.extract (.t 80) 1),
 oQ 14 (.alloc [.int .i64 0, .int .i64 0]),
 ⟨none, .store 2 (.t 14) (.t 85), none, none, []⟩,
 oP 12 (.move (.t 86))])
 (.seq (.region 0 [oQ 88 (.load true 4 (.t 7)),
 oP 89 (.fieldAddr 1 (.t 4)),
 oQ 90 (.load false 1 (.t 89)),
 oQ 91 (.call 1 23 [(.t 88), (.t 90)]),
 oP 87 (.move (.t 91)),
 oP 92 (.extract (.t 87) 0),
 oP 93 (.extract (.t 87) 1),
 oQ 15 (.alloc [.int .i64 0, .int .i64 0]),
 ⟨none, .store 2 (.t 15) (.t 92), none, none, []⟩,
 oP 16 (.move (.t 93))])
 (.seq (.region 0 [oQ 95 (.load true 4 (.t 3)),
 oP 96 (.fieldAddr 1 (.t 4)),
 oQ 97 (.load false 1 (.t 96)),
 oQ 98 (.call 1 56 [(.t 95), (.t 97)]),
 oP 94 (.move (.t 98)),
 oP 99 (.extract (.t 94) 0),
 oP 100 (.extract (.t 94) 1),
 oQ 17 (.alloc [.int .i64 0, .int .i64 0]),
 ⟨none, .store 2 (.t 17) (.t 99), none, none, []⟩,
 oP 18 (.move (.t 100))])
 (.seq (.region 0 [oQ 102 (.load true 4 (.t 7)),
 oP 103 (.fieldAddr 1 (.t 4)),
 oQ 104 (.load false 1 (.t 103)),
 oQ 105 (.call 1 57 [(.t 102), (.t 104)]),
 oP 101 (.move (.t 105)),
 oP 106 (.extract (.t 101) 0),
 oP 107 (.extract (.t 101) 1),
 oP 19 (.move (.t 106)),
 oP 20 (.move (.t 107))])
 (.seq (.region 0 [oQ 109 (.load true 4 (.t 3)),
 oP 110 (.fieldAddr 1 (.t 4)),
 oQ 111 (.load false 1 (.t 110)),
 oQ 112 (.call 1 58 [(.t 109), (.t 111)]),
 oP 108 (.move (.t 112)),
 oP 113 (.extract (.t 108) 0),
 oP 114 (.extract (.t 108) 1),
 oP 21 (.move (.t 113)),
 oP 22 (.move (.t 114))])
 (.seq (.region 0 [oQ 115 (.load true 2 (.t 13)),
 oQ 116 (.load true 2 (.t 14)),
 oP 117 (.eqS false [true, true] (.t 115) (.t 116)),
 oP 118 (.move (.t 117)),
 oG 119 118 true (.move (.t 10)),
 oG 120 118 true (.move (.t 12)),
 oG 121 118 true (.bin .eql (.t 119) (.t 120)),
 oP 122 (.pick (.t 118) (.t 121) (.c (.bool false))),
 oP 123 (.move (.t 122)),
 ⟨(some 124), .load true 2 (.t 15), (some (123, true)), none, []⟩,
 ⟨(some 125), .load true 2 (.t 17), (some (123, true)), none, []⟩,
 oG 126 123 true (.eqS false [true, true] (.t 124) (.t 125)),
 oP 127 (.pick (.t 123) (.t 126) (.c (.bool false))),
 oP 128 (.move (.t 127)),
 oG 129 128 true (.move (.t 16)),
 oG 130 128 true (.move (.t 18)),
 oG 131 128 true (.bin .eql (.t 129) (.t 130)),
 oP 132 (.pick (.t 128) (.t 131) (.c (.bool false))),
 oP 133 (.move (.t 132)),
 oG 134 133 true (.move (.t 19)),
 oG 135 133 true (.move (.t 21)),
 oG 136 133 true (.bin .eql (.t 134) (.t 135)),
 oP 137 (.pick (.t 133) (.t 136) (.c (.bool false))),
 oP 138 (.move (.t 137)),
 oG 139 138 true (.move (.t 20)),
 oG 140 138 true (.move (.t 22)),
 oG 141 138 true (.bin .eql (.t 139) (.t 140)),
 oP 142 (.pick (.t 138) (.t 141) (.c (.bool false))),
 oP 143 (.move (.t 142)),
 ⟨(some 144), .load true 4 (.t 7), (some (143, true)), none, []⟩,
 ⟨(some 145), .load true 4 (.t 3), (some (143, true)), none, []⟩,
 ⟨(some 146), .call 1 59 [(.t 144), (.t 145)], (some (143, true)), none, []⟩,
 oP 147 (.pick (.t 143) (.t 146) (.c (.bool false))),
 oP 148 (.move (.t 147)),
 ⟨(some 149), .call 1 19 [], (some (148, true)), none, []⟩,
 oP 150 (.pick (.t 148) (.t 149) (.c (.bool false))),
 oP 6 (.move (.t 150))])
 (.ret)))))))))))))⟩
/-- almadraba/almadrabalaw05.LiftsSafe -/
def f13 : AFn := ⟨127, [.tmp 4],
 .seq (.region 0 [oQ 2 (.box (.t 0)),
 oP 4 (.move (.c (.bool false)))])
 (.seq (.seq (.region 0 [oQ 17 (.load true 4 (.t 2)),
 oQ 18 (.call 1 50 [(.t 17)]),
 oP 19 (.move (.t 18)),
 oG 20 19 false (.move (.t 1)),
 oG 21 19 false (.lenS (.t 20)),
 oG 22 19 false (.bin .gtr (.t 21) (.c (.int .i64 40))),
 oP 23 (.pick (.t 19) (.c (.bool true)) (.t 22))])
 (.cond (.t 23) (.seq (.region 0 [oQ 24 (.call 1 19 []),
 oP 4 (.move (.t 24))])
 (.ret))
 (.skip)))
 (.seq (.region 0 [oQ 25 (.load true 4 (.t 2)),
 oQ 26 (.call 1 40 [(.t 25)]),
 oQ 27 (.buildSlice 1 0 [.int .i64 0] []),
 oP 28 (.move (.t 1)),
 oQ 29 (.append false 1 8 (.t 27) (.t 28)),
 oQ 5 (.alloc [.int .i64 0, .int .i64 0, .nils, .nils]),
 ⟨none, .store 4 (.t 5) (.t 26), none, none, []⟩,
 oP 6 (.move (.t 29))])
 (.seq (.region 0 [oQ 31 (.load true 4 (.t 5)),
 oP 32 (.move (.t 6)),
 oQ 33 (.call 1 27 [(.t 31), (.t 32)]),
 oP 30 (.move (.t 33)),
 oP 34 (.extract (.t 30) 0),
 oP 35 (.extract (.t 30) 1),
 oP 7 (.move (.t 34)),
 oP 8 (.move (.t 35))])
 (.seq (.region 0 [oQ 37 (.load true 4 (.t 2)),
 oP 38 (.move (.t 1)),
 oQ 39 (.call 1 60 [(.t 37), (.t 38)]),
 oP 36 (.move (.t 39)),
 oP 40 (.extract (.t 36) 0),
 oP 41 (.extract (.t 36) 1),
 oP 9 (.move (.t 40)),
 oP 10 (.move (.t 41))])
 (.seq (.region 0 [oQ 43 (.load true 4 (.t 5)),
 oP 44 (.move (.t 6)),
 oQ 45 (.call 1 61 [(.t 43), (.t 44)]),
 oP 42 (.move (.t 45)),
 oP 46 (.extract (.t 42) 0),
 oP 47 (.extract (.t 42) 1),
 oP 11 (.move (.t 46)),
 oP 12 (.move (.t 47))])
 (.seq (.region 0 [oQ 49 (.load true 4 (.t 2)),
 oP 50 (.move (.t 1)),
 oQ 51 (.call 1 62 [(.t 49), (.t 50)]),
 oP 48 (.move (.t 51)),
 oP 52 (.extract (.t 48) 0),
 oP 53 (.extract (.t 48) 1),
 oP 13 (.move (.t 52)),
 oP 14 (.move (.t 53))])
 (.seq (.seq (.region 0 [oP 54 (.move (.t 7)),
 oP 55 (.move (.t 9)),
 oP 56 (.bin .neq (.t 54) (.t 55)),
 oP 57 (.move (.t 56)),
 oG 58 57 false (.move (.t 8)),
 oG 59 57 false (.move (.t 10)),
 oG 60 57 false (.bin .neq (.t 58) (.t 59)),
 oP 61 (.pick (.t 57) (.c (.bool true)) (.t 60)),
 oP 62 (.move (.t 61)),
 oG 63 62 false (.move (.t 11)),
 oG 64 62 false (.move (.t 13)),
 oG 65 62 false (.bin .neq (.t 63) (.t 64)),
 oP 66 (.pick (.t 62) (.c (.bool true)) (.t 65)),
 oP 67 (.move (.t 66)),
 oG 68 67 false (.move (.t 12)),
 oG 69 67 false (.move (.t 14)),
 oG 70 67 false (.bin .neq (.t 68) (.t 69)),
 oP 71 (.pick (.t 67) (.c (.bool true)) (.t 70))])
 (.cond (.t 71) (.seq (.region 0 [oP 4 (.move (.c (.bool false)))])
 (.ret))
 (.skip)))
 (.seq (.region 0 [oQ 73 (.load true 4 (.t 5)),
 oP 74 (.move (.t 6)),
 oQ 75 (.call 1 38 [(.t 73), (.t 74)]),
 oP 72 (.move (.t 75)),
 oP 76 (.extract (.t 72) 0),
 oP 77 (.extract (.t 72) 1),
 oP 7 (.move (.t 76)),
 oP 8 (.move (.t 77))])
 (.seq (.region 0 [oQ 79 (.load true 4 (.t 2)),
 oP 80 (.move (.t 1)),
 oQ 81 (.call 1 63 [(.t 79), (.t 80)]),
 oP 78 (.move (.t 81)),
 oP 82 (.extract (.t 78) 0),
 oP 83 (.extract (.t 78) 1),
 oP 9 (.move (.t 82)),
 oP 10 (.move (.t 83))])
 (.seq (.region 0 [oQ 85 (.load true 4 (.t 5)),
 oP 86 (.move (.t 6)),
 oQ 87 (.call 1 42 [(.t 85), (.t 86)]),
 oP 84 (.move (.t 87)),
 oP 88 (.extract (.t 84) 0),
 oP 89 (.extract (.t 84) 1),
 oQ 15 (.alloc [.int .i64 0, .int .i64 0]),
 ⟨none, .store 2 (.t 15) (.t 88), none, none, []⟩,
 oP 12 (.move (.t 89))])
 (.seq (.region 0 [oQ 91 (.load true 4 (.t 2)),
 oP 92 (.move (.t 1)),
 oQ 93 (.call 1 64 [(.t 91), (.t 92)]),
 oP 90 (.move (.t 93)),
 oP 94 (.extract (.t 90) 0),
 oP 95 (.extract (.t 90) 1),
 oQ 16 (.alloc [.int .i64 0, .int .i64 0]),
 ⟨none, .store 2 (.t 16) (.t 94), none, none, []⟩,
 oP 14 (.move (.t 95))])
 (.seq (.region 0 [oP 96 (.move (.t 7)),
 oP 97 (.move (.t 9)),
 oP 98 (.bin .eql (.t 96) (.t 97)),
 oP 99 (.move (.t 98)),
 oG 100 99 true (.move (.t 8)),
 oG 101 99 true (.move (.t 10)),
 oG 102 99 true (.bin .eql (.t 100) (.t 101)),
 oP 103 (.pick (.t 99) (.t 102) (.c (.bool false))),
 oP 104 (.move (.t 103)),
 ⟨(some 105), .load true 2 (.t 15), (some (104, true)), none, []⟩,
 ⟨(some 106), .load true 2 (.t 16), (some (104, true)), none, []⟩,
 oG 107 104 true (.eqS false [true, true] (.t 105) (.t 106)),
 oP 108 (.pick (.t 104) (.t 107) (.c (.bool false))),
 oP 109 (.move (.t 108)),
 oG 110 109 true (.move (.t 12)),
 oG 111 109 true (.move (.t 14)),
 oG 112 109 true (.bin .eql (.t 110) (.t 111)),
 oP 113 (.pick (.t 109) (.t 112) (.c (.bool false))),
 oP 114 (.move (.t 113)),
 ⟨(some 115), .load true 4 (.t 5), (some (114, true)), none, []⟩,
 ⟨(some 116), .load true 4 (.t 2), (some (114, true)), none, []⟩,
 ⟨(some 117), .call 1 59 [(.t 115), (.t 116)], (some (114, true)), none, []⟩,
 oP 118 (.pick (.t 114) (.t 117) (.c (.bool false))),
 oP 119 (.move (.t 118)),
 oG 120 119 true (.move (.t 6)),
 oG 121 119 true (.move (.t 1)),
 ⟨(some 122), .call 1 54 [(.t 120), (.t 121)], (some (119, true)), none, []⟩,
 oP 123 (.pick (.t 119) (.t 122) (.c (.bool false))),
 oP 124 (.move (.t 123)),
 ⟨(some 125), .call 1 19 [], (some (124, true)), none, []⟩,
 oP 126 (.pick (.t 124) (.t 125) (.c (.bool false))),
 oP 4 (.move (.t 126))])
 (.ret)))))))))))))⟩
/-- almadraba/almadrabalaw05.LiftsCrew -/
def f14 : AFn := ⟨63, [.tmp 2],
 .seq (.region 0 [oQ 1 (.box (.t 0)),
 oP 2 (.move (.c (.bool false)))])
 (.seq (.seq (.region 0 [oQ 12 (.load true 4 (.t 1)),
 oQ 13 (.call 1 50 [(.t 12)])])
 (.cond (.t 13) (.seq (.region 0 [oQ 14 (.call 1 19 []),
 oP 2 (.move (.t 14))])
 (.ret))
 (.skip)))
 (.seq (.region 0 [oQ 15 (.load true 4 (.t 1)),
 oQ 16 (.call 1 40 [(.t 15)]),
 oQ 3 (.alloc [.int .i64 0, .int .i64 0, .nils, .nils]),
 ⟨none, .store 4 (.t 3) (.t 16), none, none, []⟩])
 (.seq (.region 0 [oQ 18 (.load true 4 (.t 3)),
 oQ 19 (.call 1 32 [(.t 18)]),
 oP 17 (.move (.t 19)),
 oP 20 (.extract (.t 17) 0),
 oP 21 (.extract (.t 17) 1),
 oP 4 (.move (.t 20)),
 oP 5 (.move (.t 21))])
 (.seq (.region 0 [oQ 23 (.load true 4 (.t 1)),
 oQ 24 (.call 1 65 [(.t 23)]),
 oP 22 (.move (.t 24)),
 oP 25 (.extract (.t 22) 0),
 oP 26 (.extract (.t 22) 1),
 oP 6 (.move (.t 25)),
 oP 7 (.move (.t 26))])
 (.seq (.region 0 [oQ 28 (.load true 4 (.t 3)),
 oQ 29 (.call 1 31 [(.t 28)]),
 oP 27 (.move (.t 29)),
 oP 30 (.extract (.t 27) 0),
 oP 31 (.extract (.t 27) 1),
 oP 8 (.move (.t 30)),
 oP 9 (.move (.t 31))])
 (.seq (.region 0 [oQ 33 (.load true 4 (.t 1)),
 oQ 34 (.call 1 66 [(.t 33)]),
 oP 32 (.move (.t 34)),
 oP 35 (.extract (.t 32) 0),
 oP 36 (.extract (.t 32) 1),
 oP 10 (.move (.t 35)),
 oP 11 (.move (.t 36))])
 (.seq (.region 0 [oP 37 (.move (.t 4)),
 oP 38 (.move (.t 6)),
 oP 39 (.bin .eql (.t 37) (.t 38)),
 oP 40 (.move (.t 39)),
 oG 41 40 true (.move (.t 5)),
 oG 42 40 true (.move (.t 7)),
 oG 43 40 true (.bin .eql (.t 41) (.t 42)),
 oP 44 (.pick (.t 40) (.t 43) (.c (.bool false))),
 oP 45 (.move (.t 44)),
 oG 46 45 true (.move (.t 8)),
 oG 47 45 true (.move (.t 10)),
 ⟨(some 48), .call 1 54 [(.t 46), (.t 47)], (some (45, true)), none, []⟩,
 oP 49 (.pick (.t 45) (.t 48) (.c (.bool false))),
 oP 50 (.move (.t 49)),
 oG 51 50 true (.move (.t 9)),
 oG 52 50 true (.move (.t 11)),
 oG 53 50 true (.bin .eql (.t 51) (.t 52)),
 oP 54 (.pick (.t 50) (.t 53) (.c (.bool false))),
 oP 55 (.move (.t 54)),
 ⟨(some 56), .load true 4 (.t 3), (some (55, true)), none, []⟩,
 ⟨(some 57), .load true 4 (.t 1), (some (55, true)), none, []⟩,
 ⟨(some 58), .call 1 59 [(.t 56), (.t 57)], (some (55, true)), none, []⟩,
 oP 59 (.pick (.t 55) (.t 58) (.c (.bool false))),
 oP 60 (.move (.t 59)),
 ⟨(some 61), .call 1 19 [], (some (60, true)), none, []⟩,
 oP 62 (.pick (.t 60) (.t 61) (.c (.bool false))),
 oP 2 (.move (.t 62))])
 (.ret))))))))⟩
/-- almadraba/almadrabalaw05.LiftsMost -/
def f15 : AFn := ⟨87, [.tmp 2],
 .seq (.region 0 [oQ 1 (.box (.t 0)),
 oP 2 (.move (.c (.bool false)))])
 (.seq (.seq (.region 0 [oQ 16 (.load true 4 (.t 1)),
 oQ 17 (.call 1 50 [(.t 16)])])
 (.cond (.t 17) (.seq (.region 0 [oQ 18 (.call 1 19 []),
 oP 2 (.move (.t 18))])
 (.ret))
 (.skip)))
 (.seq (.region 0 [oQ 19 (.load true 4 (.t 1)),
 oQ 20 (.call 1 40 [(.t 19)]),
 oQ 3 (.alloc [.int .i64 0, .int .i64 0, .nils, .nils]),
 ⟨none, .store 4 (.t 3) (.t 20), none, none, []⟩])
 (.seq (.region 0 [oQ 22 (.load true 4 (.t 3)),
 oQ 23 (.call 1 67 [(.t 22)]),
 oP 21 (.move (.t 23)),
 oP 24 (.extract (.t 21) 0),
 oP 25 (.extract (.t 21) 1),
 oP 4 (.move (.t 24)),
 oP 5 (.move (.t 25))])
 (.seq (.region 0 [oQ 27 (.load true 4 (.t 1)),
 oQ 28 (.call 1 68 [(.t 27)]),
 oP 26 (.move (.t 28)),
 oP 29 (.extract (.t 26) 0),
 oP 30 (.extract (.t 26) 1),
 oP 6 (.move (.t 29)),
 oP 7 (.move (.t 30))])
 (.seq (.region 0 [oQ 32 (.load true 4 (.t 3)),
 oQ 33 (.call 1 34 [(.t 32)]),
 oP 31 (.move (.t 33)),
 oP 34 (.extract (.t 31) 0),
 oP 35 (.extract (.t 31) 1),
 oP 8 (.move (.t 34)),
 oP 9 (.move (.t 35))])
 (.seq (.region 0 [oQ 37 (.load true 4 (.t 1)),
 oQ 38 (.call 1 69 [(.t 37)]),
 oP 36 (.move (.t 38)),
 oP 39 (.extract (.t 36) 0),
 oP 40 (.extract (.t 36) 1),
 oP 10 (.move (.t 39)),
 oP 11 (.move (.t 40))])
 (.seq (.region 0 [oQ 42 (.load true 4 (.t 3)),
 oQ 43 (.call 1 48 [(.t 42)]),
 oP 41 (.move (.t 43)),
 oP 44 (.extract (.t 41) 0),
 oP 45 (.extract (.t 41) 1),
 oP 12 (.move (.t 44)),
 oP 13 (.move (.t 45))])
 (.seq (.region 0 [oQ 47 (.load true 4 (.t 1)),
 oQ 48 (.call 1 70 [(.t 47)]),
 oP 46 (.move (.t 48)),
 oP 49 (.extract (.t 46) 0),
 oP 50 (.extract (.t 46) 1),
 oP 14 (.move (.t 49)),
 oP 15 (.move (.t 50))])
 (.seq (.region 0 [oP 51 (.move (.t 4)),
 oP 52 (.move (.t 6)),
 oP 53 (.bin .eql (.t 51) (.t 52)),
 oP 54 (.move (.t 53)),
 oG 55 54 true (.move (.t 5)),
 oG 56 54 true (.move (.t 7)),
 oG 57 54 true (.bin .eql (.t 55) (.t 56)),
 oP 58 (.pick (.t 54) (.t 57) (.c (.bool false))),
 oP 59 (.move (.t 58)),
 oG 60 59 true (.move (.t 8)),
 oG 61 59 true (.move (.t 10)),
 ⟨(some 62), .call 1 54 [(.t 60), (.t 61)], (some (59, true)), none, []⟩,
 oP 63 (.pick (.t 59) (.t 62) (.c (.bool false))),
 oP 64 (.move (.t 63)),
 oG 65 64 true (.move (.t 9)),
 oG 66 64 true (.move (.t 11)),
 oG 67 64 true (.bin .eql (.t 65) (.t 66)),
 oP 68 (.pick (.t 64) (.t 67) (.c (.bool false))),
 oP 69 (.move (.t 68)),
 oG 70 69 true (.move (.t 12)),
 oG 71 69 true (.move (.t 14)),
 ⟨(some 72), .call 1 54 [(.t 70), (.t 71)], (some (69, true)), none, []⟩,
 oP 73 (.pick (.t 69) (.t 72) (.c (.bool false))),
 oP 74 (.move (.t 73)),
 oG 75 74 true (.move (.t 13)),
 oG 76 74 true (.move (.t 15)),
 oG 77 74 true (.bin .eql (.t 75) (.t 76)),
 oP 78 (.pick (.t 74) (.t 77) (.c (.bool false))),
 oP 79 (.move (.t 78)),
 ⟨(some 80), .load true 4 (.t 3), (some (79, true)), none, []⟩,
 ⟨(some 81), .load true 4 (.t 1), (some (79, true)), none, []⟩,
 ⟨(some 82), .call 1 59 [(.t 80), (.t 81)], (some (79, true)), none, []⟩,
 oP 83 (.pick (.t 79) (.t 82) (.c (.bool false))),
 oP 84 (.move (.t 83)),
 ⟨(some 85), .call 1 19 [], (some (84, true)), none, []⟩,
 oP 86 (.pick (.t 84) (.t 85) (.c (.bool false))),
 oP 2 (.move (.t 86))])
 (.ret))))))))))⟩
/-- almadraba/almadrabalaw05.ready -/
def f16 : AFn := ⟨11, [.tmp 2],
 .seq (.region 0 [oQ 1 (.box (.t 0)),
 oP 2 (.move (.c (.bool false)))])
 (.seq (.region 0 [oQ 3 (.load true 4 (.t 1)),
 oQ 4 (.call 1 50 [(.t 3)]),
 oP 5 (.un .not (.t 4)),
 oP 6 (.move (.t 5)),
 ⟨(some 7), .load true 4 (.t 1), (some (6, true)), none, []⟩,
 ⟨(some 8), .call 1 53 [(.t 7)], (some (6, true)), none, []⟩,
 oG 9 6 true (.bin .eql (.t 8) (.c (.int .i64 0))),
 oP 10 (.pick (.t 6) (.t 9) (.c (.bool false))),
 oP 2 (.move (.t 10))])
 (.ret))⟩
/-- almadraba/almadrabaref01.Within -/
def f17 : AFn := ⟨15, [.tmp 6],
 .seq (.region 0 [oP 6 (.move (.c (.bool false)))])
 (.seq (.region 0 [oP 7 (.move (.t 1)),
 oP 8 (.move (.t 0)),
 oP 9 (.bin .leq (.t 7) (.t 8)),
 oP 10 (.move (.t 9)),
 oG 11 10 true (.move (.t 0)),
 oG 12 10 true (.move (.t 2)),
 oG 13 10 true (.bin .leq (.t 11) (.t 12)),
 oP 14 (.pick (.t 10) (.t 13) (.c (.bool false))),
 oP 6 (.move (.t 14))])
 (.ret))⟩
/-- almadraba/almadrabaref05.AreParts -/
def f18 : AFn := ⟨39, [.tmp 4],
 .seq (.region 0 [oQ 2 (.box (.t 0)),
 oP 4 (.move (.c (.bool false)))])
 (.seq (.seq (.region 0 [oP 6 (.move (.t 1)),
 oP 7 (.lenS (.t 6)),
 oP 8 (.fieldAddr 2 (.t 2)),
 oQ 9 (.load false 1 (.t 8)),
 oP 10 (.lenS (.t 9)),
 oP 11 (.bin .neq (.t 7) (.t 10))])
 (.cond (.t 11) (.seq (.region 0 [oP 4 (.move (.c (.bool false)))])
 (.ret))
 (.skip)))
 (.seq (.seq (.region 0 [oP 5 (.move (.c (.int .i64 0)))])
 (.block 0 (.loop (.seq (.seq (.region 0 [oP 12 (.move (.t 5)),
 oP 13 (.move (.t 1)),
 oP 14 (.lenS (.t 13)),
 oP 15 (.bin .lss (.t 12) (.t 14))])
 (.cond (.t 15) (.skip)
 (.exit 0)))
 (.seq (.block 1 (.seq (.region 0 [oP 18 (.move (.t 1)),
 oP 19 (.move (.t 5)),
 oP 20 (.idxSl 1 (.t 18) (.t 19)),
 oQ 21 (.load false 1 (.t 20)),
 oP 22 (.fieldAddr 2 (.t 2)),
 oQ 23 (.load false 1 (.t 22)),
 oP 24 (.move (.t 5)),
 oP 25 (.idxSl 2 (.t 23) (.t 24)),
 oP 26 (.fieldAddr 0 (.t 25)),
 oQ 27 (.load false 1 (.t 26)),
 oP 28 (.fieldAddr 2 (.t 2)),
 oQ 29 (.load false 1 (.t 28)),
 oP 30 (.move (.t 5)),
 oP 31 (.idxSl 2 (.t 29) (.t 30)),
 oP 32 (.fieldAddr 1 (.t 31)),
 oQ 33 (.load false 1 (.t 32)),
 oQ 34 (.call 1 71 [(.t 21), (.t 27), (.t 33)]),
 oP 35 (.un .not (.t 34))])
 (.cond (.t 35) (.seq (.region 0 [oP 4 (.move (.c (.bool false)))])
 (.ret))
 (.skip))))
 (.region 0 [oP 16 (.move (.t 5)),
 oP 17 (.bin .add (.t 16) (.c (.int .i64 1))),
 oP 5 (.move (.t 17))]))))))
 (.seq (.region 0 [oP 36 (.move (.t 1)),
 oQ 37 (.call 1 72 [(.t 36)]),
 oP 38 (.bin .eql (.t 37) (.c (.int .i64 12))),
 oP 4 (.move (.t 38))])
 (.ret))))⟩
/-- almadraba/almadrabalaw05.works -/
def f19 : AFn := ⟨99, [.tmp 0],
 .seq (.region 0 [oP 0 (.move (.c (.bool false)))])
 (.seq (.region 0 [oQ 16 (.call 1 73 []),
 oP 15 (.move (.t 16)),
 oP 17 (.extract (.t 15) 0),
 oP 18 (.extract (.t 15) 1),
 oQ 1 (.alloc [.int .i64 0, .int .i64 0, .nils, .nils]),
 oQ 2 (.alloc [.int .i64 0, .int .i64 0, .nils, .nils]),
 ⟨none, .store 4 (.t 1) (.t 17), none, none, []⟩,
 ⟨none, .store 4 (.t 2) (.t 18), none, none, []⟩])
 (.seq (.region 0 [oQ 20 (.load true 4 (.t 1)),
 oQ 21 (.call 1 22 [(.t 20), (.c (.int .i64 0))]),
 oP 19 (.move (.t 21)),
 oP 22 (.extract (.t 19) 0),
 oP 23 (.extract (.t 19) 1),
 oQ 3 (.alloc [.int .i64 0, .int .i64 0]),
 ⟨none, .store 2 (.t 3) (.t 22), none, none, []⟩,
 oP 4 (.move (.t 23))])
 (.seq (.region 0 [oQ 25 (.load true 4 (.t 1)),
 oQ 26 (.call 1 57 [(.t 25), (.c (.int .i64 2))]),
 oP 24 (.move (.t 26)),
 oP 27 (.extract (.t 24) 0),
 oP 28 (.extract (.t 24) 1),
 oP 5 (.move (.t 27)),
 oP 6 (.move (.t 28))])
 (.seq (.region 0 [oQ 30 (.load true 4 (.t 1)),
 oQ 31 (.litS 1 3 [.int .i64 0] [(0, (.c (.int .i64 0))), (1, (.c (.int .i64 3))), (2, (.c (.int .i64 1)))]),
 oQ 32 (.call 1 27 [(.t 30), (.t 31)]),
 oP 29 (.move (.t 32)),
 oP 33 (.extract (.t 29) 0),
 oP 34 (.extract (.t 29) 1),
 oP 7 (.move (.t 33)),
 oP 8 (.move (.t 34))])
 (.seq (.region 0 [oQ 36 (.load true 4 (.t 1)),
 oQ 37 (.call 1 31 [(.t 36)]),
 oP 35 (.move (.t 37)),
 oP 38 (.extract (.t 35) 0),
 oP 39 (.extract (.t 35) 1),
 oP 9 (.move (.t 38)),
 oP 10 (.move (.t 39))])
 (.seq (.region 0 [oQ 41 (.load true 4 (.t 1)),
 oQ 42 (.call 1 67 [(.t 41)]),
 oP 40 (.move (.t 42)),
 oP 43 (.extract (.t 40) 0),
 oP 44 (.extract (.t 40) 1),
 oP 11 (.move (.t 43)),
 oP 12 (.move (.t 44))])
 (.seq (.region 0 [oQ 46 (.load true 4 (.t 2)),
 oQ 47 (.call 1 34 [(.t 46)]),
 oP 45 (.move (.t 47)),
 oP 48 (.extract (.t 45) 0),
 oP 49 (.extract (.t 45) 1),
 oP 13 (.move (.t 48)),
 oP 14 (.move (.t 49))])
 (.seq (.region 0 [oP 50 (.move (.t 4)),
 oP 51 (.bin .eql (.t 50) (.c (.int .i64 0))),
 oP 52 (.move (.t 51)),
 oG 53 52 true (.move (.t 6)),
 oG 54 52 true (.bin .eql (.t 53) (.c (.int .i64 0))),
 oP 55 (.pick (.t 52) (.t 54) (.c (.bool false))),
 oP 56 (.move (.t 55)),
 oG 57 56 true (.move (.t 8)),
 oG 58 56 true (.bin .eql (.t 57) (.c (.int .i64 0))),
 oP 59 (.pick (.t 56) (.t 58) (.c (.bool false))),
 oP 60 (.move (.t 59)),
 oG 61 60 true (.move (.t 10)),
 oG 62 60 true (.bin .eql (.t 61) (.c (.int .i64 0))),
 oP 63 (.pick (.t 60) (.t 62) (.c (.bool false))),
 oP 64 (.move (.t 63)),
 oG 65 64 true (.move (.t 12)),
 oG 66 64 true (.bin .eql (.t 65) (.c (.int .i64 0))),
 oP 67 (.pick (.t 64) (.t 66) (.c (.bool false))),
 oP 68 (.move (.t 67)),
 oG 69 68 true (.move (.t 14)),
 oG 70 68 true (.bin .eql (.t 69) (.c (.int .i64 0))),
 oP 71 (.pick (.t 68) (.t 70) (.c (.bool false))),
 oP 72 (.move (.t 71)),
 ⟨(some 73), .load true 2 (.t 3), (some (72, true)), none, []⟩,
 oG 74 72 true (.build [.int .i64 0, .int .i64 0] [(0, 1, (.c (.int .i64 2))), (1, 1, (.c (.int .i64 5)))]),
 oG 75 72 true (.eqS false [true, true] (.t 73) (.t 74)),
 oP 76 (.pick (.t 72) (.t 75) (.c (.bool false))),
 oP 77 (.move (.t 76)),
 oG 78 77 true (.move (.t 5)),
 oG 79 77 true (.bin .eql (.t 78) (.c (.int .i64 60))),
 oP 80 (.pick (.t 77) (.t 79) (.c (.bool false))),
 oP 81 (.move (.t 80)),
 oG 82 81 true (.move (.t 7)),
 oG 83 81 true (.bin .eql (.t 82) (.c (.int .i64 1))),
 oP 84 (.pick (.t 81) (.t 83) (.c (.bool false))),
 oP 85 (.move (.t 84)),
 oG 86 85 true (.move (.t 9)),
 ⟨(some 87), .litS 1 3 [.int .i64 0] [(0, (.c (.int .i64 0))), (1, (.c (.int .i64 1))), (2, (.c (.int .i64 3)))], (some (85, true)), none, []⟩,
 ⟨(some 88), .call 1 54 [(.t 86), (.t 87)], (some (85, true)), none, []⟩,
 oP 89 (.pick (.t 85) (.t 88) (.c (.bool false))),
 oP 90 (.move (.t 89)),
 oG 91 90 true (.move (.t 11)),
 oG 92 90 true (.bin .eql (.t 91) (.c (.int .i64 120))),
 oP 93 (.pick (.t 90) (.t 92) (.c (.bool false))),
 oP 94 (.move (.t 93)),
 oG 95 94 true (.move (.t 13)),
 ⟨(some 96), .litS 1 1 [.int .i64 0] [(0, (.c (.int .i64 2)))], (some (94, true)), none, []⟩,
 ⟨(some 97), .call 1 54 [(.t 95), (.t 96)], (some (94, true)), none, []⟩,
 oP 98 (.pick (.t 94) (.t 97) (.c (.bool false))),
 oP 0 (.move (.t 98))])
 (.ret)))))))))⟩
/-- almadraba/almadrabalaw05.needs -/
def f20 : AFn := ⟨36, [.tmp 2, .tmp 3],
 .seq (.region 0 [oQ 1 (.box (.t 0)),
 oP 2 (.move (.c (.nils))),
 oP 3 (.move (.c (.bool false)))])
 (.seq (.region 0 [oP 4 (.move (.c (.nils)))])
 (.seq (.seq (.region 0 [oP 5 (.move (.c (.int .i64 0)))])
 (.block 0 (.loop (.seq (.seq (.region 0 [oP 8 (.move (.t 5)),
 oP 9 (.fieldAddr 2 (.t 1)),
 oQ 10 (.load false 1 (.t 9)),
 oP 11 (.lenS (.t 10)),
 oP 12 (.bin .lss (.t 8) (.t 11))])
 (.cond (.t 12) (.skip)
 (.exit 0)))
 (.seq (.block 1 (.seq (.region 0 [oQ 16 (.load true 4 (.t 1)),
 oP 17 (.move (.t 5)),
 oQ 18 (.call 1 57 [(.t 16), (.t 17)]),
 oP 15 (.move (.t 18)),
 oP 19 (.extract (.t 15) 0),
 oP 20 (.extract (.t 15) 1),
 oP 6 (.move (.t 19)),
 oP 7 (.move (.t 20))])
 (.seq (.seq (.region 0 [oP 21 (.move (.t 7)),
 oP 22 (.bin .neq (.t 21) (.c (.int .i64 0))),
 oP 23 (.move (.t 22)),
 oG 24 23 false (.move (.t 6)),
 oG 25 23 false (.bin .lss (.t 24) (.c (.int .i64 0))),
 oP 26 (.pick (.t 23) (.c (.bool true)) (.t 25)),
 oP 27 (.move (.t 26)),
 oG 28 27 false (.move (.t 6)),
 oG 29 27 false (.bin .gtr (.t 28) (.c (.int .i64 2000))),
 oP 30 (.pick (.t 27) (.c (.bool true)) (.t 29))])
 (.cond (.t 30) (.seq (.region 0 [oP 2 (.move (.c (.nils))),
 oP 3 (.move (.c (.bool false)))])
 (.ret))
 (.skip)))
 (.region 0 [oP 31 (.move (.t 4)),
 oP 32 (.move (.t 6)),
 oQ 33 (.litS 1 1 [.int .i64 0] [(0, (.t 32))]),
 oQ 34 (.append false 1 8 (.t 31) (.t 33)),
 oP 4 (.move (.t 34))]))))
 (.region 0 [oP 13 (.move (.t 5)),
 oP 14 (.bin .add (.t 13) (.c (.int .i64 1))),
 oP 5 (.move (.t 14))]))))))
 (.seq (.region 0 [oP 35 (.move (.t 4)),
 oP 2 (.move (.t 35)),
 oP 3 (.move (.c (.bool true)))])
 (.ret))))⟩
/-- almadraba/lifts.Holds -/
def f21 : AFn := ⟨18, [.tmp 6, .tmp 7],
 .seq (.region 0 [oQ 3 (.box (.t 0)),
 oP 6 (.move (.c (.bool false))),
 oP 7 (.move (.c (.int .i64 0)))])
 (.seq (.seq (.region 0 [oQ 9 (.load true 4 (.t 3)),
 oQ 10 (.call 1 52 [(.t 9)]),
 oP 8 (.move (.t 10))])
 (.seq (.region 0 [oP 11 (.move (.t 8)),
 oP 12 (.bin .neq (.t 11) (.c (.int .i64 0)))])
 (.cond (.t 12) (.seq (.region 0 [oP 13 (.move (.t 8)),
 oP 6 (.move (.c (.bool false))),
 oP 7 (.move (.t 13))])
 (.ret))
 (.skip))))
 (.seq (.region 0 [oQ 14 (.load true 4 (.t 3)),
 oP 15 (.move (.t 1)),
 oP 16 (.move (.t 2)),
 oQ 17 (.call 1 74 [(.t 14), (.t 15), (.t 16)]),
 oP 6 (.move (.t 17)),
 oP 7 (.move (.c (.int .i64 0)))])
 (.ret)))⟩
/-- almadraba/lifts.Share -/
def f22 : AFn := ⟨18, [.cell true 2 4, .tmp 5],
 .seq (.region 0 [oQ 2 (.box (.t 0)),
 oQ 4 (.alloc [.int .i64 0, .int .i64 0]),
 oP 5 (.move (.c (.int .i64 0)))])
 (.seq (.seq (.region 0 [oQ 7 (.load true 4 (.t 2)),
 oP 8 (.move (.t 1)),
 oQ 9 (.call 1 75 [(.t 7), (.t 8)]),
 oP 6 (.move (.t 9))])
 (.seq (.region 0 [oP 10 (.move (.t 6)),
 oP 11 (.bin .neq (.t 10) (.c (.int .i64 0)))])
 (.cond (.t 11) (.seq (.region 0 [oP 12 (.build [.int .i64 0, .int .i64 0] []),
 oP 13 (.move (.t 6)),
 ⟨none, .store 2 (.t 4) (.t 12), none, none, []⟩,
 oP 5 (.move (.t 13))])
 (.ret))
 (.skip))))
 (.seq (.region 0 [oQ 14 (.load true 4 (.t 2)),
 oP 15 (.build [.int .i64 0, .int .i64 0, .nils, .nils] [(0, 4, (.t 14))]),
 oP 16 (.move (.t 1)),
 oQ 17 (.call 1 76 [(.t 15), (.t 16)]),
 ⟨none, .store 2 (.t 4) (.t 17), none, none, []⟩,
 oP 5 (.move (.c (.int .i64 0)))])
 (.ret)))⟩
/-- almadraba/lifts.Load -/
def f23 : AFn := ⟨18, [.cell true 2 4, .tmp 5],
 .seq (.region 0 [oQ 2 (.box (.t 0)),
 oQ 4 (.alloc [.int .i64 0, .int .i64 0]),
 oP 5 (.move (.c (.int .i64 0)))])
 (.seq (.seq (.region 0 [oQ 7 (.load true 4 (.t 2)),
 oP 8 (.move (.t 1)),
 oQ 9 (.call 1 75 [(.t 7), (.t 8)]),
 oP 6 (.move (.t 9))])
 (.seq (.region 0 [oP 10 (.move (.t 6)),
 oP 11 (.bin .neq (.t 10) (.c (.int .i64 0)))])
 (.cond (.t 11) (.seq (.region 0 [oP 12 (.build [.int .i64 0, .int .i64 0] []),
 oP 13 (.move (.t 6)),
 ⟨none, .store 2 (.t 4) (.t 12), none, none, []⟩,
 oP 5 (.move (.t 13))])
 (.ret))
 (.skip))))
 (.seq (.region 0 [oQ 14 (.load true 4 (.t 2)),
 oP 15 (.build [.int .i64 0, .int .i64 0, .nils, .nils] [(0, 4, (.t 14))]),
 oP 16 (.move (.t 1)),
 oQ 17 (.call 1 77 [(.t 15), (.t 16)]),
 ⟨none, .store 2 (.t 4) (.t 17), none, none, []⟩,
 oP 5 (.move (.c (.int .i64 0)))])
 (.ret)))⟩
/-- almadraba/almadrabalaw05.has -/
def f24 : AFn := ⟨15, [.tmp 4],
 .seq (.region 0 [oQ 2 (.box (.t 0)),
 oP 4 (.move (.c (.bool false)))])
 (.seq (.region 0 [oP 5 (.fieldAddr 0 (.t 2)),
 oQ 6 (.load false 1 (.t 5)),
 oP 7 (.move (.t 1)),
 oP 8 (.bin .leq (.t 6) (.t 7)),
 oP 9 (.move (.t 8)),
 oG 10 9 true (.move (.t 1)),
 oG 11 9 true (.fieldAddr 1 (.t 2)),
 ⟨(some 12), .load false 1 (.t 11), (some (9, true)), none, []⟩,
 oG 13 9 true (.bin .leq (.t 10) (.t 12)),
 oP 14 (.pick (.t 9) (.t 13) (.c (.bool false))),
 oP 4 (.move (.t 14))])
 (.ret))⟩
/-- almadraba/almadrabaref05.IsPlace -/
def f25 : AFn := ⟨11, [.tmp 4],
 .seq (.region 0 [oQ 2 (.box (.t 0)),
 oP 4 (.move (.c (.bool false)))])
 (.seq (.region 0 [oP 5 (.move (.t 1)),
 oP 6 (.fieldAddr 2 (.t 2)),
 oQ 7 (.load false 1 (.t 6)),
 oP 8 (.lenS (.t 7)),
 oP 9 (.bin .sub (.t 8) (.c (.int .i64 1))),
 oQ 10 (.call 1 71 [(.t 5), (.c (.int .i64 0)), (.t 9)]),
 oP 4 (.move (.t 10))])
 (.ret))⟩
/-- almadraba/almadrabaref05.IsCrew -/
def f26 : AFn := ⟨37, [.tmp 4],
 .seq (.region 0 [oQ 2 (.box (.t 0)),
 oP 4 (.move (.c (.bool false)))])
 (.seq (.seq (.region 0 [oP 6 (.move (.t 1)),
 oP 7 (.lenS (.t 6)),
 oP 8 (.fieldAddr 2 (.t 2)),
 oQ 9 (.load false 1 (.t 8)),
 oP 10 (.lenS (.t 9)),
 oP 11 (.bin .neq (.t 7) (.t 10))])
 (.cond (.t 11) (.seq (.region 0 [oP 4 (.move (.c (.bool false)))])
 (.ret))
 (.skip)))
 (.seq (.seq (.region 0 [oP 5 (.move (.c (.int .i64 0)))])
 (.block 0 (.loop (.seq (.seq (.region 0 [oP 12 (.move (.t 5)),
 oP 13 (.move (.t 1)),
 oP 14 (.lenS (.t 13)),
 oP 15 (.bin .lss (.t 12) (.t 14))])
 (.cond (.t 15) (.skip)
 (.exit 0)))
 (.seq (.block 1 (.seq (.region 2 [⟨(some 18), .load true 4 (.t 2), none, none, [0, 1]⟩,
 oP 19 (.move (.t 1)),
 oP 20 (.move (.t 5)),
 oP 21 (.idxSl 1 (.t 19) (.t 20)),
 ⟨(some 22), .load false 1 (.t 21), none, none, [0, 1]⟩,
 ⟨(some 23), .call 1 47 [(.t 18), (.t 22)], none, none, [0, 1]⟩,
 oP 24 (.un .not (.t 23)),
 oP 25 (.move (.t 24)),
 ⟨(some 26), .buildSlice 1 0 [.int .i64 0] [], (some (25, false)), (some 0), []⟩,
 oG 27 25 false (.move (.t 1)),
 oG 28 25 false (.move (.t 5)),
 oG 29 25 false (.slice 1 (.t 27) none (some (.t 28))),
 ⟨(some 30), .append true 1 8 (.t 26) (.t 29), (some (25, false)), (some 1), []⟩,
 oG 31 25 false (.move (.t 1)),
 oG 32 25 false (.move (.t 5)),
 oG 33 25 false (.idxSl 1 (.t 31) (.t 32)),
 ⟨(some 34), .load false 1 (.t 33), (some (25, false)), none, [0, 1]⟩,
 ⟨(some 35), .call 1 49 [(.t 30), (.t 34)], (some (25, false)), none, []⟩,
 oP 36 (.pick (.t 25) (.c (.bool true)) (.t 35))])
 (.cond (.t 36) (.seq (.region 0 [oP 4 (.move (.c (.bool false)))])
 (.ret))
 (.skip))))
 (.region 0 [oP 16 (.move (.t 5)),
 oP 17 (.bin .add (.t 16) (.c (.int .i64 1))),
 oP 5 (.move (.t 17))]))))))
 (.seq (.region 0 [oP 4 (.move (.c (.bool true)))])
 (.ret))))⟩
/-- almadraba/lifts.Safe -/
def f27 : AFn := ⟨25, [.tmp 4, .tmp 5],
 .seq (.region 0 [oQ 2 (.box (.t 0)),
 oP 4 (.move (.c (.int .i64 0))),
 oP 5 (.move (.c (.int .i64 0)))])
 (.seq (.seq (.region 0 [oQ 8 (.load true 4 (.t 2)),
 oP 9 (.move (.t 1)),
 oQ 10 (.call 1 78 [(.t 8), (.t 9)]),
 oP 6 (.move (.t 10))])
 (.seq (.region 0 [oP 11 (.move (.t 6)),
 oP 12 (.bin .neq (.t 11) (.c (.int .i64 0)))])
 (.cond (.t 12) (.seq (.region 0 [oP 13 (.move (.t 6)),
 oP 4 (.move (.c (.int .i64 0))),
 oP 5 (.move (.t 13))])
 (.ret))
 (.skip))))
 (.seq (.region 0 [oQ 14 (.load true 4 (.t 2)),
 oP 15 (.build [.int .i64 0, .int .i64 0, .nils, .nils] [(0, 4, (.t 14))]),
 oQ 7 (.alloc [.int .i64 0, .int .i64 0, .nils, .nils]),
 ⟨none, .store 4 (.t 7) (.t 15), none, none, []⟩])
 (.seq (.block 0 (.seq (.region 0 [oQ 17 (.load true 4 (.t 7)),
 oP 18 (.move (.t 1)),
 oQ 19 (.call 1 79 [(.t 17), (.t 18)]),
 oP 16 (.move (.t 19))])
 (.cond (.t 16) (.seq (.region 0 [oP 4 (.move (.c (.int .i64 1))),
 oP 5 (.move (.c (.int .i64 0)))])
 (.ret))
 (.seq (.region 0 [oQ 21 (.load true 4 (.t 7)),
 oP 22 (.move (.t 1)),
 oQ 23 (.call 1 80 [(.t 21), (.t 22)]),
 oP 24 (.un .not (.t 23)),
 oP 20 (.move (.t 24))])
 (.cond (.t 20) (.seq (.region 0 [oP 4 (.move (.c (.int .i64 2))),
 oP 5 (.move (.c (.int .i64 0)))])
 (.ret))
 (.skip))))))
 (.seq (.region 0 [oP 4 (.move (.c (.int .i64 3))),
 oP 5 (.move (.c (.int .i64 0)))])
 (.ret)))))⟩
/-- almadraba/almadrabalaw05.can -/
def f28 : AFn := ⟨26, [.tmp 4],
 .seq (.region 0 [oQ 2 (.box (.t 0)),
 oP 4 (.move (.c (.int .i64 0)))])
 (.seq (.region 2 [⟨(some 8), .load true 4 (.t 2), none, none, [0, 1]⟩,
 ⟨(some 9), .buildSlice 1 0 [.int .i64 0] [], none, (some 0), []⟩,
 oP 10 (.move (.t 1)),
 ⟨(some 11), .append true 1 8 (.t 9) (.t 10), none, (some 1), []⟩,
 oQ 12 (.call 1 61 [(.t 8), (.t 11)]),
 oP 7 (.move (.t 12)),
 oP 13 (.extract (.t 7) 0),
 oP 14 (.extract (.t 7) 1),
 oP 5 (.move (.t 13)),
 oP 6 (.move (.t 14))])
 (.seq (.seq (.region 0 [oP 15 (.move (.t 6)),
 oP 16 (.bin .neq (.t 15) (.c (.int .i64 0))),
 oP 17 (.move (.t 16)),
 oG 18 17 false (.move (.t 5)),
 oG 19 17 false (.bin .lss (.t 18) (.c (.int .i64 0))),
 oP 20 (.pick (.t 17) (.c (.bool true)) (.t 19)),
 oP 21 (.move (.t 20)),
 oG 22 21 false (.move (.t 5)),
 oG 23 21 false (.bin .gtr (.t 22) (.c (.int .i64 2000))),
 oP 24 (.pick (.t 21) (.c (.bool true)) (.t 23))])
 (.cond (.t 24) (.seq (.region 0 [oP 4 (.move (.c (.int .i64 (-1))))])
 (.ret))
 (.skip)))
 (.seq (.region 0 [oP 25 (.move (.t 5)),
 oP 4 (.move (.t 25))])
 (.ret))))⟩
/-- almadraba/almadrabaref05.Fits -/
def f29 : AFn := ⟨28, [.tmp 6],
 .seq (.region 0 [oQ 3 (.box (.t 0)),
 oP 6 (.move (.c (.bool false)))])
 (.seq (.seq (.region 0 [oP 7 (.move (.c (.int .i64 0)))])
 (.block 0 (.loop (.seq (.seq (.region 0 [oP 8 (.move (.t 7)),
 oP 9 (.move (.t 1)),
 oP 10 (.lenS (.t 9)),
 oP 11 (.bin .lss (.t 8) (.t 10))])
 (.cond (.t 11) (.skip)
 (.exit 0)))
 (.seq (.block 1 (.seq (.region 0 [oP 14 (.fieldAddr 3 (.t 3)),
 oQ 15 (.load false 1 (.t 14)),
 oP 16 (.move (.t 1)),
 oP 17 (.move (.t 7)),
 oP 18 (.idxSl 1 (.t 16) (.t 17)),
 oQ 19 (.load false 1 (.t 18)),
 oP 20 (.idxSl 2 (.t 15) (.t 19)),
 oP 21 (.fieldAddr 0 (.t 20)),
 oQ 22 (.load false 1 (.t 21)),
 oP 23 (.move (.t 2)),
 oP 24 (.move (.t 7)),
 oP 25 (.idxSl 1 (.t 23) (.t 24)),
 oQ 26 (.load false 1 (.t 25)),
 oP 27 (.bin .lss (.t 22) (.t 26))])
 (.cond (.t 27) (.seq (.region 0 [oP 6 (.move (.c (.bool false)))])
 (.ret))
 (.skip))))
 (.region 0 [oP 12 (.move (.t 7)),
 oP 13 (.bin .add (.t 12) (.c (.int .i64 1))),
 oP 7 (.move (.t 13))]))))))
 (.seq (.region 0 [oP 6 (.move (.c (.bool true)))])
 (.ret)))⟩
/-- almadraba/almadrabaref05.Over -/
def f30 : AFn := ⟨33, [.tmp 8],
 .seq (.region 0 [oQ 4 (.box (.t 0)),
 oP 8 (.move (.c (.bool false)))])
 (.seq (.seq (.region 0 [oP 9 (.move (.c (.int .i64 0)))])
 (.block 0 (.loop (.seq (.seq (.region 0 [oP 10 (.move (.t 9)),
 oP 11 (.move (.t 1)),
 oP 12 (.lenS (.t 11)),
 oP 13 (.bin .lss (.t 10) (.t 12))])
 (.cond (.t 13) (.skip)
 (.exit 0)))
 (.seq (.block 1 (.seq (.region 0 [oP 16 (.move (.t 2)),
 oP 17 (.move (.t 3)),
 oP 18 (.move (.t 9)),
 oP 19 (.idxSl 1 (.t 17) (.t 18)),
 oQ 20 (.load false 1 (.t 19)),
 oP 21 (.bin .mul (.t 16) (.t 20)),
 oP 22 (.fieldAddr 3 (.t 4)),
 oQ 23 (.load false 1 (.t 22)),
 oP 24 (.move (.t 1)),
 oP 25 (.move (.t 9)),
 oP 26 (.idxSl 1 (.t 24) (.t 25)),
 oQ 27 (.load false 1 (.t 26)),
 oP 28 (.idxSl 2 (.t 23) (.t 27)),
 oP 29 (.fieldAddr 0 (.t 28)),
 oQ 30 (.load false 1 (.t 29)),
 oP 31 (.bin .mul (.c (.int .i64 12)) (.t 30)),
 oP 32 (.bin .gtr (.t 21) (.t 31))])
 (.cond (.t 32) (.seq (.region 0 [oP 8 (.move (.c (.bool true)))])
 (.ret))
 (.skip))))
 (.region 0 [oP 14 (.move (.t 9)),
 oP 15 (.bin .add (.t 14) (.c (.int .i64 1))),
 oP 9 (.move (.t 15))]))))))
 (.seq (.region 0 [oP 8 (.move (.c (.bool false)))])
 (.ret)))⟩
/-- almadraba/lifts.Crew -/
def f31 : AFn := ⟨15, [.tmp 2, .tmp 3],
 .seq (.region 0 [oQ 1 (.box (.t 0)),
 oP 2 (.move (.c (.nils))),
 oP 3 (.move (.c (.int .i64 0)))])
 (.seq (.region 0 [oQ 8 (.load true 4 (.t 1)),
 oQ 9 (.call 1 81 [(.t 8)]),
 oP 7 (.move (.t 9)),
 oP 10 (.extract (.t 7) 0),
 oP 11 (.extract (.t 7) 1),
 oP 12 (.extract (.t 7) 2),
 oP 4 (.move (.t 10)),
 oP 5 (.move (.t 11)),
 oP 6 (.move (.t 12))])
 (.seq (.region 0 [oP 13 (.move (.t 4)),
 oP 14 (.move (.t 6)),
 oP 2 (.move (.t 13)),
 oP 3 (.move (.t 14))])
 (.ret)))⟩
/-- almadraba/lifts.Cheap -/
def f32 : AFn := ⟨15, [.tmp 2, .tmp 3],
 .seq (.region 0 [oQ 1 (.box (.t 0)),
 oP 2 (.move (.c (.int .i64 0))),
 oP 3 (.move (.c (.int .i64 0)))])
 (.seq (.region 0 [oQ 8 (.load true 4 (.t 1)),
 oQ 9 (.call 1 81 [(.t 8)]),
 oP 7 (.move (.t 9)),
 oP 10 (.extract (.t 7) 0),
 oP 11 (.extract (.t 7) 1),
 oP 12 (.extract (.t 7) 2),
 oP 4 (.move (.t 10)),
 oP 5 (.move (.t 11)),
 oP 6 (.move (.t 12))])
 (.seq (.region 0 [oP 13 (.move (.t 5)),
 oP 14 (.move (.t 6)),
 oP 2 (.move (.t 13)),
 oP 3 (.move (.t 14))])
 (.ret)))⟩
/-- almadraba/almadrabalaw05.most -/
def f33 : AFn := ⟨40, [.tmp 2, .tmp 3],
 .seq (.region 0 [oQ 1 (.box (.t 0)),
 oP 2 (.move (.c (.int .i64 0))),
 oP 3 (.move (.c (.bool false)))])
 (.seq (.region 0 [oQ 7 (.load true 4 (.t 1)),
 oQ 8 (.call 1 67 [(.t 7)]),
 oP 6 (.move (.t 8)),
 oP 9 (.extract (.t 6) 0),
 oP 10 (.extract (.t 6) 1),
 oP 4 (.move (.t 9)),
 oP 5 (.move (.t 10))])
 (.seq (.seq (.region 0 [oP 11 (.move (.t 5)),
 oP 12 (.bin .eql (.t 11) (.c (.int .i64 3)))])
 (.cond (.t 12) (.seq (.region 0 [oP 13 (.fieldAddr 3 (.t 1)),
 oQ 14 (.load false 1 (.t 13)),
 oP 15 (.lenS (.t 14)),
 oP 16 (.fieldAddr 2 (.t 1)),
 oQ 17 (.load false 1 (.t 16)),
 oP 18 (.lenS (.t 17)),
 oP 19 (.bin .lss (.t 15) (.t 18)),
 oP 2 (.move (.c (.int .i64 (-1)))),
 oP 3 (.move (.t 19))])
 (.ret))
 (.skip)))
 (.seq (.region 0 [oP 20 (.move (.t 4)),
 oP 21 (.move (.t 5)),
 oP 22 (.bin .eql (.t 21) (.c (.int .i64 0))),
 oP 23 (.move (.t 22)),
 oG 24 23 true (.fieldAddr 3 (.t 1)),
 ⟨(some 25), .load false 1 (.t 24), (some (23, true)), none, []⟩,
 oG 26 23 true (.lenS (.t 25)),
 oG 27 23 true (.fieldAddr 2 (.t 1)),
 ⟨(some 28), .load false 1 (.t 27), (some (23, true)), none, []⟩,
 oG 29 23 true (.lenS (.t 28)),
 oG 30 23 true (.bin .geq (.t 26) (.t 29)),
 oP 31 (.pick (.t 23) (.t 30) (.c (.bool false))),
 oP 32 (.move (.t 31)),
 oG 33 32 true (.move (.t 4)),
 oG 34 32 true (.bin .geq (.t 33) (.c (.int .i64 0))),
 oP 35 (.pick (.t 32) (.t 34) (.c (.bool false))),
 oP 36 (.move (.t 35)),
 oG 37 36 true (.move (.t 4)),
 oG 38 36 true (.bin .leq (.t 37) (.c (.int .i64 2000))),
 oP 39 (.pick (.t 36) (.t 38) (.c (.bool false))),
 oP 2 (.move (.t 20)),
 oP 3 (.move (.t 39))])
 (.ret))))⟩
/-- almadraba/lifts.Short -/
def f34 : AFn := ⟨17, [.tmp 2, .tmp 3],
 .seq (.region 0 [oQ 1 (.box (.t 0)),
 oP 2 (.move (.c (.nils))),
 oP 3 (.move (.c (.int .i64 0)))])
 (.seq (.seq (.region 0 [oQ 6 (.load true 4 (.t 1)),
 oQ 7 (.call 1 52 [(.t 6)]),
 oP 4 (.move (.t 7))])
 (.seq (.region 0 [oP 8 (.move (.t 4)),
 oP 9 (.bin .neq (.t 8) (.c (.int .i64 0)))])
 (.cond (.t 9) (.seq (.region 0 [oP 10 (.move (.t 4)),
 oP 2 (.move (.c (.nils))),
 oP 3 (.move (.t 10))])
 (.ret))
 (.skip))))
 (.seq (.region 0 [oQ 11 (.load true 4 (.t 1)),
 oP 12 (.build [.int .i64 0, .int .i64 0, .nils, .nils] [(0, 4, (.t 11))]),
 oQ 13 (.call 1 82 [(.t 12)]),
 oP 5 (.move (.t 13))])
 (.seq (.seq (.region 0 [oP 14 (.move (.t 5)),
 oP 15 (.isNil (.t 14) (.c (.nils)))])
 (.cond (.t 15) (.seq (.region 0 [oP 2 (.move (.c (.nils))),
 oP 3 (.move (.c (.int .i64 3)))])
 (.ret))
 (.skip)))
 (.seq (.region 0 [oP 16 (.move (.t 5)),
 oP 2 (.move (.t 16)),
 oP 3 (.move (.c (.int .i64 0)))])
 (.ret)))))⟩
/-- almadraba/almadrabalaw05.isKnown -/
def f35 : AFn := ⟨9, [.tmp 2],
 .seq (.region 0 [oP 2 (.move (.c (.bool false)))])
 (.seq (.region 0 [oP 3 (.move (.t 0)),
 oP 4 (.bin .eql (.t 3) (.c (.int .i64 0))),
 oP 5 (.move (.t 4)),
 oG 6 5 false (.move (.t 0)),
 oG 7 5 false (.bin .eql (.t 6) (.c (.int .i64 3))),
 oP 8 (.pick (.t 5) (.c (.bool true)) (.t 7)),
 oP 2 (.move (.t 8))])
 (.ret))⟩
/-- almadraba/almadrabaref05.CostOf -/
def f36 : AFn := ⟨25, [.tmp 4],
 .seq (.region 0 [oQ 2 (.box (.t 0)),
 oP 4 (.move (.c (.int .i64 0)))])
 (.seq (.region 0 [oP 5 (.move (.c (.int .i64 0)))])
 (.seq (.seq (.region 0 [oP 6 (.move (.c (.int .i64 0)))])
 (.block 0 (.loop (.seq (.seq (.region 0 [oP 7 (.move (.t 6)),
 oP 8 (.move (.t 1)),
 oP 9 (.lenS (.t 8)),
 oP 10 (.bin .lss (.t 7) (.t 9))])
 (.cond (.t 10) (.skip)
 (.exit 0)))
 (.seq (.block 1 (.region 0 [oP 13 (.move (.t 5)),
 oP 14 (.fieldAddr 3 (.t 2)),
 oQ 15 (.load false 1 (.t 14)),
 oP 16 (.move (.t 1)),
 oP 17 (.move (.t 6)),
 oP 18 (.idxSl 1 (.t 16) (.t 17)),
 oQ 19 (.load false 1 (.t 18)),
 oP 20 (.idxSl 2 (.t 15) (.t 19)),
 oP 21 (.fieldAddr 1 (.t 20)),
 oQ 22 (.load false 1 (.t 21)),
 oP 23 (.bin .add (.t 13) (.t 22)),
 oP 5 (.move (.t 23))]))
 (.region 0 [oP 11 (.move (.t 6)),
 oP 12 (.bin .add (.t 11) (.c (.int .i64 1))),
 oP 6 (.move (.t 12))]))))))
 (.seq (.region 0 [oP 24 (.move (.t 5)),
 oP 4 (.move (.t 24))])
 (.ret))))⟩
/-- almadraba/almadrabaref01.Earlier -/
def f37 : AFn := ⟨36, [.tmp 4],
 .seq (.region 0 [oP 4 (.move (.c (.bool false)))])
 (.seq (.seq (.region 0 [oP 5 (.move (.c (.int .i64 0)))])
 (.block 0 (.loop (.seq (.seq (.region 0 [oP 6 (.move (.t 5)),
 oP 7 (.move (.t 0)),
 oP 8 (.lenS (.t 7)),
 oP 9 (.bin .lss (.t 6) (.t 8)),
 oP 10 (.move (.t 9)),
 oG 11 10 true (.move (.t 5)),
 oG 12 10 true (.move (.t 1)),
 oG 13 10 true (.lenS (.t 12)),
 oG 14 10 true (.bin .lss (.t 11) (.t 13)),
 oP 15 (.pick (.t 10) (.t 14) (.c (.bool false)))])
 (.cond (.t 15) (.skip)
 (.exit 0)))
 (.seq (.block 1 (.seq (.region 0 [oP 18 (.move (.t 0)),
 oP 19 (.move (.t 5)),
 oP 20 (.idxSl 1 (.t 18) (.t 19)),
 oQ 21 (.load false 1 (.t 20)),
 oP 22 (.move (.t 1)),
 oP 23 (.move (.t 5)),
 oP 24 (.idxSl 1 (.t 22) (.t 23)),
 oQ 25 (.load false 1 (.t 24)),
 oP 26 (.bin .neq (.t 21) (.t 25))])
 (.cond (.t 26) (.seq (.region 0 [oP 27 (.move (.t 0)),
 oP 28 (.move (.t 5)),
 oP 29 (.idxSl 1 (.t 27) (.t 28)),
 oQ 30 (.load false 1 (.t 29)),
 oP 31 (.move (.t 1)),
 oP 32 (.move (.t 5)),
 oP 33 (.idxSl 1 (.t 31) (.t 32)),
 oQ 34 (.load false 1 (.t 33)),
 oP 35 (.bin .lss (.t 30) (.t 34)),
 oP 4 (.move (.t 35))])
 (.ret))
 (.skip))))
 (.region 0 [oP 16 (.move (.t 5)),
 oP 17 (.bin .add (.t 16) (.c (.int .i64 1))),
 oP 5 (.move (.t 17))]))))))
 (.seq (.region 0 [oP 4 (.move (.c (.bool false)))])
 (.ret)))⟩
/-- almadraba/lifts.First -/
def f38 : AFn := ⟨25, [.tmp 4, .tmp 5],
 .seq (.region 0 [oQ 2 (.box (.t 0)),
 oP 4 (.move (.c (.int .i64 0))),
 oP 5 (.move (.c (.int .i64 0)))])
 (.seq (.seq (.region 0 [oQ 9 (.load true 4 (.t 2)),
 oP 10 (.move (.t 1)),
 oQ 11 (.call 1 78 [(.t 9), (.t 10)]),
 oP 6 (.move (.t 11))])
 (.seq (.region 0 [oP 12 (.move (.t 6)),
 oP 13 (.bin .neq (.t 12) (.c (.int .i64 0)))])
 (.cond (.t 13) (.seq (.region 0 [oP 14 (.move (.t 6)),
 oP 4 (.move (.c (.int .i64 0))),
 oP 5 (.move (.t 14))])
 (.ret))
 (.skip))))
 (.seq (.region 0 [oQ 16 (.load true 4 (.t 2)),
 oP 17 (.build [.int .i64 0, .int .i64 0, .nils, .nils] [(0, 4, (.t 16))]),
 oP 18 (.move (.t 1)),
 oQ 19 (.call 1 83 [(.t 17), (.t 18)]),
 oP 15 (.move (.t 19)),
 oP 20 (.extract (.t 15) 0),
 oP 21 (.extract (.t 15) 1),
 oP 7 (.move (.t 20)),
 oP 8 (.move (.t 21))])
 (.seq (.seq (.region 0 [oP 22 (.move (.t 8)),
 oP 23 (.un .not (.t 22))])
 (.cond (.t 23) (.seq (.region 0 [oP 4 (.move (.c (.int .i64 0))),
 oP 5 (.move (.c (.int .i64 3)))])
 (.ret))
 (.skip)))
 (.seq (.region 0 [oP 24 (.move (.t 7)),
 oP 4 (.move (.t 24)),
 oP 5 (.move (.c (.int .i64 0)))])
 (.ret)))))⟩
/-- almadraba/almadrabalaw05.cheap -/
def f39 : AFn := ⟨24, [.tmp 2, .tmp 3],
 .seq (.region 0 [oQ 1 (.box (.t 0)),
 oP 2 (.move (.c (.int .i64 0))),
 oP 3 (.move (.c (.bool false)))])
 (.seq (.region 0 [oQ 7 (.load true 4 (.t 1)),
 oQ 8 (.call 1 32 [(.t 7)]),
 oP 6 (.move (.t 8)),
 oP 9 (.extract (.t 6) 0),
 oP 10 (.extract (.t 6) 1),
 oP 4 (.move (.t 9)),
 oP 5 (.move (.t 10))])
 (.seq (.seq (.region 0 [oP 11 (.move (.t 5)),
 oP 12 (.bin .eql (.t 11) (.c (.int .i64 3)))])
 (.cond (.t 12) (.seq (.region 0 [oP 2 (.move (.c (.int .i64 10000))),
 oP 3 (.move (.c (.bool true)))])
 (.ret))
 (.skip)))
 (.seq (.region 0 [oP 13 (.move (.t 4)),
 oP 14 (.move (.t 5)),
 oP 15 (.bin .eql (.t 14) (.c (.int .i64 0))),
 oP 16 (.move (.t 15)),
 oG 17 16 true (.move (.t 4)),
 oG 18 16 true (.bin .geq (.t 17) (.c (.int .i64 0))),
 oP 19 (.pick (.t 16) (.t 18) (.c (.bool false))),
 oP 20 (.move (.t 19)),
 oG 21 20 true (.move (.t 4)),
 oG 22 20 true (.bin .lss (.t 21) (.c (.int .i64 10000))),
 oP 23 (.pick (.t 20) (.t 22) (.c (.bool false))),
 oP 2 (.move (.t 13)),
 oP 3 (.move (.t 23))])
 (.ret))))⟩
end Go.Proofs.Ytdmhbefdidmliaa.T
