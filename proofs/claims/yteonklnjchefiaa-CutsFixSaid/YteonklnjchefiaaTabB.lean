/-
The code of functions of the seat, as the abstract machine has it (printed by a tool of ours off the dump).
-/
import Derived.Test.YteonklnjchefiaaTabA
namespace Go.Proofs.Yteonklnjchefiaa.T
open Go Go.Am
/-- almadraba/almadrabaref07.least -/
def f79 : AFn := ⟨150, [.tmp 4],
 .seq (.region 0 [oP 4 (.move (.c (.int .i64 0)))])
 (.seq (.region 0 [oP 5 (.move (.c (.int .i64 0)))])
 (.seq (.region 0 [oP 14 (.move (.t 0)),
 oP 15 (.lenS (.t 14)),
 oQ 16 (.makeSlice false 1 24 [.nils] (.t 15) (.t 15)),
 oP 6 (.move (.t 16))])
 (.seq (.seq (.region 0 [oP 17 (.move (.t 0)),
 oP 18 (.lenS (.t 17)),
 oP 19 (.bin .sub (.t 18) (.c (.int .i64 1))),
 oP 7 (.move (.t 19))])
 (.block 0 (.loop (.seq (.seq (.region 0 [oP 20 (.move (.t 7)),
 oP 21 (.bin .geq (.t 20) (.c (.int .i64 0)))])
 (.cond (.t 21) (.skip)
 (.exit 0)))
 (.seq (.block 1 (.seq (.region 0 [oQ 24 (.call 0 97 []),
 oP 8 (.move (.t 24))])
 (.seq (.region 0 [oP 25 (.move (.t 8)),
 oP 26 (.idxSl 1 (.t 25) (.c (.int .i64 0))),
 ⟨none, .store 1 (.t 26) (.c (.int .i64 0)), none, none, []⟩])
 (.seq (.seq (.region 0 [oP 27 (.move (.t 7)),
 oP 28 (.bin .add (.t 27) (.c (.int .i64 1))),
 oP 9 (.move (.t 28))])
 (.block 2 (.loop (.seq (.seq (.region 0 [oP 29 (.move (.t 9)),
 oP 30 (.move (.t 0)),
 oP 31 (.lenS (.t 30)),
 oP 32 (.bin .lss (.t 29) (.t 31))])
 (.cond (.t 32) (.skip)
 (.exit 2)))
 (.seq (.block 3 (.seq (.region 0 [oP 35 (.move (.t 0)),
 oP 36 (.move (.t 9)),
 oP 37 (.idxSl 6 (.t 35) (.t 36)),
 oP 38 (.fieldAddr 0 (.t 37)),
 oQ 39 (.load false 1 (.t 38)),
 oP 40 (.move (.t 7)),
 oP 41 (.bin .eql (.t 39) (.t 40))])
 (.cond (.t 41) (.region 0 [oP 42 (.move (.t 8)),
 oP 43 (.move (.t 6)),
 oP 44 (.move (.t 9)),
 oP 45 (.idxSl 1 (.t 43) (.t 44)),
 oQ 46 (.load false 1 (.t 45)),
 oQ 47 (.call 1 115 [(.t 42), (.t 46)]),
 oP 8 (.move (.t 47))])
 (.skip))))
 (.region 0 [oP 33 (.move (.t 9)),
 oP 34 (.bin .add (.t 33) (.c (.int .i64 1))),
 oP 9 (.move (.t 34))]))))))
 (.seq (.region 0 [oP 48 (.move (.t 6)),
 oP 49 (.move (.t 7)),
 oQ 50 (.call 0 97 []),
 oP 51 (.idxSl 1 (.t 48) (.t 49)),
 ⟨none, .store 1 (.t 51) (.t 50), none, none, []⟩])
 (.seq (.seq (.region 0 [oP 10 (.move (.c (.int .i64 0)))])
 (.block 4 (.loop (.seq (.seq (.region 0 [oP 52 (.move (.t 10)),
 oP 53 (.bin .leq (.t 52) (.c (.int .i64 30)))])
 (.cond (.t 53) (.skip)
 (.exit 4)))
 (.seq (.block 5 (.seq (.seq (.region 0 [oP 56 (.move (.t 0)),
 oP 57 (.move (.t 7)),
 oQ 58 (.call 1 24 [(.t 56), (.t 57)]),
 oP 59 (.un .not (.t 58))])
 (.cond (.t 59) (.region 0 [oP 60 (.move (.t 6)),
 oP 61 (.move (.t 7)),
 oP 62 (.idxSl 1 (.t 60) (.t 61)),
 oQ 63 (.load false 1 (.t 62)),
 oP 64 (.move (.t 10)),
 oP 65 (.move (.t 1)),
 oP 66 (.move (.t 7)),
 oP 67 (.idxSl 1 (.t 65) (.t 66)),
 oQ 68 (.load false 1 (.t 67)),
 oP 69 (.move (.t 10)),
 oP 70 (.idxSl 1 (.t 68) (.t 69)),
 oQ 71 (.load false 1 (.t 70)),
 oP 72 (.idxSl 1 (.t 63) (.t 64)),
 ⟨none, .store 1 (.t 72) (.t 71), none, none, []⟩])
 (.skip)))
 (.seq (.region 0 [oP 73 (.move (.t 0)),
 oP 74 (.move (.t 7)),
 oP 75 (.idxSl 6 (.t 73) (.t 74)),
 oP 76 (.fieldAddr 3 (.t 75)),
 oP 77 (.fieldAddr 0 (.t 76)),
 oQ 78 (.load false 1 (.t 77)),
 oP 11 (.move (.t 78))])
 (.block 6 (.loop (.seq (.seq (.region 0 [oP 79 (.move (.t 0)),
 oP 80 (.move (.t 7)),
 oQ 81 (.call 1 24 [(.t 79), (.t 80)]),
 oP 82 (.move (.t 81)),
 oG 83 82 true (.move (.t 11)),
 oG 84 82 true (.move (.t 0)),
 oG 85 82 true (.move (.t 7)),
 oG 86 82 true (.idxSl 6 (.t 84) (.t 85)),
 oG 87 82 true (.fieldAddr 3 (.t 86)),
 oG 88 82 true (.fieldAddr 1 (.t 87)),
 ⟨(some 89), .load false 1 (.t 88), (some (82, true)), none, []⟩,
 oG 90 82 true (.bin .leq (.t 83) (.t 89)),
 oP 91 (.pick (.t 82) (.t 90) (.c (.bool false))),
 oP 92 (.move (.t 91)),
 oG 93 92 true (.move (.t 11)),
 oG 94 92 true (.move (.t 10)),
 oG 95 92 true (.bin .leq (.t 93) (.t 94)),
 oP 96 (.pick (.t 92) (.t 95) (.c (.bool false)))])
 (.cond (.t 96) (.skip)
 (.exit 6)))
 (.seq (.block 7 (.region 0 [oP 99 (.move (.t 6)),
 oP 100 (.move (.t 7)),
 oP 101 (.idxSl 1 (.t 99) (.t 100)),
 oQ 102 (.load false 1 (.t 101)),
 oP 103 (.move (.t 10)),
 oP 104 (.move (.t 6)),
 oP 105 (.move (.t 7)),
 oP 106 (.idxSl 1 (.t 104) (.t 105)),
 oQ 107 (.load false 1 (.t 106)),
 oP 108 (.move (.t 10)),
 oP 109 (.idxSl 1 (.t 107) (.t 108)),
 oQ 110 (.load false 1 (.t 109)),
 oP 111 (.move (.t 1)),
 oP 112 (.move (.t 7)),
 oP 113 (.idxSl 1 (.t 111) (.t 112)),
 oQ 114 (.load false 1 (.t 113)),
 oP 115 (.move (.t 10)),
 oP 116 (.idxSl 1 (.t 114) (.t 115)),
 oQ 117 (.load false 1 (.t 116)),
 oP 118 (.move (.t 8)),
 oP 119 (.move (.t 10)),
 oP 120 (.move (.t 11)),
 oP 121 (.bin .sub (.t 119) (.t 120)),
 oP 122 (.idxSl 1 (.t 118) (.t 121)),
 oQ 123 (.load false 1 (.t 122)),
 oP 124 (.bin .add (.t 117) (.t 123)),
 oP 125 (.minmax false (.t 110) [(.t 124)]),
 oP 126 (.idxSl 1 (.t 102) (.t 103)),
 ⟨none, .store 1 (.t 126) (.t 125), none, none, []⟩]))
 (.region 0 [oP 97 (.move (.t 11)),
 oP 98 (.bin .add (.t 97) (.c (.int .i64 1))),
 oP 11 (.move (.t 98))]))))))))
 (.region 0 [oP 54 (.move (.t 10)),
 oP 55 (.bin .add (.t 54) (.c (.int .i64 1))),
 oP 10 (.move (.t 55))]))))))
 (.seq (.region 0 [oP 127 (.move (.t 0)),
 oP 128 (.move (.t 7)),
 oP 129 (.idxSl 6 (.t 127) (.t 128)),
 oP 130 (.fieldAddr 0 (.t 129)),
 oQ 131 (.load false 1 (.t 130)),
 oP 132 (.bin .eql (.t 131) (.c (.int .i64 (-1))))])
 (.cond (.t 132) (.seq (.region 0 [oP 12 (.move (.c (.int .i64 1099511627776)))])
 (.seq (.seq (.region 0 [oP 13 (.move (.c (.int .i64 0)))])
 (.block 8 (.loop (.seq (.seq (.region 0 [oP 133 (.move (.t 13)),
 oP 134 (.bin .leq (.t 133) (.c (.int .i64 30)))])
 (.cond (.t 134) (.skip)
 (.exit 8)))
 (.seq (.block 9 (.region 0 [oP 137 (.move (.t 12)),
 oP 138 (.move (.t 6)),
 oP 139 (.move (.t 7)),
 oP 140 (.idxSl 1 (.t 138) (.t 139)),
 oQ 141 (.load false 1 (.t 140)),
 oP 142 (.move (.t 13)),
 oP 143 (.idxSl 1 (.t 141) (.t 142)),
 oQ 144 (.load false 1 (.t 143)),
 oP 145 (.minmax false (.t 137) [(.t 144)]),
 oP 12 (.move (.t 145))]))
 (.region 0 [oP 135 (.move (.t 13)),
 oP 136 (.bin .add (.t 135) (.c (.int .i64 1))),
 oP 13 (.move (.t 136))]))))))
 (.region 0 [oP 146 (.move (.t 5)),
 oP 147 (.move (.t 12)),
 oP 148 (.bin .add (.t 146) (.t 147)),
 oP 5 (.move (.t 148))])))
 (.skip)))))))))
 (.region 0 [oP 22 (.move (.t 7)),
 oP 23 (.bin .sub (.t 22) (.c (.int .i64 1))),
 oP 7 (.move (.t 23))]))))))
 (.seq (.region 0 [oP 149 (.move (.t 5)),
 oP 4 (.move (.t 149))])
 (.ret)))))⟩
/-- almadraba/almadrabaref07.words -/
def f80 : AFn := ⟨33, [.tmp 2],
 .seq (.region 0 [oP 2 (.move (.c (.nils)))])
 (.seq (.region 0 [oP 6 (.move (.t 0)),
 oQ 7 (.call 0 116 [(.t 6)]),
 oP 3 (.move (.t 7))])
 (.seq (.seq (.region 0 [oP 4 (.move (.c (.int .i64 0)))])
 (.block 0 (.loop (.seq (.seq (.region 0 [oP 8 (.move (.t 4)),
 oP 9 (.move (.t 0)),
 oP 10 (.lenS (.t 9)),
 oP 11 (.bin .lss (.t 8) (.t 10))])
 (.cond (.t 11) (.skip)
 (.exit 0)))
 (.seq (.block 1 (.seq (.region 0 [oP 5 (.move (.c (.int .i64 0)))])
 (.block 2 (.loop (.seq (.seq (.region 0 [oP 14 (.move (.t 5)),
 oP 15 (.bin .leq (.t 14) (.c (.int .i64 30)))])
 (.cond (.t 15) (.skip)
 (.exit 2)))
 (.seq (.block 3 (.seq (.region 0 [oP 18 (.move (.t 0)),
 oP 19 (.move (.t 4)),
 oP 20 (.idxSl 6 (.t 18) (.t 19)),
 oP 21 (.fieldAddr 1 (.t 20)),
 oQ 22 (.load true 2 (.t 21)),
 oP 23 (.move (.t 5)),
 oQ 24 (.call 1 82 [(.t 22), (.t 23)]),
 oP 25 (.bin .gtr (.t 24) (.c (.int .i64 0)))])
 (.cond (.t 25) (.region 0 [oP 26 (.move (.t 3)),
 oP 27 (.move (.t 4)),
 oP 28 (.idxSl 1 (.t 26) (.t 27)),
 oQ 29 (.load false 1 (.t 28)),
 oP 30 (.move (.t 5)),
 oP 31 (.idxSl 1 (.t 29) (.t 30)),
 ⟨none, .store 1 (.t 31) (.c (.int .i64 1099511627776)), none, none, []⟩])
 (.skip))))
 (.region 0 [oP 16 (.move (.t 5)),
 oP 17 (.bin .add (.t 16) (.c (.int .i64 1))),
 oP 5 (.move (.t 17))])))))))
 (.region 0 [oP 12 (.move (.t 4)),
 oP 13 (.bin .add (.t 12) (.c (.int .i64 1))),
 oP 4 (.move (.t 13))]))))))
 (.seq (.region 0 [oP 32 (.move (.t 3)),
 oP 2 (.move (.t 32))])
 (.ret))))⟩
/-- (almadraba/cuts.table).fix -/
def f81 : AFn := ⟨31, [.tmp 2],
 .seq (.region 0 [oP 2 (.move (.c (.nils)))])
 (.seq (.region 0 [oP 6 (.move (.t 0)),
 oQ 7 (.call 1 83 [(.t 6)]),
 oP 3 (.move (.t 7))])
 (.seq (.region 0 [oP 4 (.move (.c (.nils)))])
 (.seq (.seq (.region 0 [oP 8 (.move (.t 0)),
 oP 9 (.lenS (.t 8)),
 oP 10 (.move (.c (.int .i64 0)))])
 (.block 0 (.loop (.seq (.region 0 [oP 11 (.bin .lss (.t 10) (.t 9))])
 (.seq (.cond (.t 11) (.skip)
 (.exit 0))
 (.seq (.block 1 (.seq (.region 0 [oP 12 (.move (.t 10)),
 oP 5 (.move (.t 12))])
 (.seq (.region 0 [oP 13 (.move (.t 4)),
 oQ 14 (.litS 1 1 [.int .i64 0] [(0, (.c (.int .i64 0)))]),
 oQ 15 (.append false 1 8 (.t 13) (.t 14)),
 oP 4 (.move (.t 15))])
 (.block 2 (.loop (.seq (.seq (.region 0 [oP 16 (.move (.t 0)),
 oP 17 (.move (.t 0)),
 oP 18 (.move (.t 4)),
 oQ 19 (.call 0 117 [(.t 17), (.t 18)]),
 oQ 20 (.call 3 102 [(.t 16), (.t 19)]),
 oP 21 (.move (.t 3)),
 oP 22 (.bin .gtr (.t 20) (.t 21))])
 (.cond (.t 22) (.skip)
 (.exit 2)))
 (.block 3 (.region 0 [oP 23 (.move (.t 4)),
 oP 24 (.move (.t 5)),
 oP 25 (.idxSl 1 (.t 23) (.t 24)),
 oQ 26 (.load false 1 (.t 25)),
 oP 27 (.bin .add (.t 26) (.c (.int .i64 1))),
 oP 28 (.idxSl 1 (.t 23) (.t 24)),
 ⟨none, .store 1 (.t 28) (.t 27), none, none, []⟩]))))))))
 (.region 0 [oP 29 (.bin .add (.t 10) (.c (.int .i64 1))),
 oP 10 (.move (.t 29))])))))))
 (.seq (.region 0 [oP 30 (.move (.t 4)),
 oP 2 (.move (.t 30))])
 (.ret)))))⟩
/-- almadraba/almadrabaref07.away -/
def f82 : AFn := ⟨14, [.tmp 4],
 .seq (.region 0 [oQ 2 (.box (.t 0)),
 oP 4 (.move (.c (.int .i64 0)))])
 (.seq (.region 0 [oP 5 (.fieldAddr 0 (.t 2)),
 oQ 6 (.load false 1 (.t 5)),
 oP 7 (.move (.t 1)),
 oP 8 (.bin .sub (.t 6) (.t 7)),
 oP 9 (.move (.t 1)),
 oP 10 (.fieldAddr 1 (.t 2)),
 oQ 11 (.load false 1 (.t 10)),
 oP 12 (.bin .sub (.t 9) (.t 11)),
 oP 13 (.minmax true (.c (.int .i64 0)) [(.t 8), (.t 12)]),
 oP 4 (.move (.t 13))])
 (.ret))⟩
/-- (almadraba/cuts.table).change -/
def f83 : AFn := ⟨7, [.tmp 2],
 .seq (.region 0 [oP 2 (.move (.c (.int .i64 0)))])
 (.seq (.region 0 [oP 3 (.move (.t 0)),
 oP 4 (.move (.t 0)),
 oP 5 (.mkFn 118 [(.t 4)] []),
 oQ 6 (.call 3 102 [(.t 3), (.t 5)]),
 oP 2 (.move (.t 6))])
 (.ret))⟩
/-- (almadraba/cuts.table).changed -/
def f84 : AFn := ⟨24, [.tmp 4],
 .seq (.region 0 [oP 4 (.move (.c (.int .i64 0)))])
 (.seq (.region 0 [oP 6 (.move (.t 0)),
 oQ 7 (.call 1 83 [(.t 6)]),
 oP 5 (.move (.t 7))])
 (.seq (.block 0 (.seq (.region 0 [oP 9 (.move (.t 0)),
 oP 10 (.move (.t 0)),
 oP 11 (.move (.t 1)),
 oQ 12 (.call 0 119 [(.t 10), (.t 11), (.c (.bool true))]),
 oQ 13 (.call 3 102 [(.t 9), (.t 12)]),
 oP 14 (.move (.t 5)),
 oP 15 (.bin .gtr (.t 13) (.t 14)),
 oP 8 (.move (.t 15))])
 (.cond (.t 8) (.seq (.region 0 [oP 4 (.move (.c (.int .i64 1)))])
 (.ret))
 (.seq (.region 0 [oP 17 (.move (.t 0)),
 oP 18 (.move (.t 0)),
 oP 19 (.move (.t 1)),
 oQ 20 (.call 0 119 [(.t 18), (.t 19), (.c (.bool false))]),
 oQ 21 (.call 3 102 [(.t 17), (.t 20)]),
 oP 22 (.move (.t 5)),
 oP 23 (.bin .gtr (.t 21) (.t 22)),
 oP 16 (.move (.t 23))])
 (.cond (.t 16) (.seq (.region 0 [oP 4 (.move (.c (.int .i64 2)))])
 (.ret))
 (.skip))))))
 (.seq (.region 0 [oP 4 (.move (.c (.int .i64 3)))])
 (.ret))))⟩
/-- (almadraba/cuts.table).best -/
def f85 : AFn := ⟨33, [.cell false 1 2, .cell false 1 3, .cell false 1 4],
 .seq (.region 0 [oQ 1 (.box (.t 0)),
 oQ 2 (.alloc [.nils]),
 oQ 3 (.alloc [.int .i64 0]),
 oQ 4 (.alloc [.int .i64 0])])
 (.seq (.region 0 [oQ 5 (.alloc [.nils])])
 (.seq (.region 0 [oQ 6 (.alloc [.int .i64 0]),
 ⟨none, .store 1 (.t 6) (.c (.int .i64 (-1))), none, none, []⟩])
 (.seq (.seq (.region 0 [oQ 10 (.load false 1 (.t 1)),
 oP 11 (.mkFn 120 [(.t 10)] [])])
 (.block 0 (.rangeFunc (.t 11) [12] (.region 0 [oP 7 (.move (.t 12))])
 (.block 1 (.seq (.region 1 [⟨(some 14), .load false 1 (.t 1), none, none, [0]⟩,
 ⟨(some 15), .load false 1 (.t 1), none, none, [0]⟩,
 oP 16 (.move (.t 7)),
 ⟨(some 17), .call 1 73 [(.t 15), (.t 16)], none, none, [0]⟩,
 ⟨(some 18), .call 1 66 [(.t 14), (.t 17)], none, none, [0]⟩,
 oP 13 (.move (.t 18)),
 oP 19 (.extract (.t 13) 0),
 oP 20 (.extract (.t 13) 1),
 ⟨(some 8), .alloc [.int .i64 0, .int .i64 0], none, (some 0), []⟩,
 ⟨none, .store 2 (.t 8) (.t 19), none, (some 0), []⟩,
 oP 9 (.move (.t 20))])
 (.seq (.seq (.region 0 [oP 21 (.move (.t 9)),
 oP 22 (.bin .neq (.t 21) (.c (.int .i64 0)))])
 (.cond (.t 22) (.seq (.region 0 [oP 23 (.move (.t 9)),
 ⟨none, .store 1 (.t 2) (.c (.nils)), none, none, []⟩,
 ⟨none, .store 1 (.t 3) (.c (.int .i64 0)), none, none, []⟩,
 ⟨none, .store 1 (.t 4) (.t 23), none, none, []⟩])
 (.ret))
 (.skip)))
 (.seq (.region 0 [oP 24 (.fieldAddr 0 (.t 8)),
 oQ 25 (.load false 1 (.t 24)),
 oQ 26 (.load false 1 (.t 6)),
 oP 27 (.bin .gtr (.t 25) (.t 26))])
 (.cond (.t 27) (.region 0 [oP 28 (.move (.t 7)),
 oP 29 (.fieldAddr 0 (.t 8)),
 oQ 30 (.loadR false 1 (.t 29) 8),
 ⟨none, .storeR 1 (.t 5) (.t 28) [8], none, none, []⟩,
 ⟨none, .store 1 (.t 6) (.t 30), none, none, []⟩])
 (.skip)))))))))
 (.seq (.region 0 [oQ 31 (.load false 1 (.t 5)),
 oQ 32 (.loadR false 1 (.t 6) 6),
 ⟨none, .storeR 1 (.t 2) (.t 31) [6], none, none, []⟩,
 ⟨none, .store 1 (.t 3) (.t 32), none, none, []⟩,
 ⟨none, .store 1 (.t 4) (.c (.int .i64 0)), none, none, []⟩])
 (.ret)))))⟩
/-- almadraba/almadrabaref01.Rising -/
def f86 : AFn := ⟨38, [.tmp 6],
 .seq (.region 0 [oP 6 (.move (.c (.bool false)))])
 (.seq (.seq (.region 0 [oP 7 (.move (.c (.int .i64 0)))])
 (.block 0 (.loop (.seq (.seq (.region 0 [oP 8 (.move (.t 7)),
 oP 9 (.move (.t 0)),
 oP 10 (.lenS (.t 9)),
 oP 11 (.bin .lss (.t 8) (.t 10))])
 (.cond (.t 11) (.skip)
 (.exit 0)))
 (.seq (.block 1 (.seq (.region 0 [oP 14 (.move (.t 0)),
 oP 15 (.move (.t 7)),
 oP 16 (.idxSl 1 (.t 14) (.t 15)),
 oQ 17 (.load false 1 (.t 16)),
 oP 18 (.move (.t 1)),
 oP 19 (.move (.t 2)),
 oQ 20 (.call 1 30 [(.t 17), (.t 18), (.t 19)]),
 oP 21 (.un .not (.t 20)),
 oP 22 (.move (.t 21)),
 oG 23 22 false (.move (.t 7)),
 oG 24 22 false (.bin .gtr (.t 23) (.c (.int .i64 0))),
 oG 25 22 false (.move (.t 24)),
 oG 26 25 true (.move (.t 0)),
 oG 27 25 true (.move (.t 7)),
 oG 28 25 true (.idxSl 1 (.t 26) (.t 27)),
 ⟨(some 29), .load false 1 (.t 28), (some (25, true)), none, []⟩,
 oG 30 25 true (.move (.t 0)),
 oG 31 25 true (.move (.t 7)),
 oG 32 25 true (.bin .sub (.t 31) (.c (.int .i64 1))),
 oG 33 25 true (.idxSl 1 (.t 30) (.t 32)),
 ⟨(some 34), .load false 1 (.t 33), (some (25, true)), none, []⟩,
 oG 35 25 true (.bin .leq (.t 29) (.t 34)),
 oG 36 22 false (.pick (.t 25) (.t 35) (.c (.bool false))),
 oP 37 (.pick (.t 22) (.c (.bool true)) (.t 36))])
 (.cond (.t 37) (.seq (.region 0 [oP 6 (.move (.c (.bool false)))])
 (.ret))
 (.skip))))
 (.region 0 [oP 12 (.move (.t 7)),
 oP 13 (.bin .add (.t 12) (.c (.int .i64 1))),
 oP 7 (.move (.t 13))]))))))
 (.seq (.region 0 [oP 6 (.move (.c (.bool true)))])
 (.ret)))⟩
/-- almadraba/almadrabaref01.In -/
def f87 : AFn := ⟨18, [.tmp 4],
 .seq (.region 0 [oP 4 (.move (.c (.bool false)))])
 (.seq (.seq (.region 0 [oP 5 (.move (.c (.int .i64 0)))])
 (.block 0 (.loop (.seq (.seq (.region 0 [oP 6 (.move (.t 5)),
 oP 7 (.move (.t 0)),
 oP 8 (.lenS (.t 7)),
 oP 9 (.bin .lss (.t 6) (.t 8))])
 (.cond (.t 9) (.skip)
 (.exit 0)))
 (.seq (.block 1 (.seq (.region 0 [oP 12 (.move (.t 0)),
 oP 13 (.move (.t 5)),
 oP 14 (.idxSl 1 (.t 12) (.t 13)),
 oQ 15 (.load false 1 (.t 14)),
 oP 16 (.move (.t 1)),
 oP 17 (.bin .eql (.t 15) (.t 16))])
 (.cond (.t 17) (.seq (.region 0 [oP 4 (.move (.c (.bool true)))])
 (.ret))
 (.skip))))
 (.region 0 [oP 10 (.move (.t 5)),
 oP 11 (.bin .add (.t 10) (.c (.int .i64 1))),
 oP 5 (.move (.t 11))]))))))
 (.seq (.region 0 [oP 4 (.move (.c (.bool false)))])
 (.ret)))⟩
/-- (almadraba/cuts.table).dearer -/
def f88 : AFn := ⟨16, [.tmp 4],
 .seq (.region 0 [oP 4 (.move (.c (.nils)))])
 (.seq (.region 0 [oP 5 (.move (.t 0)),
 oQ 6 (.call 2 121 [(.t 5)]),
 oP 0 (.move (.t 6))])
 (.seq (.region 0 [oP 7 (.move (.t 0)),
 oP 8 (.move (.t 1)),
 oP 9 (.idxSl 6 (.t 7) (.t 8)),
 oP 10 (.fieldAddr 5 (.t 9)),
 oQ 11 (.load false 1 (.t 10)),
 oP 12 (.bin .add (.t 11) (.c (.int .i64 1))),
 oP 13 (.idxSl 6 (.t 7) (.t 8)),
 oP 14 (.fieldAddr 5 (.t 13)),
 ⟨none, .store 1 (.t 14) (.t 12), none, none, []⟩])
 (.seq (.region 0 [oP 15 (.move (.t 0)),
 oP 4 (.move (.t 15))])
 (.ret))))⟩
/-- (almadraba/cuts.table).valid -/
def f89 : AFn := ⟨55, [.tmp 2],
 .seq (.region 0 [oP 2 (.move (.c (.bool false)))])
 (.seq (.seq (.region 0 [oP 6 (.move (.t 0)),
 oP 7 (.lenS (.t 6)),
 oP 8 (.bin .gtr (.t 7) (.c (.int .i64 8)))])
 (.cond (.t 8) (.seq (.region 0 [oP 2 (.move (.c (.bool false)))])
 (.ret))
 (.skip)))
 (.seq (.seq (.region 0 [oP 9 (.move (.t 0)),
 oP 10 (.lenS (.t 9)),
 oP 11 (.move (.c (.int .i64 0)))])
 (.block 0 (.loop (.seq (.region 0 [oP 12 (.bin .lss (.t 11) (.t 10))])
 (.seq (.cond (.t 12) (.skip)
 (.exit 0))
 (.seq (.block 1 (.seq (.region 0 [oP 13 (.move (.t 11)),
 oP 14 (.idxSl 6 (.t 9) (.t 11)),
 oQ 15 (.load true 6 (.t 14)),
 oQ 4 (.alloc [.int .i64 0, .int .i64 0, .int .i64 0, .int .i64 0, .int .i64 0, .int .i64 0]),
 oP 3 (.move (.t 13)),
 ⟨none, .store 6 (.t 4) (.t 15), none, none, []⟩])
 (.seq (.region 0 [oP 16 (.fieldAddr 0 (.t 4)),
 oQ 17 (.load false 1 (.t 16)),
 oP 18 (.bin .eql (.t 17) (.c (.int .i64 (-1)))),
 oP 19 (.move (.t 18)),
 oG 20 19 false (.fieldAddr 0 (.t 4)),
 ⟨(some 21), .load false 1 (.t 20), (some (19, false)), none, []⟩,
 oG 22 19 false (.bin .leq (.c (.int .i64 0)) (.t 21)),
 oG 23 19 false (.move (.t 22)),
 oG 24 23 true (.fieldAddr 0 (.t 4)),
 ⟨(some 25), .load false 1 (.t 24), (some (23, true)), none, []⟩,
 oG 26 23 true (.move (.t 3)),
 oG 27 23 true (.bin .lss (.t 25) (.t 26)),
 oG 28 19 false (.pick (.t 23) (.t 27) (.c (.bool false))),
 oP 29 (.pick (.t 19) (.c (.bool true)) (.t 28)),
 oP 5 (.move (.t 29))])
 (.seq (.region 0 [oP 30 (.move (.t 5)),
 oP 31 (.un .not (.t 30)),
 oP 32 (.move (.t 31)),
 oG 33 32 false (.fieldAddr 1 (.t 4)),
 ⟨(some 34), .load true 2 (.t 33), (some (32, false)), none, []⟩,
 ⟨(some 35), .call 1 122 [(.t 34)], (some (32, false)), none, []⟩,
 oG 36 32 false (.un .not (.t 35)),
 oP 37 (.pick (.t 32) (.c (.bool true)) (.t 36)),
 oP 38 (.move (.t 37)),
 oG 39 38 false (.fieldAddr 3 (.t 4)),
 ⟨(some 40), .load true 2 (.t 39), (some (38, false)), none, []⟩,
 ⟨(some 41), .call 1 122 [(.t 40)], (some (38, false)), none, []⟩,
 oG 42 38 false (.un .not (.t 41)),
 oP 43 (.pick (.t 38) (.c (.bool true)) (.t 42)),
 oP 44 (.move (.t 43)),
 oG 45 44 false (.fieldAddr 5 (.t 4)),
 ⟨(some 46), .load false 1 (.t 45), (some (44, false)), none, []⟩,
 oG 47 44 false (.bin .lss (.t 46) (.c (.int .i64 0))),
 oP 48 (.pick (.t 44) (.c (.bool true)) (.t 47)),
 oP 49 (.move (.t 48)),
 oG 50 49 false (.fieldAddr 5 (.t 4)),
 ⟨(some 51), .load false 1 (.t 50), (some (49, false)), none, []⟩,
 oG 52 49 false (.bin .gtr (.t 51) (.c (.int .i64 99))),
 oP 53 (.pick (.t 49) (.c (.bool true)) (.t 52))])
 (.cond (.t 53) (.seq (.region 0 [oP 2 (.move (.c (.bool false)))])
 (.ret))
 (.skip))))))
 (.region 0 [oP 54 (.bin .add (.t 11) (.c (.int .i64 1))),
 oP 11 (.move (.t 54))])))))))
 (.seq (.region 0 [oP 2 (.move (.c (.bool true)))])
 (.ret))))⟩
/-- almadraba/almadrabaref07.isSpan -/
def f90 : AFn := ⟨13, [.tmp 2],
 .seq (.region 0 [oQ 1 (.box (.t 0)),
 oP 2 (.move (.c (.bool false)))])
 (.seq (.region 0 [oP 3 (.fieldAddr 1 (.t 1)),
 oQ 4 (.load false 1 (.t 3)),
 oQ 5 (.call 1 76 [(.t 4), (.c (.int .i64 0)), (.c (.int .i64 30))]),
 oP 6 (.move (.t 5)),
 oG 7 6 true (.fieldAddr 0 (.t 1)),
 ⟨(some 8), .load false 1 (.t 7), (some (6, true)), none, []⟩,
 oG 9 6 true (.fieldAddr 1 (.t 1)),
 ⟨(some 10), .load false 1 (.t 9), (some (6, true)), none, []⟩,
 ⟨(some 11), .call 1 76 [(.t 8), (.c (.int .i64 0)), (.t 10)], (some (6, true)), none, []⟩,
 oP 12 (.pick (.t 6) (.t 11) (.c (.bool false))),
 oP 2 (.move (.t 12))])
 (.ret))⟩
/-- almadraba/almadrabaref07.known -/
def f91 : AFn := ⟨15, [.tmp 4],
 .seq (.region 0 [oP 4 (.move (.c (.int .i64 0)))])
 (.seq (.seq (.region 0 [oP 6 (.move (.t 0)),
 oP 7 (.move (.t 1)),
 oQ 8 (.call 1 123 [(.t 6), (.t 7)]),
 oP 5 (.move (.t 8))])
 (.seq (.region 0 [oP 9 (.move (.t 5)),
 oP 10 (.bin .neq (.t 9) (.c (.int .i64 0)))])
 (.cond (.t 10) (.seq (.region 0 [oP 11 (.move (.t 5)),
 oP 4 (.move (.t 11))])
 (.ret))
 (.skip))))
 (.seq (.seq (.region 0 [oP 12 (.move (.t 0)),
 oQ 13 (.call 1 34 [(.t 12)]),
 oP 14 (.un .not (.t 13))])
 (.cond (.t 14) (.seq (.region 0 [oP 4 (.move (.c (.int .i64 3)))])
 (.ret))
 (.skip)))
 (.seq (.region 0 [oP 4 (.move (.c (.int .i64 0)))])
 (.ret))))⟩
/-- almadraba/almadrabaref07.valued -/
def f94 : AFn := ⟨61, [.cell true 2 4],
 .seq (.region 0 [oQ 4 (.alloc [.int .i64 0, .int .i64 0])])
 (.seq (.region 0 [oP 9 (.move (.t 0)),
 oQ 10 (.call 0 80 [(.t 9)]),
 oP 11 (.move (.t 0)),
 oQ 12 (.call 0 80 [(.t 11)]),
 oP 5 (.move (.t 10)),
 oP 6 (.move (.t 12))])
 (.seq (.seq (.region 0 [oP 7 (.move (.c (.int .i64 0)))])
 (.block 0 (.loop (.seq (.seq (.region 0 [oP 13 (.move (.t 7)),
 oP 14 (.move (.t 0)),
 oP 15 (.lenS (.t 14)),
 oP 16 (.bin .lss (.t 13) (.t 15))])
 (.cond (.t 16) (.skip)
 (.exit 0)))
 (.seq (.block 1 (.seq (.region 0 [oP 8 (.move (.c (.int .i64 0)))])
 (.block 2 (.loop (.seq (.seq (.region 0 [oP 19 (.move (.t 8)),
 oP 20 (.bin .leq (.t 19) (.c (.int .i64 30)))])
 (.cond (.t 20) (.skip)
 (.exit 2)))
 (.seq (.block 3 (.seq (.region 0 [oP 23 (.move (.t 5)),
 oP 24 (.move (.t 7)),
 oP 25 (.idxSl 1 (.t 23) (.t 24)),
 oQ 26 (.load false 1 (.t 25)),
 oP 27 (.move (.t 8)),
 oP 28 (.idxSl 1 (.t 26) (.t 27)),
 oQ 29 (.load false 1 (.t 28)),
 oP 30 (.move (.t 1)),
 oP 31 (.move (.t 7)),
 oP 32 (.idxSl 1 (.t 30) (.t 31)),
 oQ 33 (.load false 1 (.t 32)),
 oP 34 (.move (.t 8)),
 oP 35 (.bin .mul (.t 33) (.t 34)),
 oP 36 (.bin .add (.t 29) (.t 35)),
 oP 37 (.idxSl 1 (.t 26) (.t 27)),
 ⟨none, .store 1 (.t 37) (.t 36), none, none, []⟩])
 (.region 0 [oP 38 (.move (.t 6)),
 oP 39 (.move (.t 7)),
 oP 40 (.idxSl 1 (.t 38) (.t 39)),
 oQ 41 (.load false 1 (.t 40)),
 oP 42 (.move (.t 8)),
 oP 43 (.idxSl 1 (.t 41) (.t 42)),
 oQ 44 (.load false 1 (.t 43)),
 oP 45 (.move (.t 1)),
 oP 46 (.move (.t 7)),
 oP 47 (.idxSl 1 (.t 45) (.t 46)),
 oQ 48 (.load false 1 (.t 47)),
 oP 49 (.move (.t 8)),
 oP 50 (.bin .mul (.t 48) (.t 49)),
 oP 51 (.bin .sub (.t 44) (.t 50)),
 oP 52 (.idxSl 1 (.t 41) (.t 42)),
 ⟨none, .store 1 (.t 52) (.t 51), none, none, []⟩])))
 (.region 0 [oP 21 (.move (.t 8)),
 oP 22 (.bin .add (.t 21) (.c (.int .i64 1))),
 oP 8 (.move (.t 22))])))))))
 (.region 0 [oP 17 (.move (.t 7)),
 oP 18 (.bin .add (.t 17) (.c (.int .i64 1))),
 oP 7 (.move (.t 18))]))))))
 (.seq (.region 0 [oP 53 (.move (.t 0)),
 oP 54 (.move (.t 5)),
 oQ 55 (.call 1 79 [(.t 53), (.t 54)]),
 oP 56 (.move (.t 0)),
 oP 57 (.move (.t 6)),
 oQ 58 (.call 1 79 [(.t 56), (.t 57)]),
 oP 59 (.un .neg (.t 58)),
 oP 60 (.build [.int .i64 0, .int .i64 0] [(0, 1, (.t 55)), (1, 1, (.t 59))]),
 ⟨none, .store 2 (.t 4) (.t 60), none, none, []⟩])
 (.ret))))⟩
/-- almadraba/almadrabaref07.parted -/
def f95 : AFn := ⟨18, [.tmp 4],
 .seq (.region 0 [oP 4 (.move (.c (.int .i64 0)))])
 (.seq (.seq (.region 0 [oP 6 (.move (.t 0)),
 oP 7 (.move (.t 1)),
 oQ 8 (.call 1 123 [(.t 6), (.t 7)]),
 oP 5 (.move (.t 8))])
 (.seq (.region 0 [oP 9 (.move (.t 5)),
 oP 10 (.bin .neq (.t 9) (.c (.int .i64 0)))])
 (.cond (.t 10) (.seq (.region 0 [oP 11 (.move (.t 5)),
 oP 4 (.move (.t 11))])
 (.ret))
 (.skip))))
 (.seq (.seq (.region 0 [oP 12 (.move (.t 0)),
 oP 13 (.move (.t 0)),
 oQ 14 (.call 1 96 [(.t 13)]),
 oQ 15 (.call 1 79 [(.t 12), (.t 14)]),
 oQ 16 (.call 1 78 [(.t 15)]),
 oP 17 (.un .not (.t 16))])
 (.cond (.t 17) (.seq (.region 0 [oP 4 (.move (.c (.int .i64 3)))])
 (.ret))
 (.skip)))
 (.seq (.region 0 [oP 4 (.move (.c (.int .i64 0)))])
 (.ret))))⟩
/-- almadraba/almadrabaref07.changes -/
def f96 : AFn := ⟨32, [.tmp 2],
 .seq (.region 0 [oP 2 (.move (.c (.nils)))])
 (.seq (.region 0 [oP 6 (.move (.t 0)),
 oQ 7 (.call 0 116 [(.t 6)]),
 oP 3 (.move (.t 7))])
 (.seq (.seq (.region 0 [oP 4 (.move (.c (.int .i64 0)))])
 (.block 0 (.loop (.seq (.seq (.region 0 [oP 8 (.move (.t 4)),
 oP 9 (.move (.t 0)),
 oP 10 (.lenS (.t 9)),
 oP 11 (.bin .lss (.t 8) (.t 10))])
 (.cond (.t 11) (.skip)
 (.exit 0)))
 (.seq (.block 1 (.seq (.region 0 [oP 5 (.move (.c (.int .i64 0)))])
 (.block 2 (.loop (.seq (.seq (.region 0 [oP 14 (.move (.t 5)),
 oP 15 (.bin .leq (.t 14) (.c (.int .i64 30)))])
 (.cond (.t 15) (.skip)
 (.exit 2)))
 (.seq (.block 3 (.region 0 [oP 18 (.move (.t 3)),
 oP 19 (.move (.t 4)),
 oP 20 (.idxSl 1 (.t 18) (.t 19)),
 oQ 21 (.load false 1 (.t 20)),
 oP 22 (.move (.t 5)),
 oP 23 (.move (.t 0)),
 oP 24 (.move (.t 4)),
 oP 25 (.idxSl 6 (.t 23) (.t 24)),
 oP 26 (.fieldAddr 1 (.t 25)),
 oQ 27 (.load true 2 (.t 26)),
 oP 28 (.move (.t 5)),
 oQ 29 (.call 1 82 [(.t 27), (.t 28)]),
 oP 30 (.idxSl 1 (.t 21) (.t 22)),
 ⟨none, .store 1 (.t 30) (.t 29), none, none, []⟩]))
 (.region 0 [oP 16 (.move (.t 5)),
 oP 17 (.bin .add (.t 16) (.c (.int .i64 1))),
 oP 5 (.move (.t 17))])))))))
 (.region 0 [oP 12 (.move (.t 4)),
 oP 13 (.bin .add (.t 12) (.c (.int .i64 1))),
 oP 4 (.move (.t 13))]))))))
 (.seq (.region 0 [oP 31 (.move (.t 3)),
 oP 2 (.move (.t 31))])
 (.ret))))⟩
/-- almadraba/almadrabaref07.none -/
def f97 : AFn := ⟨14, [.tmp 0],
 .seq (.region 0 [oP 0 (.move (.c (.nils)))])
 (.seq (.region 0 [oQ 3 (.makeSlice false 1 8 [.int .i64 0] (.c (.int .i64 31)) (.c (.int .i64 31))),
 oP 1 (.move (.t 3))])
 (.seq (.seq (.region 0 [oP 2 (.move (.c (.int .i64 0)))])
 (.block 0 (.loop (.seq (.seq (.region 0 [oP 4 (.move (.t 2)),
 oP 5 (.move (.t 1)),
 oP 6 (.lenS (.t 5)),
 oP 7 (.bin .lss (.t 4) (.t 6))])
 (.cond (.t 7) (.skip)
 (.exit 0)))
 (.seq (.block 1 (.region 0 [oP 10 (.move (.t 1)),
 oP 11 (.move (.t 2)),
 oP 12 (.idxSl 1 (.t 10) (.t 11)),
 ⟨none, .store 1 (.t 12) (.c (.int .i64 1099511627776)), none, none, []⟩]))
 (.region 0 [oP 8 (.move (.t 2)),
 oP 9 (.bin .add (.t 8) (.c (.int .i64 1))),
 oP 2 (.move (.t 9))]))))))
 (.seq (.region 0 [oP 13 (.move (.t 1)),
 oP 0 (.move (.t 13))])
 (.ret))))⟩
/-- almadraba/almadrabaref07.best -/
def f99 : AFn := ⟨57, [.tmp 2, .tmp 3],
 .seq (.region 0 [oP 2 (.move (.c (.nils))),
 oP 3 (.move (.c (.int .i64 0)))])
 (.seq (.region 0 [oP 4 (.move (.c (.nils)))])
 (.seq (.region 0 [oP 10 (.move (.t 0)),
 oP 11 (.move (.t 0)),
 oQ 12 (.call 1 75 [(.t 11), (.c (.nils))]),
 oQ 13 (.call 1 94 [(.t 10), (.t 12)]),
 oP 14 (.field false 0 1 (.t 13)),
 oP 5 (.move (.t 14))])
 (.seq (.seq (.region 0 [oP 6 (.move (.c (.int .i64 1)))])
 (.block 0 (.loop (.seq (.seq (.region 0 [oP 15 (.move (.t 6)),
 oP 16 (.move (.t 0)),
 oP 17 (.lenS (.t 16)),
 oP 18 (.bin .leq (.t 15) (.t 17))])
 (.cond (.t 18) (.skip)
 (.exit 0)))
 (.seq (.block 1 (.seq (.region 0 [oP 21 (.move (.t 6)),
 oP 22 (.move (.t 0)),
 oP 23 (.lenS (.t 22)),
 oQ 24 (.call 1 124 [(.c (.nils)), (.t 21), (.t 23)]),
 oP 7 (.move (.t 24))])
 (.seq (.region 0 [oP 8 (.move (.c (.int .i64 0)))])
 (.block 2 (.loop (.seq (.seq (.region 0 [oP 25 (.move (.t 8)),
 oP 26 (.move (.t 7)),
 oP 27 (.lenS (.t 26)),
 oP 28 (.bin .lss (.t 25) (.t 27))])
 (.cond (.t 28) (.skip)
 (.exit 2)))
 (.seq (.block 3 (.seq (.seq (.region 0 [oP 31 (.move (.t 0)),
 oP 32 (.move (.t 7)),
 oP 33 (.move (.t 8)),
 oP 34 (.idxSl 1 (.t 32) (.t 33)),
 oQ 35 (.load false 1 (.t 34)),
 oQ 36 (.call 1 47 [(.t 31), (.t 35)]),
 oP 37 (.un .not (.t 36))])
 (.cond (.t 37) (.exit 3)
 (.skip)))
 (.seq (.region 0 [oP 38 (.move (.t 0)),
 oP 39 (.move (.t 0)),
 oP 40 (.move (.t 7)),
 oP 41 (.move (.t 8)),
 oP 42 (.idxSl 1 (.t 40) (.t 41)),
 oQ 43 (.load false 1 (.t 42)),
 oQ 44 (.call 1 75 [(.t 39), (.t 43)]),
 oQ 45 (.call 1 94 [(.t 38), (.t 44)]),
 oP 46 (.field false 0 1 (.t 45)),
 oP 9 (.move (.t 46))])
 (.seq (.region 0 [oP 47 (.move (.t 9)),
 oP 48 (.move (.t 5)),
 oP 49 (.bin .gtr (.t 47) (.t 48))])
 (.cond (.t 49) (.region 0 [oP 50 (.move (.t 7)),
 oP 51 (.move (.t 8)),
 oP 52 (.idxSl 1 (.t 50) (.t 51)),
 oQ 53 (.load false 1 (.t 52)),
 oP 54 (.move (.t 9)),
 oP 4 (.move (.t 53)),
 oP 5 (.move (.t 54))])
 (.skip))))))
 (.region 0 [oP 29 (.move (.t 8)),
 oP 30 (.bin .add (.t 29) (.c (.int .i64 1))),
 oP 8 (.move (.t 30))]))))))))
 (.region 0 [oP 19 (.move (.t 6)),
 oP 20 (.bin .add (.t 19) (.c (.int .i64 1))),
 oP 6 (.move (.t 20))]))))))
 (.seq (.region 0 [oP 55 (.move (.t 4)),
 oP 56 (.move (.t 5)),
 oP 2 (.move (.t 55)),
 oP 3 (.move (.t 56))])
 (.ret)))))⟩
/-- almadraba/almadrabaref07.Dearer -/
def f100 : AFn := ⟨22, [.tmp 4],
 .seq (.region 0 [oP 4 (.move (.c (.nils)))])
 (.seq (.region 0 [oP 7 (.move (.t 0)),
 oQ 8 (.call 2 42 [(.t 7)]),
 oP 5 (.move (.t 8))])
 (.seq (.region 0 [oP 9 (.move (.t 5)),
 oP 10 (.move (.t 1)),
 oP 11 (.idxSl 6 (.t 9) (.t 10)),
 oQ 12 (.load true 6 (.t 11)),
 oQ 6 (.alloc [.int .i64 0, .int .i64 0, .int .i64 0, .int .i64 0, .int .i64 0, .int .i64 0]),
 ⟨none, .store 6 (.t 6) (.t 12), none, none, []⟩])
 (.seq (.region 0 [oP 13 (.fieldAddr 5 (.t 6)),
 oQ 14 (.load false 1 (.t 13)),
 oP 15 (.bin .add (.t 14) (.c (.int .i64 1))),
 oP 16 (.fieldAddr 5 (.t 6)),
 ⟨none, .store 1 (.t 16) (.t 15), none, none, []⟩])
 (.seq (.region 0 [oP 17 (.move (.t 5)),
 oP 18 (.move (.t 1)),
 oQ 19 (.load true 6 (.t 6)),
 oP 20 (.idxSl 6 (.t 17) (.t 18)),
 ⟨none, .store 6 (.t 20) (.t 19), none, none, []⟩])
 (.seq (.region 0 [oP 21 (.move (.t 5)),
 oP 4 (.move (.t 21))])
 (.ret))))))⟩
/-- almadraba/almadrabalaw07.part -/
def f101 : AFn := ⟨22, [.cell true 6 12],
 .seq (.region 0 [oQ 12 (.alloc [.int .i64 0, .int .i64 0, .int .i64 0, .int .i64 0, .int .i64 0, .int .i64 0])])
 (.seq (.region 0 [oP 13 (.move (.t 0)),
 oP 14 (.move (.t 1)),
 oP 15 (.move (.t 2)),
 oP 16 (.build [.int .i64 0, .int .i64 0] [(0, 1, (.t 14)), (1, 1, (.t 15))]),
 oP 17 (.move (.t 3)),
 oP 18 (.move (.t 4)),
 oP 19 (.build [.int .i64 0, .int .i64 0] [(0, 1, (.t 17)), (1, 1, (.t 18))]),
 oP 20 (.move (.t 5)),
 oP 21 (.build [.int .i64 0, .int .i64 0, .int .i64 0, .int .i64 0, .int .i64 0, .int .i64 0] [(0, 1, (.t 13)), (1, 2, (.t 16)), (3, 2, (.t 19)), (5, 1, (.t 20))]),
 ⟨none, .store 6 (.t 12) (.t 21), none, none, []⟩])
 (.ret))⟩
/-- (almadraba/cuts.table).least -/
def f102 : AFn := ⟨50, [.tmp 4],
 .seq (.region 0 [oQ 3 (.box (.t 1)),
 oP 4 (.move (.c (.int .i64 0)))])
 (.seq (.region 0 [oQ 5 (.alloc [.int .i64 0, .int .i64 0, .int .i64 0, .int .i64 0, .int .i64 0, .int .i64 0, .int .i64 0, .int .i64 0, .int .i64 0, .int .i64 0, .int .i64 0, .int .i64 0, .int .i64 0, .int .i64 0, .int .i64 0, .int .i64 0, .int .i64 0, .int .i64 0, .int .i64 0, .int .i64 0, .int .i64 0, .int .i64 0, .int .i64 0, .int .i64 0, .int .i64 0, .int .i64 0, .int .i64 0, .int .i64 0, .int .i64 0, .int .i64 0, .int .i64 0, .int .i64 0, .int .i64 0, .int .i64 0, .int .i64 0, .int .i64 0, .int .i64 0, .int .i64 0, .int .i64 0, .int .i64 0, .int .i64 0, .int .i64 0, .int .i64 0, .int .i64 0, .int .i64 0, .int .i64 0, .int .i64 0, .int .i64 0, .int .i64 0, .int .i64 0, .int .i64 0, .int .i64 0, .int .i64 0, .int .i64 0, .int .i64 0, .int .i64 0, .int .i64 0, .int .i64 0, .int .i64 0, .int .i64 0, .int .i64 0, .int .i64 0, .int .i64 0, .int .i64 0, .int .i64 0, .int .i64 0, .int .i64 0, .int .i64 0, .int .i64 0, .int .i64 0, .int .i64 0, .int .i64 0, .int .i64 0, .int .i64 0, .int .i64 0, .int .i64 0, .int .i64 0, .int .i64 0, .int .i64 0, .int .i64 0, .int .i64 0, .int .i64 0, .int .i64 0, .int .i64 0, .int .i64 0, .int .i64 0, .int .i64 0, .int .i64 0, .int .i64 0, .int .i64 0, .int .i64 0, .int .i64 0, .int .i64 0, .int .i64 0, .int .i64 0, .int .i64 0, .int .i64 0, .int .i64 0, .int .i64 0, .int .i64 0, .int .i64 0, .int .i64 0, .int .i64 0, .int .i64 0, .int .i64 0, .int .i64 0, .int .i64 0, .int .i64 0, .int .i64 0, .int .i64 0, .int .i64 0, .int .i64 0, .int .i64 0, .int .i64 0, .int .i64 0, .int .i64 0, .int .i64 0, .int .i64 0, .int .i64 0, .int .i64 0, .int .i64 0, .int .i64 0, .int .i64 0, .int .i64 0, .int .i64 0, .int .i64 0, .int .i64 0, .int .i64 0, .int .i64 0, .int .i64 0, .int .i64 0, .int .i64 0, .int .i64 0, .int .i64 0, .int .i64 0, .int .i64 0, .int .i64 0, .int .i64 0, .int .i64 0, .int .i64 0, .int .i64 0, .int .i64 0, .int .i64 0, .int .i64 0, .int .i64 0, .int .i64 0, .int .i64 0, .int .i64 0, .int .i64 0, .int .i64 0, .int .i64 0, .int .i64 0, .int .i64 0, .int .i64 0, .int .i64 0, .int .i64 0, .int .i64 0, .int .i64 0, .int .i64 0, .int .i64 0, .int .i64 0, .int .i64 0, .int .i64 0, .int .i64 0, .int .i64 0, .int .i64 0, .int .i64 0, .int .i64 0, .int .i64 0, .int .i64 0, .int .i64 0, .int .i64 0, .int .i64 0, .int .i64 0, .int .i64 0, .int .i64 0, .int .i64 0, .int .i64 0, .int .i64 0, .int .i64 0, .int .i64 0, .int .i64 0, .int .i64 0, .int .i64 0, .int .i64 0, .int .i64 0, .int .i64 0, .int .i64 0, .int .i64 0, .int .i64 0, .int .i64 0, .int .i64 0, .int .i64 0, .int .i64 0, .int .i64 0, .int .i64 0, .int .i64 0, .int .i64 0, .int .i64 0, .int .i64 0, .int .i64 0, .int .i64 0, .int .i64 0, .int .i64 0, .int .i64 0, .int .i64 0, .int .i64 0, .int .i64 0, .int .i64 0, .int .i64 0, .int .i64 0, .int .i64 0, .int .i64 0, .int .i64 0, .int .i64 0, .int .i64 0, .int .i64 0, .int .i64 0, .int .i64 0, .int .i64 0, .int .i64 0, .int .i64 0, .int .i64 0, .int .i64 0, .int .i64 0, .int .i64 0, .int .i64 0, .int .i64 0, .int .i64 0, .int .i64 0, .int .i64 0, .int .i64 0, .int .i64 0, .int .i64 0, .int .i64 0, .int .i64 0, .int .i64 0, .int .i64 0, .int .i64 0, .int .i64 0, .int .i64 0, .int .i64 0, .int .i64 0, .int .i64 0, .int .i64 0, .int .i64 0, .int .i64 0, .int .i64 0])])
 (.seq (.seq (.region 0 [oP 11 (.move (.t 0)),
 oP 12 (.lenS (.t 11)),
 oP 13 (.move (.c (.int .i64 0)))])
 (.block 0 (.loop (.seq (.region 0 [oP 14 (.bin .lss (.t 13) (.t 12))])
 (.seq (.cond (.t 14) (.skip)
 (.exit 0))
 (.seq (.block 1 (.seq (.region 0 [oP 15 (.move (.t 13)),
 oP 6 (.move (.t 15))])
 (.region 0 [oP 16 (.move (.t 6)),
 oP 17 (.move (.t 0)),
 oP 18 (.move (.t 6)),
 oQ 19 (.call 1 107 [(.t 17), (.t 18)]),
 oQ 20 (.call 1 125 [(.t 19)]),
 oP 21 (.idxArr 8 31 (.t 5) (.t 16)),
 ⟨none, .store 31 (.t 21) (.t 20), none, none, []⟩])))
 (.region 0 [oP 22 (.bin .add (.t 13) (.c (.int .i64 1))),
 oP 13 (.move (.t 22))])))))))
 (.seq (.region 0 [oQ 7 (.alloc [.int .i64 0]),
 ⟨none, .store 1 (.t 7) (.c (.int .i64 0)), none, none, []⟩])
 (.seq (.seq (.region 0 [oP 23 (.move (.t 0)),
 oQ 24 (.call 0 126 [(.t 23)])])
 (.block 2 (.rangeFunc (.t 24) [25, 26] (.seq (.region 0 [oP 8 (.move (.t 25))])
 (.region 0 [oQ 9 (.alloc [.int .i64 0, .int .i64 0, .int .i64 0, .int .i64 0, .int .i64 0, .int .i64 0]),
 ⟨none, .store 6 (.t 9) (.t 26), none, none, []⟩]))
 (.block 3 (.seq (.region 1 [oP 27 (.move (.t 8)),
 oP 28 (.idxArr 8 31 (.t 5) (.t 27)),
 ⟨(some 29), .load true 31 (.t 28), none, none, [0]⟩,
 oP 30 (.move (.t 8)),
 ⟨(some 31), .load false 1 (.t 3), none, none, [0]⟩,
 ⟨(some 32), .call 3 127 [(.t 29), (.t 30), (.t 31)], none, none, [0]⟩,
 ⟨(some 10), .alloc [.int .i64 0, .int .i64 0, .int .i64 0, .int .i64 0, .int .i64 0, .int .i64 0, .int .i64 0, .int .i64 0, .int .i64 0, .int .i64 0, .int .i64 0, .int .i64 0, .int .i64 0, .int .i64 0, .int .i64 0, .int .i64 0, .int .i64 0, .int .i64 0, .int .i64 0, .int .i64 0, .int .i64 0, .int .i64 0, .int .i64 0, .int .i64 0, .int .i64 0, .int .i64 0, .int .i64 0, .int .i64 0, .int .i64 0, .int .i64 0, .int .i64 0], none, (some 0), []⟩,
 ⟨none, .store 31 (.t 10) (.t 32), none, (some 0), []⟩])
 (.seq (.region 0 [oP 33 (.fieldAddr 0 (.t 9)),
 oQ 34 (.load false 1 (.t 33)),
 oP 35 (.bin .eql (.t 34) (.c (.int .i64 (-1))))])
 (.cond (.t 35) (.region 0 [oQ 36 (.load false 1 (.t 7)),
 oQ 37 (.sliceA 31 1 (.t 10) none),
 oQ 38 (.call 1 129 [(.t 37)]),
 oQ 39 (.call 1 128 [(.t 36), (.t 38)]),
 ⟨none, .store 1 (.t 7) (.t 39), none, none, []⟩])
 (.region 0 [oP 40 (.fieldAddr 0 (.t 9)),
 oQ 41 (.load false 1 (.t 40)),
 oP 42 (.fieldAddr 0 (.t 9)),
 oQ 43 (.load false 1 (.t 42)),
 oP 44 (.idxArr 8 31 (.t 5) (.t 43)),
 oQ 45 (.load true 31 (.t 44)),
 oQ 46 (.load true 31 (.t 10)),
 oQ 47 (.call 1 130 [(.t 45), (.t 46)]),
 oP 48 (.idxArr 8 31 (.t 5) (.t 41)),
 ⟨none, .store 31 (.t 48) (.t 47), none, none, []⟩]))))))))
 (.seq (.region 0 [oQ 49 (.load false 1 (.t 7)),
 oP 4 (.move (.t 49))])
 (.ret))))))⟩
/-- (almadraba/cuts.table).truths -/
def f103 : AFn := ⟨6, [.tmp 4],
 .seq (.region 0 [oQ 2 (.box (.t 0)),
 oQ 3 (.box (.t 1)),
 oP 4 (.move (.c (.nilf)))])
 (.seq (.region 0 [oP 5 (.mkFn 131 [] [(.t 2), (.t 3)]),
 oP 4 (.move (.t 5))])
 (.ret))⟩
/-- (almadraba/cuts.rates).cost -/
def f104 : AFn := ⟨12, [.tmp 6],
 .seq (.region 0 [oQ 3 (.box (.t 0)),
 oP 6 (.move (.c (.int .i64 0)))])
 (.seq (.region 0 [oP 7 (.move (.t 1)),
 oP 8 (.idxArr 8 1 (.t 3) (.t 7)),
 oQ 9 (.load false 1 (.t 8)),
 oP 10 (.move (.t 2)),
 oP 11 (.bin .mul (.t 9) (.t 10)),
 oP 6 (.move (.t 11))])
 (.ret))⟩
/-- almadraba/cuts.within -/
def f106 : AFn := ⟨15, [.tmp 4],
 .seq (.region 0 [oQ 2 (.box (.t 0)),
 oP 4 (.move (.c (.bool false)))])
 (.seq (.region 0 [oP 5 (.fieldAddr 0 (.t 2)),
 oQ 6 (.load false 1 (.t 5)),
 oP 7 (.move (.t 1)),
 oP 8 (.bin .leq (.t 6) (.t 7)),
 oP 9 (.move (.t 8)),
 oG 10 9 true (.move (.t 1)),
 oG 11 9 true (.fieldAddr 1 (.t 2)),
 ⟨(some 12), .load false 1 (.t 11), (some (9, true)), none, []⟩,
 oG 13 9 true (.bin .leq (.t 10) (.t 12)),
 oP 14 (.pick (.t 9) (.t 13) (.c (.bool false))),
 oP 4 (.move (.t 14))])
 (.ret))⟩
/-- (almadraba/cuts.table).waste -/
def f107 : AFn := ⟨14, [.cell true 2 4],
 .seq (.region 0 [oQ 4 (.alloc [.int .i64 0, .int .i64 0])])
 (.seq (.seq (.region 0 [oP 5 (.move (.t 0)),
 oP 6 (.move (.t 1)),
 oQ 7 (.call 1 70 [(.t 5), (.t 6)])])
 (.cond (.t 7) (.seq (.region 0 [oP 8 (.move (.t 0)),
 oP 9 (.move (.t 1)),
 oP 10 (.idxSl 6 (.t 8) (.t 9)),
 oP 11 (.fieldAddr 3 (.t 10)),
 oQ 12 (.load true 2 (.t 11)),
 ⟨none, .store 2 (.t 4) (.t 12), none, none, []⟩])
 (.ret))
 (.skip)))
 (.seq (.region 0 [oP 13 (.build [.int .i64 0, .int .i64 0] [(1, 1, (.c (.int .i64 30)))]),
 ⟨none, .store 2 (.t 4) (.t 13), none, none, []⟩])
 (.ret)))⟩
/-- (almadraba/cuts.table).has -/
def f108 : AFn := ⟨13, [.tmp 4],
 .seq (.region 0 [oP 4 (.move (.c (.bool false)))])
 (.seq (.region 0 [oP 5 (.move (.t 1)),
 oP 6 (.bin .leq (.c (.int .i64 0)) (.t 5)),
 oP 7 (.move (.t 6)),
 oG 8 7 true (.move (.t 1)),
 oG 9 7 true (.move (.t 0)),
 oG 10 7 true (.lenS (.t 9)),
 oG 11 7 true (.bin .lss (.t 8) (.t 10)),
 oP 12 (.pick (.t 7) (.t 11) (.c (.bool false))),
 oP 4 (.move (.t 12))])
 (.ret))⟩
/-- slices.ContainsFunc[almadraba/cuts.table,almadraba/api.CutPart] -/
def f109 : AFn := ⟨9, [.tmp 4],
 .seq (.region 0 [oP 4 (.move (.c (.bool false)))])
 (.seq (.region 0 [oP 5 (.move (.t 0)),
 oP 6 (.move (.t 1)),
 oQ 7 (.call 3 132 [(.t 5), (.t 6)]),
 oP 8 (.bin .geq (.t 7) (.c (.int .i64 0))),
 oP 4 (.move (.t 8))])
 (.ret))⟩
/-- (almadraba/cuts.table).canCut$1 -/
def f110 : AFn := ⟨8, [.tmp 3],
 .seq (.region 0 [oQ 2 (.box (.t 0)),
 oP 3 (.move (.c (.bool false)))])
 (.seq (.region 0 [oP 4 (.fieldAddr 0 (.t 2)),
 oQ 5 (.load false 1 (.t 4)),
 oQ 6 (.load false 1 (.t 1)),
 oP 7 (.bin .eql (.t 5) (.t 6)),
 oP 3 (.move (.t 7))])
 (.ret))⟩
/-- (almadraba/cuts.table).isCut -/
def f111 : AFn := ⟨41, [.tmp 4],
 .seq (.region 0 [oP 4 (.move (.c (.bool false)))])
 (.seq (.seq (.region 0 [oP 7 (.move (.t 1)),
 oP 8 (.lenS (.t 7)),
 oP 9 (.move (.c (.int .i64 0)))])
 (.block 0 (.loop (.seq (.region 0 [oP 10 (.bin .lss (.t 9) (.t 8))])
 (.seq (.cond (.t 10) (.skip)
 (.exit 0))
 (.seq (.block 1 (.seq (.region 0 [oP 11 (.move (.t 9)),
 oP 12 (.idxSl 1 (.t 7) (.t 9)),
 oQ 13 (.load false 1 (.t 12)),
 oP 5 (.move (.t 11)),
 oP 6 (.move (.t 13))])
 (.seq (.region 0 [oP 14 (.move (.t 0)),
 oP 15 (.move (.t 6)),
 oQ 16 (.call 1 108 [(.t 14), (.t 15)]),
 oP 17 (.un .not (.t 16)),
 oP 18 (.move (.t 17)),
 oG 19 18 false (.move (.t 5)),
 oG 20 18 false (.bin .gtr (.t 19) (.c (.int .i64 0))),
 oG 21 18 false (.move (.t 20)),
 oG 22 21 true (.move (.t 6)),
 oG 23 21 true (.move (.t 1)),
 oG 24 21 true (.move (.t 5)),
 oG 25 21 true (.bin .sub (.t 24) (.c (.int .i64 1))),
 oG 26 21 true (.idxSl 1 (.t 23) (.t 25)),
 ⟨(some 27), .load false 1 (.t 26), (some (21, true)), none, []⟩,
 oG 28 21 true (.bin .leq (.t 22) (.t 27)),
 oG 29 18 false (.pick (.t 21) (.t 28) (.c (.bool false))),
 oP 30 (.pick (.t 18) (.c (.bool true)) (.t 29)),
 oP 31 (.move (.t 30)),
 oG 32 31 false (.move (.t 0)),
 oG 33 31 false (.move (.t 6)),
 oG 34 31 false (.move (.t 1)),
 oG 35 31 false (.move (.t 5)),
 oG 36 31 false (.slice 1 (.t 34) none (some (.t 35))),
 ⟨(some 37), .call 1 133 [(.t 32), (.t 33), (.t 36)], (some (31, false)), none, []⟩,
 oG 38 31 false (.un .not (.t 37)),
 oP 39 (.pick (.t 31) (.c (.bool true)) (.t 38))])
 (.cond (.t 39) (.seq (.region 0 [oP 4 (.move (.c (.bool false)))])
 (.ret))
 (.skip)))))
 (.region 0 [oP 40 (.bin .add (.t 9) (.c (.int .i64 1))),
 oP 9 (.move (.t 40))])))))))
 (.seq (.region 0 [oP 4 (.move (.c (.bool true)))])
 (.ret)))⟩
/-- (almadraba/cuts.table).there -/
def f112 : AFn := ⟨20, [.tmp 6],
 .seq (.region 0 [oP 6 (.move (.c (.bool false)))])
 (.seq (.region 0 [oP 8 (.move (.t 0)),
 oP 9 (.move (.t 1)),
 oP 10 (.idxSl 6 (.t 8) (.t 9)),
 oP 11 (.fieldAddr 0 (.t 10)),
 oQ 12 (.load false 1 (.t 11)),
 oP 7 (.move (.t 12))])
 (.seq (.region 0 [oP 13 (.move (.t 7)),
 oP 14 (.bin .eql (.t 13) (.c (.int .i64 (-1)))),
 oP 15 (.move (.t 14)),
 oG 16 15 false (.move (.t 2)),
 oG 17 15 false (.move (.t 7)),
 ⟨(some 18), .call 1 113 [(.t 16), (.t 17)], (some (15, false)), none, []⟩,
 oP 19 (.pick (.t 15) (.c (.bool true)) (.t 18)),
 oP 6 (.move (.t 19))])
 (.ret)))⟩
/-- slices.Contains[[]int,int] -/
def f113 : AFn := ⟨9, [.tmp 4],
 .seq (.region 0 [oP 4 (.move (.c (.bool false)))])
 (.seq (.region 0 [oP 5 (.move (.t 0)),
 oP 6 (.move (.t 1)),
 oQ 7 (.call 1 134 [(.t 5), (.t 6)]),
 oP 8 (.bin .geq (.t 7) (.c (.int .i64 0))),
 oP 4 (.move (.t 8))])
 (.ret))⟩
/-- almadraba/almadrabaref07.IsSold -/
def f114 : AFn := ⟨26, [.tmp 6],
 .seq (.region 0 [oP 6 (.move (.c (.bool false)))])
 (.seq (.region 0 [oP 8 (.move (.t 0)),
 oP 9 (.move (.t 2)),
 oP 10 (.idxSl 6 (.t 8) (.t 9)),
 oP 11 (.fieldAddr 0 (.t 10)),
 oQ 12 (.load false 1 (.t 11)),
 oP 7 (.move (.t 12))])
 (.seq (.region 0 [oP 13 (.move (.t 1)),
 oP 14 (.move (.t 2)),
 oQ 15 (.call 1 87 [(.t 13), (.t 14)]),
 oP 16 (.un .not (.t 15)),
 oP 17 (.move (.t 16)),
 oG 18 17 true (.move (.t 7)),
 oG 19 17 true (.bin .eql (.t 18) (.c (.int .i64 (-1)))),
 oG 20 17 true (.move (.t 19)),
 oG 21 20 false (.move (.t 1)),
 oG 22 20 false (.move (.t 7)),
 ⟨(some 23), .call 1 87 [(.t 21), (.t 22)], (some (20, false)), none, []⟩,
 oG 24 17 true (.pick (.t 20) (.c (.bool true)) (.t 23)),
 oP 25 (.pick (.t 17) (.t 24) (.c (.bool false))),
 oP 6 (.move (.t 25))])
 (.ret)))⟩
/-- almadraba/almadrabaref07.together -/
def f115 : AFn := ⟨45, [.tmp 4],
 .seq (.region 0 [oP 4 (.move (.c (.nils)))])
 (.seq (.region 0 [oQ 8 (.call 0 97 []),
 oP 5 (.move (.t 8))])
 (.seq (.seq (.region 0 [oP 6 (.move (.c (.int .i64 0)))])
 (.block 0 (.loop (.seq (.seq (.region 0 [oP 9 (.move (.t 6)),
 oP 10 (.move (.t 0)),
 oP 11 (.lenS (.t 10)),
 oP 12 (.bin .lss (.t 9) (.t 11))])
 (.cond (.t 12) (.skip)
 (.exit 0)))
 (.seq (.block 1 (.seq (.region 0 [oP 7 (.move (.c (.int .i64 0)))])
 (.block 2 (.loop (.seq (.seq (.region 0 [oP 15 (.move (.t 6)),
 oP 16 (.move (.t 7)),
 oP 17 (.bin .add (.t 15) (.t 16)),
 oP 18 (.move (.t 5)),
 oP 19 (.lenS (.t 18)),
 oP 20 (.bin .lss (.t 17) (.t 19))])
 (.cond (.t 20) (.skip)
 (.exit 2)))
 (.seq (.block 3 (.region 0 [oP 23 (.move (.t 5)),
 oP 24 (.move (.t 6)),
 oP 25 (.move (.t 7)),
 oP 26 (.bin .add (.t 24) (.t 25)),
 oP 27 (.move (.t 5)),
 oP 28 (.move (.t 6)),
 oP 29 (.move (.t 7)),
 oP 30 (.bin .add (.t 28) (.t 29)),
 oP 31 (.idxSl 1 (.t 27) (.t 30)),
 oQ 32 (.load false 1 (.t 31)),
 oP 33 (.move (.t 0)),
 oP 34 (.move (.t 6)),
 oP 35 (.idxSl 1 (.t 33) (.t 34)),
 oQ 36 (.load false 1 (.t 35)),
 oP 37 (.move (.t 1)),
 oP 38 (.move (.t 7)),
 oP 39 (.idxSl 1 (.t 37) (.t 38)),
 oQ 40 (.load false 1 (.t 39)),
 oP 41 (.bin .add (.t 36) (.t 40)),
 oP 42 (.minmax false (.t 32) [(.t 41)]),
 oP 43 (.idxSl 1 (.t 23) (.t 26)),
 ⟨none, .store 1 (.t 43) (.t 42), none, none, []⟩]))
 (.region 0 [oP 21 (.move (.t 7)),
 oP 22 (.bin .add (.t 21) (.c (.int .i64 1))),
 oP 7 (.move (.t 22))])))))))
 (.region 0 [oP 13 (.move (.t 6)),
 oP 14 (.bin .add (.t 13) (.c (.int .i64 1))),
 oP 6 (.move (.t 14))]))))))
 (.seq (.region 0 [oP 44 (.move (.t 5)),
 oP 4 (.move (.t 44))])
 (.ret))))⟩
/-- almadraba/almadrabaref07.free -/
def f116 : AFn := ⟨16, [.tmp 2],
 .seq (.region 0 [oP 2 (.move (.c (.nils)))])
 (.seq (.region 0 [oP 3 (.move (.c (.nils)))])
 (.seq (.seq (.region 0 [oP 4 (.move (.c (.int .i64 0)))])
 (.block 0 (.loop (.seq (.seq (.region 0 [oP 5 (.move (.t 4)),
 oP 6 (.move (.t 0)),
 oP 7 (.lenS (.t 6)),
 oP 8 (.bin .lss (.t 5) (.t 7))])
 (.cond (.t 8) (.skip)
 (.exit 0)))
 (.seq (.block 1 (.region 0 [oP 11 (.move (.t 3)),
 oQ 12 (.makeSlice false 1 8 [.int .i64 0] (.c (.int .i64 31)) (.c (.int .i64 31))),
 oQ 13 (.buildSlice 1 1 [.nils] [(0, (.t 12))]),
 oQ 14 (.append false 1 24 (.t 11) (.t 13)),
 oP 3 (.move (.t 14))]))
 (.region 0 [oP 9 (.move (.t 4)),
 oP 10 (.bin .add (.t 9) (.c (.int .i64 1))),
 oP 4 (.move (.t 10))]))))))
 (.seq (.region 0 [oP 15 (.move (.t 3)),
 oP 2 (.move (.t 15))])
 (.ret))))⟩
/-- (almadraba/cuts.table).begins -/
def f117 : AFn := ⟨6, [.tmp 4],
 .seq (.region 0 [oQ 2 (.box (.t 0)),
 oQ 3 (.box (.t 1)),
 oP 4 (.move (.c (.nilf)))])
 (.seq (.region 0 [oP 5 (.mkFn 135 [] [(.t 3), (.t 2)]),
 oP 4 (.move (.t 5))])
 (.ret))⟩
/-- (almadraba/cuts.table).away -/
def f118 : AFn := ⟨22, [.tmp 6],
 .seq (.region 0 [oP 6 (.move (.c (.int .i64 0)))])
 (.seq (.region 0 [oP 8 (.move (.t 0)),
 oP 9 (.move (.t 1)),
 oP 10 (.idxSl 6 (.t 8) (.t 9)),
 oP 11 (.fieldAddr 1 (.t 10)),
 oQ 12 (.load true 2 (.t 11)),
 oQ 7 (.alloc [.int .i64 0, .int .i64 0]),
 ⟨none, .store 2 (.t 7) (.t 12), none, none, []⟩])
 (.seq (.region 0 [oP 13 (.fieldAddr 0 (.t 7)),
 oQ 14 (.load false 1 (.t 13)),
 oP 15 (.move (.t 2)),
 oP 16 (.bin .sub (.t 14) (.t 15)),
 oP 17 (.move (.t 2)),
 oP 18 (.fieldAddr 1 (.t 7)),
 oQ 19 (.load false 1 (.t 18)),
 oP 20 (.bin .sub (.t 17) (.t 19)),
 oP 21 (.minmax true (.t 16) [(.t 20), (.c (.int .i64 0))]),
 oP 6 (.move (.t 21))])
 (.ret)))⟩
/-- (almadraba/cuts.table).keeps -/
def f119 : AFn := ⟨8, [.tmp 6],
 .seq (.region 0 [oQ 3 (.box (.t 0)),
 oQ 4 (.box (.t 1)),
 oQ 5 (.box (.t 2)),
 oP 6 (.move (.c (.nilf)))])
 (.seq (.region 0 [oP 7 (.mkFn 136 [] [(.t 3), (.t 4), (.t 5)]),
 oP 6 (.move (.t 7))])
 (.ret))⟩
/-- (almadraba/cuts.table).cuts -/
def f120 : AFn := ⟨17, [],
 .seq (.region 0 [oP 5 (.move (.t 0)),
 oP 6 (.lenS (.t 5)),
 oP 7 (.bin .add (.t 6) (.c (.int .i64 1))),
 oP 8 (.move (.c (.int .i64 0)))])
 (.block 0 (.loop (.seq (.region 0 [oP 9 (.bin .lss (.t 8) (.t 7))])
 (.seq (.cond (.t 9) (.skip)
 (.exit 0))
 (.seq (.block 1 (.seq (.region 0 [oP 10 (.move (.t 8)),
 oP 4 (.move (.t 10))])
 (.seq (.region 0 [oP 11 (.move (.t 0)),
 oP 12 (.move (.t 4)),
 oP 13 (.move (.t 1)),
 oQ 14 (.call 0 137 [(.t 11), (.c (.nils)), (.t 12), (.t 13)]),
 oP 15 (.un .not (.t 14))])
 (.cond (.t 15) (.ret)
 (.skip)))))
 (.region 0 [oP 16 (.bin .add (.t 8) (.c (.int .i64 1))),
 oP 8 (.move (.t 16))]))))))⟩
/-- slices.Clone[almadraba/cuts.table,almadraba/api.CutPart] -/
def f121 : AFn := ⟨8, [.tmp 2],
 .seq (.region 0 [oP 2 (.move (.c (.nils)))])
 (.seq (.seq (.region 0 [oP 3 (.move (.t 0)),
 oP 4 (.isNil (.t 3) (.c (.nils)))])
 (.cond (.t 4) (.seq (.region 0 [oP 2 (.move (.c (.nils)))])
 (.ret))
 (.skip)))
 (.seq (.region 0 [oQ 5 (.buildSlice 6 0 [.int .i64 0, .int .i64 0, .int .i64 0, .int .i64 0, .int .i64 0, .int .i64 0] []),
 oP 6 (.move (.t 0)),
 oQ 7 (.append false 6 48 (.t 5) (.t 6)),
 oP 2 (.move (.t 7))])
 (.ret)))⟩
/-- almadraba/cuts.isSpan -/
def f122 : AFn := ⟨18, [.tmp 2],
 .seq (.region 0 [oQ 1 (.box (.t 0)),
 oP 2 (.move (.c (.bool false)))])
 (.seq (.region 0 [oP 3 (.fieldAddr 0 (.t 1)),
 oQ 4 (.load false 1 (.t 3)),
 oP 5 (.bin .leq (.c (.int .i64 0)) (.t 4)),
 oP 6 (.move (.t 5)),
 oG 7 6 true (.fieldAddr 0 (.t 1)),
 ⟨(some 8), .load false 1 (.t 7), (some (6, true)), none, []⟩,
 oG 9 6 true (.fieldAddr 1 (.t 1)),
 ⟨(some 10), .load false 1 (.t 9), (some (6, true)), none, []⟩,
 oG 11 6 true (.bin .leq (.t 8) (.t 10)),
 oP 12 (.pick (.t 6) (.t 11) (.c (.bool false))),
 oP 13 (.move (.t 12)),
 oG 14 13 true (.fieldAddr 1 (.t 1)),
 ⟨(some 15), .load false 1 (.t 14), (some (13, true)), none, []⟩,
 oG 16 13 true (.bin .leq (.t 15) (.c (.int .i64 30))),
 oP 17 (.pick (.t 13) (.t 16) (.c (.bool false))),
 oP 2 (.move (.t 17))])
 (.ret))⟩
/-- almadraba/almadrabaref07.ask -/
def f123 : AFn := ⟨13, [.tmp 4],
 .seq (.region 0 [oP 4 (.move (.c (.int .i64 0)))])
 (.seq (.seq (.region 0 [oP 6 (.move (.t 0)),
 oQ 7 (.call 1 53 [(.t 6)]),
 oP 5 (.move (.t 7))])
 (.seq (.region 0 [oP 8 (.move (.t 5)),
 oP 9 (.bin .neq (.t 8) (.c (.int .i64 0)))])
 (.cond (.t 9) (.seq (.region 0 [oP 10 (.move (.t 5)),
 oP 4 (.move (.t 10))])
 (.ret))
 (.skip))))
 (.seq (.seq (.region 0 [oP 11 (.move (.t 1)),
 oP 12 (.un .not (.t 11))])
 (.cond (.t 12) (.seq (.region 0 [oP 4 (.move (.c (.int .i64 1)))])
 (.ret))
 (.skip)))
 (.seq (.region 0 [oP 4 (.move (.c (.int .i64 0)))])
 (.ret))))⟩
/-- almadraba/almadrabaref07.lists -/
def f124 : AFn := ⟨44, [.tmp 6],
 .seq (.region 0 [oP 6 (.move (.c (.nils)))])
 (.seq (.seq (.region 0 [oP 10 (.move (.t 0)),
 oP 11 (.lenS (.t 10)),
 oP 12 (.move (.t 1)),
 oP 13 (.bin .eql (.t 11) (.t 12))])
 (.cond (.t 13) (.seq (.region 0 [oP 14 (.move (.t 0)),
 oQ 15 (.buildSlice 1 1 [.nils] [(0, (.t 14))]),
 oP 6 (.move (.t 15))])
 (.ret))
 (.skip)))
 (.seq (.region 0 [oP 7 (.move (.c (.int .i64 0)))])
 (.seq (.seq (.region 0 [oP 16 (.move (.t 0)),
 oP 17 (.lenS (.t 16)),
 oP 18 (.bin .gtr (.t 17) (.c (.int .i64 0)))])
 (.cond (.t 18) (.region 0 [oP 19 (.move (.t 0)),
 oP 20 (.move (.t 0)),
 oP 21 (.lenS (.t 20)),
 oP 22 (.bin .sub (.t 21) (.c (.int .i64 1))),
 oP 23 (.idxSl 1 (.t 19) (.t 22)),
 oQ 24 (.load false 1 (.t 23)),
 oP 25 (.bin .add (.t 24) (.c (.int .i64 1))),
 oP 7 (.move (.t 25))])
 (.skip)))
 (.seq (.region 0 [oP 8 (.move (.c (.nils)))])
 (.seq (.seq (.region 0 [oP 26 (.move (.t 7)),
 oP 9 (.move (.t 26))])
 (.block 0 (.loop (.seq (.seq (.region 0 [oP 27 (.move (.t 9)),
 oP 28 (.move (.t 2)),
 oP 29 (.bin .lss (.t 27) (.t 28))])
 (.cond (.t 29) (.skip)
 (.exit 0)))
 (.seq (.block 1 (.region 0 [oP 32 (.move (.t 8)),
 oQ 33 (.buildSlice 1 0 [.int .i64 0] []),
 oP 34 (.move (.t 0)),
 oQ 35 (.append false 1 8 (.t 33) (.t 34)),
 oP 36 (.move (.t 9)),
 oQ 37 (.buildSlice 1 1 [.int .i64 0] [(0, (.t 36))]),
 oQ 38 (.append false 1 8 (.t 35) (.t 37)),
 oP 39 (.move (.t 1)),
 oP 40 (.move (.t 2)),
 oQ 41 (.call 0 124 [(.t 38), (.t 39), (.t 40)]),
 oQ 42 (.append false 1 24 (.t 32) (.t 41)),
 oP 8 (.move (.t 42))]))
 (.region 0 [oP 30 (.move (.t 9)),
 oP 31 (.bin .add (.t 30) (.c (.int .i64 1))),
 oP 9 (.move (.t 31))]))))))
 (.seq (.region 0 [oP 43 (.move (.t 8)),
 oP 6 (.move (.t 43))])
 (.ret)))))))⟩
/-- almadraba/cuts.free -/
def f125 : AFn := ⟨16, [.cell true 31 2],
 .seq (.region 0 [oQ 1 (.box (.t 0)),
 oQ 2 (.alloc [.int .i64 0, .int .i64 0, .int .i64 0, .int .i64 0, .int .i64 0, .int .i64 0, .int .i64 0, .int .i64 0, .int .i64 0, .int .i64 0, .int .i64 0, .int .i64 0, .int .i64 0, .int .i64 0, .int .i64 0, .int .i64 0, .int .i64 0, .int .i64 0, .int .i64 0, .int .i64 0, .int .i64 0, .int .i64 0, .int .i64 0, .int .i64 0, .int .i64 0, .int .i64 0, .int .i64 0, .int .i64 0, .int .i64 0, .int .i64 0, .int .i64 0])])
 (.seq (.region 0 [oQ 3 (.alloc [.int .i64 0, .int .i64 0, .int .i64 0, .int .i64 0, .int .i64 0, .int .i64 0, .int .i64 0, .int .i64 0, .int .i64 0, .int .i64 0, .int .i64 0, .int .i64 0, .int .i64 0, .int .i64 0, .int .i64 0, .int .i64 0, .int .i64 0, .int .i64 0, .int .i64 0, .int .i64 0, .int .i64 0, .int .i64 0, .int .i64 0, .int .i64 0, .int .i64 0, .int .i64 0, .int .i64 0, .int .i64 0, .int .i64 0, .int .i64 0, .int .i64 0])])
 (.seq (.seq (.region 0 [oP 5 (.move (.c (.int .i64 0)))])
 (.block 0 (.loop (.seq (.region 0 [oP 6 (.bin .lss (.t 5) (.c (.int .i64 31)))])
 (.seq (.cond (.t 6) (.skip)
 (.exit 0))
 (.seq (.block 1 (.seq (.region 0 [oP 7 (.move (.t 5)),
 oP 4 (.move (.t 7))])
 (.seq (.region 0 [oQ 8 (.load true 2 (.t 1)),
 oP 9 (.move (.t 4)),
 oQ 10 (.call 1 106 [(.t 8), (.t 9)]),
 oP 11 (.un .not (.t 10))])
 (.cond (.t 11) (.region 0 [oP 12 (.move (.t 4)),
 oP 13 (.idxArr 31 1 (.t 3) (.t 12)),
 ⟨none, .store 1 (.t 13) (.c (.int .i64 9223372036854775807)), none, none, []⟩])
 (.skip)))))
 (.region 0 [oP 14 (.bin .add (.t 5) (.c (.int .i64 1))),
 oP 5 (.move (.t 14))])))))))
 (.seq (.region 0 [oQ 15 (.load true 31 (.t 3)),
 ⟨none, .store 31 (.t 2) (.t 15), none, none, []⟩])
 (.ret))))⟩
/-- slices.Backward[almadraba/cuts.table,almadraba/api.CutPart] -/
def f126 : AFn := ⟨4, [.tmp 2],
 .seq (.region 0 [oQ 1 (.box (.t 0)),
 oP 2 (.move (.c (.nilf)))])
 (.seq (.region 0 [oP 3 (.mkFn 138 [] [(.t 1)]),
 oP 2 (.move (.t 3))])
 (.ret))⟩
/-- (almadraba/cuts.costs).with -/
def f127 : AFn := ⟨23, [.cell true 31 6],
 .seq (.region 0 [oQ 3 (.box (.t 0)),
 oQ 6 (.alloc [.int .i64 0, .int .i64 0, .int .i64 0, .int .i64 0, .int .i64 0, .int .i64 0, .int .i64 0, .int .i64 0, .int .i64 0, .int .i64 0, .int .i64 0, .int .i64 0, .int .i64 0, .int .i64 0, .int .i64 0, .int .i64 0, .int .i64 0, .int .i64 0, .int .i64 0, .int .i64 0, .int .i64 0, .int .i64 0, .int .i64 0, .int .i64 0, .int .i64 0, .int .i64 0, .int .i64 0, .int .i64 0, .int .i64 0, .int .i64 0, .int .i64 0])])
 (.seq (.seq (.region 0 [oP 8 (.move (.c (.int .i64 0)))])
 (.block 0 (.loop (.seq (.region 0 [oP 9 (.bin .lss (.t 8) (.c (.int .i64 31)))])
 (.seq (.cond (.t 9) (.skip)
 (.exit 0))
 (.seq (.block 1 (.seq (.region 0 [oP 10 (.move (.t 8)),
 oP 7 (.move (.t 10))])
 (.region 0 [oP 11 (.move (.t 7)),
 oP 12 (.move (.t 7)),
 oP 13 (.idxArr 31 1 (.t 3) (.t 12)),
 oQ 14 (.load false 1 (.t 13)),
 oP 15 (.move (.t 2)),
 oP 16 (.move (.t 1)),
 oP 17 (.move (.t 7)),
 oQ 18 (.callv true (.t 15) [(.t 16), (.t 17)]),
 oQ 19 (.call 1 128 [(.t 14), (.t 18)]),
 oP 20 (.idxArr 31 1 (.t 3) (.t 11)),
 ⟨none, .store 1 (.t 20) (.t 19), none, none, []⟩])))
 (.region 0 [oP 21 (.bin .add (.t 8) (.c (.int .i64 1))),
 oP 8 (.move (.t 21))])))))))
 (.seq (.region 0 [oQ 22 (.load true 31 (.t 3)),
 ⟨none, .store 31 (.t 6) (.t 22), none, none, []⟩])
 (.ret)))⟩
/-- almadraba/cuts.plus -/
def f128 : AFn := ⟨14, [.tmp 4],
 .seq (.region 0 [oP 4 (.move (.c (.int .i64 0)))])
 (.seq (.seq (.region 0 [oP 5 (.move (.t 0)),
 oP 6 (.bin .eql (.t 5) (.c (.int .i64 9223372036854775807))),
 oP 7 (.move (.t 6)),
 oG 8 7 false (.move (.t 1)),
 oG 9 7 false (.bin .eql (.t 8) (.c (.int .i64 9223372036854775807))),
 oP 10 (.pick (.t 7) (.c (.bool true)) (.t 9))])
 (.cond (.t 10) (.seq (.region 0 [oP 4 (.move (.c (.int .i64 9223372036854775807)))])
 (.ret))
 (.skip)))
 (.seq (.region 0 [oP 11 (.move (.t 0)),
 oP 12 (.move (.t 1)),
 oP 13 (.bin .add (.t 11) (.t 12)),
 oP 4 (.move (.t 13))])
 (.ret)))⟩
/-- slices.Min[[]int,int] -/
def f129 : AFn := ⟨25, [.tmp 2],
 .seq (.region 0 [oP 2 (.move (.c (.int .i64 0)))])
 (.seq (.seq (.region 0 [oP 5 (.move (.t 0)),
 oP 6 (.lenS (.t 5)),
 oP 7 (.bin .lss (.t 6) (.c (.int .i64 1)))])
 (.cond (.t 7) (.region 0 [oP 8 (.bad),
 ⟨none, .p (.bad), none, none, []⟩])
 (.skip)))
 (.seq (.region 0 [oP 9 (.move (.t 0)),
 oP 10 (.idxSl 1 (.t 9) (.c (.int .i64 0))),
 oQ 11 (.load false 1 (.t 10)),
 oP 3 (.move (.t 11))])
 (.seq (.seq (.region 0 [oP 4 (.move (.c (.int .i64 1)))])
 (.block 0 (.loop (.seq (.seq (.region 0 [oP 12 (.move (.t 4)),
 oP 13 (.move (.t 0)),
 oP 14 (.lenS (.t 13)),
 oP 15 (.bin .lss (.t 12) (.t 14))])
 (.cond (.t 15) (.skip)
 (.exit 0)))
 (.seq (.block 1 (.region 0 [oP 18 (.move (.t 3)),
 oP 19 (.move (.t 0)),
 oP 20 (.move (.t 4)),
 oP 21 (.idxSl 1 (.t 19) (.t 20)),
 oQ 22 (.load false 1 (.t 21)),
 oP 23 (.minmax false (.t 18) [(.t 22)]),
 oP 3 (.move (.t 23))]))
 (.region 0 [oP 16 (.move (.t 4)),
 oP 17 (.bin .add (.t 16) (.c (.int .i64 1))),
 oP 4 (.move (.t 17))]))))))
 (.seq (.region 0 [oP 24 (.move (.t 3)),
 oP 2 (.move (.t 24))])
 (.ret)))))⟩
/-- (almadraba/cuts.costs).beside -/
def f130 : AFn := ⟨42, [.cell true 31 4],
 .seq (.region 0 [oQ 2 (.box (.t 0)),
 oQ 3 (.box (.t 1)),
 oQ 4 (.alloc [.int .i64 0, .int .i64 0, .int .i64 0, .int .i64 0, .int .i64 0, .int .i64 0, .int .i64 0, .int .i64 0, .int .i64 0, .int .i64 0, .int .i64 0, .int .i64 0, .int .i64 0, .int .i64 0, .int .i64 0, .int .i64 0, .int .i64 0, .int .i64 0, .int .i64 0, .int .i64 0, .int .i64 0, .int .i64 0, .int .i64 0, .int .i64 0, .int .i64 0, .int .i64 0, .int .i64 0, .int .i64 0, .int .i64 0, .int .i64 0, .int .i64 0])])
 (.seq (.region 0 [oP 10 (.build [.int .i64 0, .int .i64 0] [(1, 1, (.c (.int .i64 (-1))))]),
 oQ 11 (.call 1 125 [(.t 10)]),
 oQ 5 (.alloc [.int .i64 0, .int .i64 0, .int .i64 0, .int .i64 0, .int .i64 0, .int .i64 0, .int .i64 0, .int .i64 0, .int .i64 0, .int .i64 0, .int .i64 0, .int .i64 0, .int .i64 0, .int .i64 0, .int .i64 0, .int .i64 0, .int .i64 0, .int .i64 0, .int .i64 0, .int .i64 0, .int .i64 0, .int .i64 0, .int .i64 0, .int .i64 0, .int .i64 0, .int .i64 0, .int .i64 0, .int .i64 0, .int .i64 0, .int .i64 0, .int .i64 0]),
 ⟨none, .store 31 (.t 5) (.t 11), none, none, []⟩])
 (.seq (.seq (.region 0 [oQ 12 (.load true 31 (.t 2)),
 oP 13 (.move (.c (.int .i64 0)))])
 (.block 0 (.loop (.seq (.region 0 [oP 14 (.bin .lss (.t 13) (.c (.int .i64 31)))])
 (.seq (.cond (.t 14) (.skip)
 (.exit 0))
 (.seq (.block 1 (.seq (.region 0 [oP 15 (.move (.t 13)),
 oP 16 (.idx false 31 1 (.t 12) (.t 13)),
 oP 6 (.move (.t 15)),
 oP 7 (.move (.t 16))])
 (.seq (.region 0 [oP 17 (.move (.t 6)),
 oP 18 (.bin .sub (.c (.int .i64 31)) (.t 17)),
 oQ 19 (.sliceA 31 1 (.t 3) (some ((.t 18), none))),
 oP 20 (.lenS (.t 19)),
 oP 21 (.move (.c (.int .i64 0)))])
 (.block 2 (.loop (.seq (.region 0 [oP 22 (.bin .lss (.t 21) (.t 20))])
 (.seq (.cond (.t 22) (.skip)
 (.exit 2))
 (.seq (.block 3 (.seq (.region 0 [oP 23 (.move (.t 21)),
 oP 24 (.idxSl 1 (.t 19) (.t 21)),
 oQ 25 (.load false 1 (.t 24)),
 oP 8 (.move (.t 23)),
 oP 9 (.move (.t 25))])
 (.region 0 [oP 26 (.move (.t 6)),
 oP 27 (.move (.t 8)),
 oP 28 (.bin .add (.t 26) (.t 27)),
 oP 29 (.move (.t 6)),
 oP 30 (.move (.t 8)),
 oP 31 (.bin .add (.t 29) (.t 30)),
 oP 32 (.idxArr 31 1 (.t 5) (.t 31)),
 oQ 33 (.load false 1 (.t 32)),
 oP 34 (.move (.t 7)),
 oP 35 (.move (.t 9)),
 oQ 36 (.call 1 128 [(.t 34), (.t 35)]),
 oP 37 (.minmax false (.t 33) [(.t 36)]),
 oP 38 (.idxArr 31 1 (.t 5) (.t 28)),
 ⟨none, .store 1 (.t 38) (.t 37), none, none, []⟩])))
 (.region 0 [oP 39 (.bin .add (.t 21) (.c (.int .i64 1))),
 oP 21 (.move (.t 39))])))))))))
 (.region 0 [oP 40 (.bin .add (.t 13) (.c (.int .i64 1))),
 oP 13 (.move (.t 40))])))))))
 (.seq (.region 0 [oQ 41 (.load true 31 (.t 5)),
 ⟨none, .store 31 (.t 4) (.t 41), none, none, []⟩])
 (.ret))))⟩
/-- (almadraba/cuts.table).truths$1 -/
def f131 : AFn := ⟨16, [.tmp 6],
 .seq (.region 0 [oP 6 (.move (.c (.int .i64 0)))])
 (.seq (.seq (.region 0 [oQ 7 (.load false 1 (.t 2)),
 oP 8 (.move (.t 0)),
 oP 9 (.move (.t 1)),
 oQ 10 (.call 1 118 [(.t 7), (.t 8), (.t 9)]),
 oP 11 (.bin .gtr (.t 10) (.c (.int .i64 0)))])
 (.cond (.t 11) (.seq (.region 0 [oP 6 (.move (.c (.int .i64 9223372036854775807)))])
 (.ret))
 (.skip)))
 (.seq (.region 0 [oQ 12 (.load false 1 (.t 3)),
 oP 13 (.move (.t 0)),
 oP 14 (.move (.t 1)),
 oQ 15 (.callv true (.t 12) [(.t 13), (.t 14)]),
 oP 6 (.move (.t 15))])
 (.ret)))⟩
/-- slices.IndexFunc[almadraba/cuts.table,almadraba/api.CutPart] -/
def f132 : AFn := ⟨19, [.tmp 4],
 .seq (.region 0 [oP 4 (.move (.c (.int .i64 0)))])
 (.seq (.seq (.region 0 [oP 6 (.move (.t 0)),
 oP 7 (.lenS (.t 6)),
 oP 8 (.move (.c (.int .i64 0)))])
 (.block 0 (.loop (.seq (.region 0 [oP 9 (.bin .lss (.t 8) (.t 7))])
 (.seq (.cond (.t 9) (.skip)
 (.exit 0))
 (.seq (.block 1 (.seq (.region 0 [oP 10 (.move (.t 8)),
 oP 5 (.move (.t 10))])
 (.seq (.region 0 [oP 11 (.move (.t 1)),
 oP 12 (.move (.t 0)),
 oP 13 (.move (.t 5)),
 oP 14 (.idxSl 6 (.t 12) (.t 13)),
 oQ 15 (.load true 6 (.t 14)),
 oQ 16 (.callv true (.t 11) [(.t 15)])])
 (.cond (.t 16) (.seq (.region 0 [oP 17 (.move (.t 5)),
 oP 4 (.move (.t 17))])
 (.ret))
 (.skip)))))
 (.region 0 [oP 18 (.bin .add (.t 8) (.c (.int .i64 1))),
 oP 8 (.move (.t 18))])))))))
 (.seq (.region 0 [oP 4 (.move (.c (.int .i64 (-1))))])
 (.ret)))⟩
/-- (almadraba/cuts.table).fits -/
def f133 : AFn := ⟨16, [.tmp 6],
 .seq (.region 0 [oP 6 (.move (.c (.bool false)))])
 (.seq (.region 0 [oP 7 (.move (.t 0)),
 oP 8 (.move (.t 1)),
 oQ 9 (.call 1 70 [(.t 7), (.t 8)]),
 oP 10 (.move (.t 9)),
 oG 11 10 true (.move (.t 0)),
 oG 12 10 true (.move (.t 1)),
 oG 13 10 true (.move (.t 2)),
 ⟨(some 14), .call 1 112 [(.t 11), (.t 12), (.t 13)], (some (10, true)), none, []⟩,
 oP 15 (.pick (.t 10) (.t 14) (.c (.bool false))),
 oP 6 (.move (.t 15))])
 (.ret))⟩
/-- slices.Index[[]int,int] -/
def f134 : AFn := ⟨19, [.tmp 4],
 .seq (.region 0 [oP 4 (.move (.c (.int .i64 0)))])
 (.seq (.seq (.region 0 [oP 6 (.move (.t 0)),
 oP 7 (.lenS (.t 6)),
 oP 8 (.move (.c (.int .i64 0)))])
 (.block 0 (.loop (.seq (.region 0 [oP 9 (.bin .lss (.t 8) (.t 7))])
 (.seq (.cond (.t 9) (.skip)
 (.exit 0))
 (.seq (.block 1 (.seq (.region 0 [oP 10 (.move (.t 8)),
 oP 5 (.move (.t 10))])
 (.seq (.region 0 [oP 11 (.move (.t 1)),
 oP 12 (.move (.t 0)),
 oP 13 (.move (.t 5)),
 oP 14 (.idxSl 1 (.t 12) (.t 13)),
 oQ 15 (.load false 1 (.t 14)),
 oP 16 (.bin .eql (.t 11) (.t 15))])
 (.cond (.t 16) (.seq (.region 0 [oP 17 (.move (.t 5)),
 oP 4 (.move (.t 17))])
 (.ret))
 (.skip)))))
 (.region 0 [oP 18 (.bin .add (.t 8) (.c (.int .i64 1))),
 oP 8 (.move (.t 18))])))))))
 (.seq (.region 0 [oP 4 (.move (.c (.int .i64 (-1))))])
 (.ret)))⟩
/-- (almadraba/cuts.table).begins$1 -/
def f135 : AFn := ⟨23, [.tmp 6],
 .seq (.region 0 [oP 6 (.move (.c (.int .i64 0)))])
 (.seq (.seq (.region 0 [oP 7 (.move (.t 0)),
 oQ 8 (.load false 1 (.t 2)),
 oP 9 (.lenS (.t 8)),
 oP 10 (.bin .lss (.t 7) (.t 9)),
 oP 11 (.move (.t 10)),
 ⟨(some 12), .load false 1 (.t 2), (some (11, true)), none, []⟩,
 oG 13 11 true (.move (.t 0)),
 oG 14 11 true (.idxSl 1 (.t 12) (.t 13)),
 ⟨(some 15), .load false 1 (.t 14), (some (11, true)), none, []⟩,
 oG 16 11 true (.move (.t 1)),
 oG 17 11 true (.bin .neq (.t 15) (.t 16)),
 oP 18 (.pick (.t 11) (.t 17) (.c (.bool false)))])
 (.cond (.t 18) (.seq (.region 0 [oP 6 (.move (.c (.int .i64 9223372036854775807)))])
 (.ret))
 (.skip)))
 (.seq (.region 0 [oQ 19 (.load false 1 (.t 3)),
 oP 20 (.move (.t 0)),
 oP 21 (.move (.t 1)),
 oQ 22 (.call 1 118 [(.t 19), (.t 20), (.t 21)]),
 oP 6 (.move (.t 22))])
 (.ret)))⟩
/-- (almadraba/cuts.table).keeps$1 -/
def f136 : AFn := ⟨23, [.tmp 7],
 .seq (.region 0 [oP 7 (.move (.c (.int .i64 0)))])
 (.seq (.region 0 [oQ 9 (.load false 1 (.t 2)),
 oP 10 (.move (.t 0)),
 oP 11 (.move (.t 1)),
 oQ 12 (.call 1 118 [(.t 9), (.t 10), (.t 11)]),
 oP 8 (.move (.t 12))])
 (.seq (.seq (.region 0 [oP 13 (.move (.t 0)),
 oQ 14 (.load false 1 (.t 3)),
 oP 15 (.bin .eql (.t 13) (.t 14)),
 oP 16 (.move (.t 15)),
 ⟨(some 17), .load false 1 (.t 4), (some (16, true)), none, []⟩,
 oG 18 16 true (.move (.t 8)),
 oG 19 16 true (.bin .eql (.t 18) (.c (.int .i64 0))),
 oG 20 16 true (.eqB true (.t 17) (.t 19)),
 oP 21 (.pick (.t 16) (.t 20) (.c (.bool false)))])
 (.cond (.t 21) (.seq (.region 0 [oP 7 (.move (.c (.int .i64 9223372036854775807)))])
 (.ret))
 (.skip)))
 (.seq (.region 0 [oP 22 (.move (.t 8)),
 oP 7 (.move (.t 22))])
 (.ret))))⟩
/-- (almadraba/cuts.table).longer -/
def f137 : AFn := ⟨52, [.tmp 8],
 .seq (.region 0 [oP 8 (.move (.c (.bool false)))])
 (.seq (.seq (.region 0 [oP 10 (.move (.t 2)),
 oP 11 (.bin .eql (.t 10) (.c (.int .i64 0)))])
 (.cond (.t 11) (.seq (.region 0 [oP 12 (.move (.t 3)),
 oP 13 (.move (.t 1)),
 oQ 14 (.callv false (.t 12) [(.t 13)]),
 oP 8 (.move (.t 14))])
 (.ret))
 (.skip)))
 (.seq (.region 0 [oP 9 (.move (.c (.int .i64 0)))])
 (.seq (.seq (.region 0 [oP 15 (.move (.t 1)),
 oP 16 (.lenS (.t 15)),
 oP 17 (.bin .gtr (.t 16) (.c (.int .i64 0)))])
 (.cond (.t 17) (.region 0 [oP 18 (.move (.t 1)),
 oP 19 (.move (.t 1)),
 oP 20 (.lenS (.t 19)),
 oP 21 (.bin .sub (.t 20) (.c (.int .i64 1))),
 oP 22 (.idxSl 1 (.t 18) (.t 21)),
 oQ 23 (.load false 1 (.t 22)),
 oP 24 (.bin .add (.t 23) (.c (.int .i64 1))),
 oP 9 (.move (.t 24))])
 (.skip)))
 (.seq (.block 0 (.loop (.seq (.seq (.region 0 [oP 25 (.move (.t 9)),
 oP 26 (.move (.t 0)),
 oP 27 (.lenS (.t 26)),
 oP 28 (.bin .lss (.t 25) (.t 27))])
 (.cond (.t 28) (.skip)
 (.exit 0)))
 (.seq (.block 1 (.seq (.region 0 [oP 31 (.move (.t 0)),
 oP 32 (.move (.t 9)),
 oP 33 (.move (.t 1)),
 oQ 34 (.call 1 133 [(.t 31), (.t 32), (.t 33)]),
 oP 35 (.move (.t 34)),
 oG 36 35 true (.move (.t 0)),
 oG 37 35 true (.move (.t 1)),
 oG 38 35 true (.move (.t 1)),
 oG 39 35 true (.lenS (.t 38)),
 oG 40 35 true (.move (.t 1)),
 oG 41 35 true (.lenS (.t 40)),
 oG 42 35 true (.slice3 1 (.t 37) (.t 39) (.t 41)),
 oG 43 35 true (.move (.t 9)),
 ⟨(some 44), .litS 1 1 [.int .i64 0] [(0, (.t 43))], (some (35, true)), none, []⟩,
 ⟨(some 45), .append false 1 8 (.t 42) (.t 44), (some (35, true)), none, []⟩,
 oG 46 35 true (.move (.t 2)),
 oG 47 35 true (.bin .sub (.t 46) (.c (.int .i64 1))),
 oG 48 35 true (.move (.t 3)),
 ⟨(some 49), .call 0 137 [(.t 36), (.t 45), (.t 47), (.t 48)], (some (35, true)), none, []⟩,
 oG 50 35 true (.un .not (.t 49)),
 oP 51 (.pick (.t 35) (.t 50) (.c (.bool false)))])
 (.cond (.t 51) (.seq (.region 0 [oP 8 (.move (.c (.bool false)))])
 (.ret))
 (.skip))))
 (.region 0 [oP 29 (.move (.t 9)),
 oP 30 (.bin .add (.t 29) (.c (.int .i64 1))),
 oP 9 (.move (.t 30))])))))
 (.seq (.region 0 [oP 8 (.move (.c (.bool true)))])
 (.ret))))))⟩
/-- slices.Backward[almadraba/cuts.table,almadraba/api.CutPart]$1 -/
def f138 : AFn := ⟨19, [],
 .seq (.region 0 [oQ 4 (.load false 1 (.t 1)),
 oP 5 (.lenS (.t 4)),
 oP 6 (.bin .sub (.t 5) (.c (.int .i64 1))),
 oP 3 (.move (.t 6))])
 (.block 0 (.loop (.seq (.seq (.region 0 [oP 7 (.move (.t 3)),
 oP 8 (.bin .geq (.t 7) (.c (.int .i64 0)))])
 (.cond (.t 8) (.skip)
 (.exit 0)))
 (.seq (.block 1 (.seq (.region 0 [oP 11 (.move (.t 0)),
 oP 12 (.move (.t 3)),
 oQ 13 (.load false 1 (.t 1)),
 oP 14 (.move (.t 3)),
 oP 15 (.idxSl 6 (.t 13) (.t 14)),
 oQ 16 (.load true 6 (.t 15)),
 oQ 17 (.callv false (.t 11) [(.t 12), (.t 16)]),
 oP 18 (.un .not (.t 17))])
 (.cond (.t 18) (.ret)
 (.skip))))
 (.region 0 [oP 9 (.move (.t 3)),
 oP 10 (.bin .sub (.t 9) (.c (.int .i64 1))),
 oP 3 (.move (.t 10))])))))⟩
end Go.Proofs.Yteonklnjchefiaa.T
