/-
The code of functions of the seat, as the abstract machine has it (printed by a tool of ours off the dump).
-/
import Derived.Test.YtjaaefdhdggnkaaTabA
namespace Go.Proofs.Ytjaaefdhdggnkaa.T
open Go Go.Am
/-- (*almadraba/counts.trap).truth -/
def f83 : AFn := ⟨53, [.tmp 2],
 .seq (.region 0 [oP 2 (.move (.c (.nils)))])
 (.seq (.region 0 [oP 6 (.move (.t 0)),
 oP 7 (.nilCheck (.t 6)),
 oP 8 (.fieldAddr 0 (.t 7)),
 oP 9 (.fieldAddr 1 (.t 8)),
 oQ 10 (.load false 1 (.t 9)),
 oQ 11 (.makeSlice 1 24 [.nils] (.t 10) (.t 10)),
 oP 3 (.move (.t 11))])
 (.seq (.seq (.region 0 [oP 12 (.move (.t 3)),
 oP 13 (.lenS (.t 12)),
 oP 14 (.move (.c (.int .i64 0)))])
 (.block 0 (.loop (.seq (.region 0 [oP 15 (.bin .lss (.t 14) (.t 13))])
 (.seq (.cond (.t 15) (.skip)
 (.exit 0))
 (.seq (.block 1 (.seq (.region 0 [oP 16 (.move (.t 14)),
 oP 4 (.move (.t 16))])
 (.seq (.region 0 [oP 17 (.move (.t 3)),
 oP 18 (.move (.t 4)),
 oP 19 (.move (.t 0)),
 oP 20 (.nilCheck (.t 19)),
 oP 21 (.fieldAddr 0 (.t 20)),
 oP 22 (.fieldAddr 0 (.t 21)),
 oQ 23 (.load false 1 (.t 22)),
 oQ 24 (.makeSlice 1 8 [.int .i64 0] (.t 23) (.t 23)),
 oP 25 (.idxSl 1 (.t 17) (.t 18)),
 ⟨none, .store 1 (.t 25) (.t 24), none, none, []⟩])
 (.seq (.region 0 [oP 26 (.move (.t 3)),
 oP 27 (.move (.t 4)),
 oP 28 (.idxSl 1 (.t 26) (.t 27)),
 oQ 29 (.load false 1 (.t 28)),
 oP 30 (.lenS (.t 29)),
 oP 31 (.move (.c (.int .i64 0)))])
 (.block 2 (.loop (.seq (.region 0 [oP 32 (.bin .lss (.t 31) (.t 30))])
 (.seq (.cond (.t 32) (.skip)
 (.exit 2))
 (.seq (.block 3 (.seq (.region 0 [oP 33 (.move (.t 31)),
 oP 5 (.move (.t 33))])
 (.region 0 [oP 34 (.move (.t 3)),
 oP 35 (.move (.t 4)),
 oP 36 (.idxSl 1 (.t 34) (.t 35)),
 oQ 37 (.load false 1 (.t 36)),
 oP 38 (.move (.t 5)),
 oP 39 (.move (.t 0)),
 oP 40 (.move (.t 4)),
 oP 41 (.move (.t 5)),
 oQ 42 (.call 3 99 [(.t 39), (.t 40), (.t 41)]),
 oP 43 (.move (.t 0)),
 oP 44 (.move (.t 4)),
 oP 45 (.move (.t 5)),
 oP 46 (.bin .add (.t 45) (.c (.int .i64 1))),
 oQ 47 (.call 3 99 [(.t 43), (.t 44), (.t 46)]),
 oP 48 (.bin .sub (.t 42) (.t 47)),
 oP 49 (.idxSl 1 (.t 37) (.t 38)),
 ⟨none, .store 1 (.t 49) (.t 48), none, none, []⟩])))
 (.region 0 [oP 50 (.bin .add (.t 31) (.c (.int .i64 1))),
 oP 31 (.move (.t 50))]))))))))))
 (.region 0 [oP 51 (.bin .add (.t 14) (.c (.int .i64 1))),
 oP 14 (.move (.t 51))])))))))
 (.seq (.region 0 [oP 52 (.move (.t 3)),
 oP 2 (.move (.t 52))])
 (.ret))))⟩
/-- almadraba/almadrabaref01.settle -/
def f84 : AFn := ⟨133, [.tmp 4],
 .seq (.region 0 [oQ 2 (.box (.t 0)),
 oP 4 (.move (.c (.bool false)))])
 (.seq (.seq (.region 0 [oP 5 (.move (.c (.bool true)))])
 (.block 0 (.loop (.seq (.seq (.region 0 [oP 13 (.move (.t 5))])
 (.cond (.t 13) (.skip)
 (.exit 0)))
 (.block 1 (.seq (.region 0 [oP 5 (.move (.c (.bool false)))])
 (.seq (.seq (.region 0 [oP 6 (.move (.c (.int .i64 0)))])
 (.block 2 (.loop (.seq (.seq (.region 0 [oP 14 (.move (.t 6)),
 oP 15 (.fieldAddr 1 (.t 2)),
 oQ 16 (.load false 1 (.t 15)),
 oP 17 (.bin .lss (.t 14) (.t 16))])
 (.cond (.t 17) (.skip)
 (.exit 2)))
 (.seq (.block 3 (.seq (.region 0 [oP 7 (.move (.c (.int .i64 0)))])
 (.block 4 (.loop (.seq (.seq (.region 0 [oP 20 (.move (.t 7)),
 oP 21 (.fieldAddr 0 (.t 2)),
 oQ 22 (.load false 1 (.t 21)),
 oP 23 (.bin .lss (.t 20) (.t 22))])
 (.cond (.t 23) (.skip)
 (.exit 4)))
 (.seq (.block 5 (.seq (.seq (.region 0 [oP 26 (.move (.t 1)),
 oP 27 (.move (.t 6)),
 oP 28 (.idxSl 1 (.t 26) (.t 27)),
 oQ 29 (.load false 1 (.t 28)),
 oP 30 (.move (.t 7)),
 oP 31 (.idxSl 2 (.t 29) (.t 30)),
 oP 32 (.fieldAddr 0 (.t 31)),
 oQ 33 (.load false 1 (.t 32)),
 oP 34 (.move (.t 1)),
 oP 35 (.move (.t 6)),
 oP 36 (.idxSl 1 (.t 34) (.t 35)),
 oQ 37 (.load false 1 (.t 36)),
 oP 38 (.move (.t 7)),
 oP 39 (.idxSl 2 (.t 37) (.t 38)),
 oP 40 (.fieldAddr 1 (.t 39)),
 oQ 41 (.load false 1 (.t 40)),
 oP 42 (.bin .gtr (.t 33) (.t 41))])
 (.cond (.t 42) (.seq (.region 0 [oP 4 (.move (.c (.bool false)))])
 (.ret))
 (.skip)))
 (.seq (.region 0 [oP 43 (.move (.t 1)),
 oP 44 (.move (.t 6)),
 oP 45 (.move (.t 7)),
 oP 46 (.move (.t 6)),
 oP 47 (.move (.t 7)),
 oP 48 (.bin .add (.t 47) (.c (.int .i64 1))),
 oQ 49 (.call 0 100 [(.t 43), (.t 44), (.t 45), (.t 46), (.t 48), (.c (.int .i64 0)), (.c (.int .i64 40))]),
 oP 50 (.move (.t 49)),
 oG 51 50 false (.move (.t 5)),
 oP 52 (.pick (.t 50) (.c (.bool true)) (.t 51)),
 oP 5 (.move (.t 52))])
 (.seq (.seq (.region 0 [oP 53 (.move (.t 6)),
 oP 54 (.bin .eql (.t 53) (.c (.int .i64 0)))])
 (.cond (.t 54) (.exit 5)
 (.skip)))
 (.seq (.region 0 [oP 8 (.move (.c (.int .i64 0)))])
 (.seq (.seq (.region 0 [oP 55 (.fieldAddr 2 (.t 2)),
 oQ 56 (.load false 1 (.t 55)),
 oP 57 (.move (.t 6)),
 oP 58 (.bin .sub (.t 57) (.c (.int .i64 1))),
 oP 59 (.idxSl 1 (.t 56) (.t 58)),
 oQ 60 (.load false 1 (.t 59)),
 oP 61 (.move (.t 7)),
 oQ 62 (.call 1 40 [(.t 60), (.t 61)])])
 (.cond (.t 62) (.region 0 [oP 8 (.move (.c (.int .i64 40)))])
 (.skip)))
 (.region 0 [oP 63 (.move (.t 1)),
 oP 64 (.move (.t 6)),
 oP 65 (.move (.t 7)),
 oP 66 (.move (.t 6)),
 oP 67 (.bin .sub (.t 66) (.c (.int .i64 1))),
 oP 68 (.move (.t 7)),
 oP 69 (.move (.t 8)),
 oQ 70 (.call 0 100 [(.t 63), (.t 64), (.t 65), (.t 67), (.t 68), (.c (.int .i64 0)), (.t 69)]),
 oP 71 (.move (.t 70)),
 oG 72 71 false (.move (.t 5)),
 oP 73 (.pick (.t 71) (.c (.bool true)) (.t 72)),
 oP 5 (.move (.t 73))])))))))
 (.region 0 [oP 24 (.move (.t 7)),
 oP 25 (.bin .add (.t 24) (.c (.int .i64 1))),
 oP 7 (.move (.t 25))])))))))
 (.region 0 [oP 18 (.move (.t 6)),
 oP 19 (.bin .add (.t 18) (.c (.int .i64 1))),
 oP 6 (.move (.t 19))]))))))
 (.seq (.region 0 [oP 9 (.move (.c (.int .i64 0)))])
 (.block 6 (.loop (.seq (.seq (.region 0 [oP 74 (.move (.t 9)),
 oP 75 (.fieldAddr 3 (.t 2)),
 oQ 76 (.load false 1 (.t 75)),
 oP 77 (.lenS (.t 76)),
 oP 78 (.bin .lss (.t 74) (.t 77))])
 (.cond (.t 78) (.skip)
 (.exit 6)))
 (.seq (.block 7 (.seq (.region 0 [oP 81 (.fieldAddr 3 (.t 2)),
 oQ 82 (.load false 1 (.t 81)),
 oP 83 (.move (.t 9)),
 oP 84 (.idxSl 4 (.t 82) (.t 83)),
 oQ 85 (.load true 4 (.t 84)),
 oQ 10 (.alloc [.int .i64 0, .int .i64 0, .int .i64 0, .int .i64 0]),
 ⟨none, .store 4 (.t 10) (.t 85), none, none, []⟩])
 (.region 0 [oP 86 (.move (.t 1)),
 oP 87 (.fieldAddr 0 (.t 10)),
 oQ 88 (.load false 1 (.t 87)),
 oP 89 (.fieldAddr 1 (.t 10)),
 oQ 90 (.load false 1 (.t 89)),
 oP 91 (.fieldAddr 0 (.t 10)),
 oQ 92 (.load false 1 (.t 91)),
 oP 93 (.fieldAddr 1 (.t 10)),
 oQ 94 (.load false 1 (.t 93)),
 oP 95 (.bin .add (.t 94) (.c (.int .i64 1))),
 oP 96 (.fieldAddr 2 (.t 10)),
 oQ 97 (.load false 1 (.t 96)),
 oP 98 (.fieldAddr 3 (.t 10)),
 oQ 99 (.load false 1 (.t 98)),
 oQ 100 (.call 0 100 [(.t 86), (.t 88), (.t 90), (.t 92), (.t 95), (.t 97), (.t 99)]),
 oP 101 (.move (.t 100)),
 oG 102 101 false (.move (.t 5)),
 oP 103 (.pick (.t 101) (.c (.bool true)) (.t 102)),
 oP 5 (.move (.t 103))])))
 (.region 0 [oP 79 (.move (.t 9)),
 oP 80 (.bin .add (.t 79) (.c (.int .i64 1))),
 oP 9 (.move (.t 80))])))))))))))))
 (.seq (.seq (.region 0 [oP 11 (.move (.c (.int .i64 0)))])
 (.block 8 (.loop (.seq (.seq (.region 0 [oP 104 (.move (.t 11)),
 oP 105 (.fieldAddr 1 (.t 2)),
 oQ 106 (.load false 1 (.t 105)),
 oP 107 (.bin .lss (.t 104) (.t 106))])
 (.cond (.t 107) (.skip)
 (.exit 8)))
 (.seq (.block 9 (.seq (.region 0 [oP 12 (.move (.c (.int .i64 0)))])
 (.block 10 (.loop (.seq (.seq (.region 0 [oP 110 (.move (.t 12)),
 oP 111 (.fieldAddr 0 (.t 2)),
 oQ 112 (.load false 1 (.t 111)),
 oP 113 (.bin .leq (.t 110) (.t 112))])
 (.cond (.t 113) (.skip)
 (.exit 10)))
 (.seq (.block 11 (.seq (.region 0 [oP 116 (.move (.t 1)),
 oP 117 (.move (.t 11)),
 oP 118 (.idxSl 1 (.t 116) (.t 117)),
 oQ 119 (.load false 1 (.t 118)),
 oP 120 (.move (.t 12)),
 oP 121 (.idxSl 2 (.t 119) (.t 120)),
 oP 122 (.fieldAddr 0 (.t 121)),
 oQ 123 (.load false 1 (.t 122)),
 oP 124 (.move (.t 1)),
 oP 125 (.move (.t 11)),
 oP 126 (.idxSl 1 (.t 124) (.t 125)),
 oQ 127 (.load false 1 (.t 126)),
 oP 128 (.move (.t 12)),
 oP 129 (.idxSl 2 (.t 127) (.t 128)),
 oP 130 (.fieldAddr 1 (.t 129)),
 oQ 131 (.load false 1 (.t 130)),
 oP 132 (.bin .gtr (.t 123) (.t 131))])
 (.cond (.t 132) (.seq (.region 0 [oP 4 (.move (.c (.bool false)))])
 (.ret))
 (.skip))))
 (.region 0 [oP 114 (.move (.t 12)),
 oP 115 (.bin .add (.t 114) (.c (.int .i64 1))),
 oP 12 (.move (.t 115))])))))))
 (.region 0 [oP 108 (.move (.t 11)),
 oP 109 (.bin .add (.t 108) (.c (.int .i64 1))),
 oP 11 (.move (.t 109))]))))))
 (.seq (.region 0 [oP 4 (.move (.c (.bool true)))])
 (.ret))))⟩
/-- almadraba/almadrabaref01.free -/
def f85 : AFn := ⟨32, [.tmp 2],
 .seq (.region 0 [oQ 1 (.box (.t 0)),
 oP 2 (.move (.c (.nils)))])
 (.seq (.region 0 [oP 3 (.move (.c (.nils)))])
 (.seq (.seq (.region 0 [oP 4 (.move (.c (.int .i64 0)))])
 (.block 0 (.loop (.seq (.seq (.region 0 [oP 7 (.move (.t 4)),
 oP 8 (.fieldAddr 1 (.t 1)),
 oQ 9 (.load false 1 (.t 8)),
 oP 10 (.bin .lss (.t 7) (.t 9))])
 (.cond (.t 10) (.skip)
 (.exit 0)))
 (.seq (.block 1 (.seq (.region 0 [oP 13 (.fieldAddr 0 (.t 1)),
 oQ 14 (.load false 1 (.t 13)),
 oP 15 (.bin .add (.t 14) (.c (.int .i64 1))),
 oQ 16 (.makeSlice 2 16 [.int .i64 0, .int .i64 0] (.t 15) (.t 15)),
 oP 5 (.move (.t 16))])
 (.seq (.seq (.region 0 [oP 6 (.move (.c (.int .i64 0)))])
 (.block 2 (.loop (.seq (.seq (.region 0 [oP 17 (.move (.t 6)),
 oP 18 (.fieldAddr 0 (.t 1)),
 oQ 19 (.load false 1 (.t 18)),
 oP 20 (.bin .lss (.t 17) (.t 19))])
 (.cond (.t 20) (.skip)
 (.exit 2)))
 (.seq (.block 3 (.region 0 [oP 23 (.move (.t 5)),
 oP 24 (.move (.t 6)),
 oP 25 (.idxSl 2 (.t 23) (.t 24)),
 oP 26 (.fieldAddr 1 (.t 25)),
 ⟨none, .store 1 (.t 26) (.c (.int .i64 40)), none, none, []⟩]))
 (.region 0 [oP 21 (.move (.t 6)),
 oP 22 (.bin .add (.t 21) (.c (.int .i64 1))),
 oP 6 (.move (.t 22))]))))))
 (.region 0 [oP 27 (.move (.t 3)),
 oP 28 (.move (.t 5)),
 oQ 29 (.buildSlice 1 1 [.nils] [(0, (.t 28))]),
 oQ 30 (.append false 1 24 (.t 27) (.t 29)),
 oP 3 (.move (.t 30))]))))
 (.region 0 [oP 11 (.move (.t 4)),
 oP 12 (.bin .add (.t 11) (.c (.int .i64 1))),
 oP 4 (.move (.t 12))]))))))
 (.seq (.region 0 [oP 31 (.move (.t 3)),
 oP 2 (.move (.t 31))])
 (.ret))))⟩
/-- (*almadraba/counts.trap).enough -/
def f86 : AFn := ⟨45, [.cell true 2 4, .tmp 5],
 .seq (.region 0 [oQ 4 (.alloc [.int .i64 0, .int .i64 0]),
 oP 5 (.move (.c (.int .i64 0)))])
 (.seq (.region 0 [oP 6 (.move (.c (.int .i64 (-1))))])
 (.seq (.seq (.region 0 [oP 9 (.move (.t 0)),
 oP 10 (.nilCheck (.t 9)),
 oP 11 (.fieldAddr 0 (.t 10)),
 oP 12 (.fieldAddr 1 (.t 11)),
 oQ 13 (.load false 1 (.t 12)),
 oP 14 (.move (.c (.int .i64 0)))])
 (.block 0 (.loop (.seq (.region 0 [oP 15 (.bin .lss (.t 14) (.t 13))])
 (.seq (.cond (.t 15) (.skip)
 (.exit 0))
 (.seq (.block 1 (.seq (.region 0 [oP 16 (.move (.t 14)),
 oP 7 (.move (.t 16))])
 (.seq (.region 0 [oP 17 (.move (.t 0)),
 oP 18 (.move (.t 7)),
 oP 19 (.move (.t 0)),
 oP 20 (.nilCheck (.t 19)),
 oP 21 (.fieldAddr 0 (.t 20)),
 oP 22 (.fieldAddr 0 (.t 21)),
 oQ 23 (.load false 1 (.t 22)),
 oP 24 (.bin .sub (.t 23) (.c (.int .i64 1))),
 oP 25 (.build [.int .i64 0, .int .i64 0] [(0, 1, (.t 18)), (1, 1, (.t 24))]),
 oQ 26 (.call 3 82 [(.t 17), (.t 25)]),
 oQ 8 (.alloc [.int .i64 0, .int .i64 0]),
 ⟨none, .store 2 (.t 8) (.t 26), none, none, []⟩])
 (.seq (.seq (.region 0 [oP 27 (.move (.t 6)),
 oP 28 (.bin .lss (.t 27) (.c (.int .i64 0))),
 oP 29 (.move (.t 28)),
 oG 30 29 true (.fieldAddr 1 (.t 8)),
 ⟨(some 31), .load false 1 (.t 30), (some (29, true)), none, []⟩,
 oG 32 29 true (.move (.t 1)),
 oG 33 29 true (.bin .geq (.t 31) (.t 32)),
 oP 34 (.pick (.t 29) (.t 33) (.c (.bool false)))])
 (.cond (.t 34) (.region 0 [oP 35 (.move (.t 7)),
 oP 6 (.move (.t 35))])
 (.skip)))
 (.seq (.region 0 [oP 36 (.fieldAddr 0 (.t 8)),
 oQ 37 (.load false 1 (.t 36)),
 oP 38 (.move (.t 1)),
 oP 39 (.bin .geq (.t 37) (.t 38))])
 (.cond (.t 39) (.seq (.region 0 [oP 40 (.move (.t 6)),
 oP 41 (.move (.t 7)),
 oP 42 (.build [.int .i64 0, .int .i64 0] [(0, 1, (.t 40)), (1, 1, (.t 41))]),
 ⟨none, .store 2 (.t 4) (.t 42), none, none, []⟩,
 oP 5 (.move (.c (.int .i64 0)))])
 (.ret))
 (.skip)))))))
 (.region 0 [oP 43 (.bin .add (.t 14) (.c (.int .i64 1))),
 oP 14 (.move (.t 43))])))))))
 (.seq (.region 0 [oP 44 (.build [.int .i64 0, .int .i64 0] []),
 ⟨none, .store 2 (.t 4) (.t 44), none, none, []⟩,
 oP 5 (.move (.c (.int .i64 3)))])
 (.ret))))⟩
/-- (*almadraba/counts.trap).tell -/
def f87 : AFn := ⟨32, [.tmp 4],
 .seq (.region 0 [oQ 3 (.box (.t 1)),
 oP 4 (.move (.c (.int .i64 0)))])
 (.seq (.region 0 [oP 5 (.move (.c (.int .i64 0)))])
 (.seq (.region 0 [oP 9 (.move (.t 0)),
 oQ 10 (.load true 2 (.t 3)),
 oQ 11 (.call 3 82 [(.t 9), (.t 10)]),
 oQ 6 (.alloc [.int .i64 0, .int .i64 0]),
 ⟨none, .store 2 (.t 6) (.t 11), none, none, []⟩])
 (.seq (.seq (.region 0 [oP 12 (.fieldAddr 0 (.t 6)),
 oQ 13 (.load false 1 (.t 12)),
 oP 7 (.move (.t 13))])
 (.block 0 (.loop (.seq (.seq (.region 0 [oP 14 (.move (.t 7)),
 oP 15 (.fieldAddr 1 (.t 6)),
 oQ 16 (.load false 1 (.t 15)),
 oP 17 (.bin .leq (.t 14) (.t 16))])
 (.cond (.t 17) (.skip)
 (.exit 0)))
 (.seq (.block 1 (.seq (.region 0 [oP 20 (.move (.t 0)),
 oP 21 (.nilCheck (.t 20)),
 oQ 22 (.load true 445 (.t 21)),
 oQ 8 (.alloc [.int .i64 0, .int .i64 0, .nils, .nils, .int .i64 0, .int .i64 0, .int .i64 0, .int .i64 0, .int .i64 0, .int .i64 0, .int .i64 0, .int .i64 0, .int .i64 0, .int .i64 0, .int .i64 0, .int .i64 0, .int .i64 0, .int .i64 0, .int .i64 0, .int .i64 0, .int .i64 0, .int .i64 0, .int .i64 0, .int .i64 0, .int .i64 0, .int .i64 0, .int .i64 0, .int .i64 0, .int .i64 0, .int .i64 0, .int .i64 0, .int .i64 0, .int .i64 0, .int .i64 0, .int .i64 0, .int .i64 0, .int .i64 0, .int .i64 0, .int .i64 0, .int .i64 0, .int .i64 0, .int .i64 0, .int .i64 0, .int .i64 0, .int .i64 0, .int .i64 0, .int .i64 0, .int .i64 0, .int .i64 0, .int .i64 0, .int .i64 0, .int .i64 0, .int .i64 0, .int .i64 0, .int .i64 0, .int .i64 0, .int .i64 0, .int .i64 0, .int .i64 0, .int .i64 0, .int .i64 0, .int .i64 0, .int .i64 0, .int .i64 0, .int .i64 0, .int .i64 0, .int .i64 0, .int .i64 0, .int .i64 0, .int .i64 0, .int .i64 0, .int .i64 0, .int .i64 0, .int .i64 0, .int .i64 0, .int .i64 0, .int .i64 0, .int .i64 0, .int .i64 0, .int .i64 0, .int .i64 0, .int .i64 0, .int .i64 0, .int .i64 0, .int .i64 0, .int .i64 0, .int .i64 0, .int .i64 0, .int .i64 0, .int .i64 0, .int .i64 0, .int .i64 0, .int .i64 0, .int .i64 0, .int .i64 0, .int .i64 0, .int .i64 0, .int .i64 0, .int .i64 0, .int .i64 0, .int .i64 0, .int .i64 0, .int .i64 0, .int .i64 0, .int .i64 0, .int .i64 0, .int .i64 0, .int .i64 0, .int .i64 0, .int .i64 0, .int .i64 0, .int .i64 0, .int .i64 0, .int .i64 0, .int .i64 0, .int .i64 0, .int .i64 0, .int .i64 0, .int .i64 0, .int .i64 0, .int .i64 0, .int .i64 0, .int .i64 0, .int .i64 0, .int .i64 0, .int .i64 0, .int .i64 0, .int .i64 0, .int .i64 0, .int .i64 0, .int .i64 0, .int .i64 0, .int .i64 0, .int .i64 0, .int .i64 0, .int .i64 0, .int .i64 0, .int .i64 0, .int .i64 0, .int .i64 0, .int .i64 0, .int .i64 0, .int .i64 0, .int .i64 0, .int .i64 0, .int .i64 0, .int .i64 0, .int .i64 0, .int .i64 0, .int .i64 0, .int .i64 0, .int .i64 0, .int .i64 0, .int .i64 0, .int .i64 0, .int .i64 0, .int .i64 0, .int .i64 0, .int .i64 0, .int .i64 0, .int .i64 0, .int .i64 0, .int .i64 0, .int .i64 0, .int .i64 0, .int .i64 0, .int .i64 0, .int .i64 0, .int .i64 0, .int .i64 0, .int .i64 0, .int .i64 0, .int .i64 0, .int .i64 0, .int .i64 0, .int .i64 0, .int .i64 0, .int .i64 0, .int .i64 0, .int .i64 0, .int .i64 0, .int .i64 0, .int .i64 0, .int .i64 0, .int .i64 0, .int .i64 0, .int .i64 0, .int .i64 0, .int .i64 0, .int .i64 0, .int .i64 0, .int .i64 0, .int .i64 0, .int .i64 0, .int .i64 0, .int .i64 0, .int .i64 0, .int .i64 0, .int .i64 0, .int .i64 0, .int .i64 0, .int .i64 0, .int .i64 0, .int .i64 0, .int .i64 0, .int .i64 0, .int .i64 0, .int .i64 0, .int .i64 0, .int .i64 0, .int .i64 0, .int .i64 0, .int .i64 0, .int .i64 0, .int .i64 0, .int .i64 0, .int .i64 0, .int .i64 0, .int .i64 0, .int .i64 0, .int .i64 0, .int .i64 0, .int .i64 0, .int .i64 0, .int .i64 0, .int .i64 0, .int .i64 0, .int .i64 0, .int .i64 0, .int .i64 0, .int .i64 0, .int .i64 0, .int .i64 0, .int .i64 0, .int .i64 0, .int .i64 0, .int .i64 0, .int .i64 0, .int .i64 0, .int .i64 0, .int .i64 0, .int .i64 0, .int .i64 0, .int .i64 0, .int .i64 0, .int .i64 0, .int .i64 0, .int .i64 0, .int .i64 0, .int .i64 0, .int .i64 0, .int .i64 0, .int .i64 0, .int .i64 0, .int .i64 0, .int .i64 0, .int .i64 0, .int .i64 0, .int .i64 0, .int .i64 0, .int .i64 0, .int .i64 0, .int .i64 0, .int .i64 0, .int .i64 0, .int .i64 0, .int .i64 0, .int .i64 0, .int .i64 0, .int .i64 0, .int .i64 0, .int .i64 0, .int .i64 0, .int .i64 0, .int .i64 0, .int .i64 0, .int .i64 0, .int .i64 0, .int .i64 0, .int .i64 0, .int .i64 0, .int .i64 0, .int .i64 0, .int .i64 0, .int .i64 0, .int .i64 0, .int .i64 0, .int .i64 0, .int .i64 0, .int .i64 0, .int .i64 0, .int .i64 0, .int .i64 0, .int .i64 0, .int .i64 0, .int .i64 0, .int .i64 0, .int .i64 0, .int .i64 0, .int .i64 0, .int .i64 0, .int .i64 0, .int .i64 0, .int .i64 0, .int .i64 0, .int .i64 0, .int .i64 0, .int .i64 0, .int .i64 0, .int .i64 0, .int .i64 0, .int .i64 0, .int .i64 0, .int .i64 0, .int .i64 0, .int .i64 0, .int .i64 0, .int .i64 0, .int .i64 0, .int .i64 0, .int .i64 0, .int .i64 0, .int .i64 0, .int .i64 0, .int .i64 0, .int .i64 0, .int .i64 0, .int .i64 0, .int .i64 0, .int .i64 0, .int .i64 0, .int .i64 0, .int .i64 0, .int .i64 0, .int .i64 0, .int .i64 0, .int .i64 0, .int .i64 0, .int .i64 0, .int .i64 0, .int .i64 0, .int .i64 0, .int .i64 0, .int .i64 0, .int .i64 0, .int .i64 0, .int .i64 0, .int .i64 0, .int .i64 0, .int .i64 0, .int .i64 0, .int .i64 0, .int .i64 0, .int .i64 0, .int .i64 0, .int .i64 0, .int .i64 0, .int .i64 0, .int .i64 0, .int .i64 0, .int .i64 0, .int .i64 0, .int .i64 0, .int .i64 0, .int .i64 0, .int .i64 0, .int .i64 0, .int .i64 0, .int .i64 0, .int .i64 0, .int .i64 0, .int .i64 0, .int .i64 0, .int .i64 0, .int .i64 0, .int .i64 0, .int .i64 0, .int .i64 0, .int .i64 0, .int .i64 0, .int .i64 0, .int .i64 0, .int .i64 0, .int .i64 0, .int .i64 0, .int .i64 0, .int .i64 0, .int .i64 0, .int .i64 0, .int .i64 0, .int .i64 0, .int .i64 0, .int .i64 0, .int .i64 0, .int .i64 0, .int .i64 0, .int .i64 0, .int .i64 0, .int .i64 0, .int .i64 0, .int .i64 0, .int .i64 0, .int .i64 0, .int .i64 0, .int .i64 0, .int .i64 0, .int .i64 0, .int .i64 0, .int .i64 0, .int .i64 0, .int .i64 0, .int .i64 0, .int .i64 0, .int .i64 0, .int .i64 0, .int .i64 0, .int .i64 0, .int .i64 0, .int .i64 0, .int .i64 0, .int .i64 0, .int .i64 0, .int .i64 0, .int .i64 0, .int .i64 0, .int .i64 0, .int .i64 0, .int .i64 0, .int .i64 0, .int .i64 0, .int .i64 0, .int .i64 0, .int .i64 0, .int .i64 0, .int .i64 0, .int .i64 0, .int .i64 0, .int .i64 0, .int .i64 0, .int .i64 0, .int .i64 0, .int .i64 0, .int .i64 0, .int .i64 0, .int .i64 0]),
 ⟨none, .store 445 (.t 8) (.t 22), none, none, []⟩])
 (.seq (.region 0 [oQ 23 (.load true 2 (.t 3)),
 oP 24 (.move (.t 7)),
 oP 25 (.move (.t 7)),
 oP 26 (.build [.int .i64 0, .int .i64 0] [(0, 1, (.t 24)), (1, 1, (.t 25))]),
 oQ 27 (.call 0 101 [(.t 8), (.t 23), (.t 26)])])
 (.cond (.t 27) (.region 0 [oP 28 (.move (.t 5)),
 oQ 29 (.call 3 102 [(.t 8)]),
 oP 30 (.minmax true (.t 28) [(.t 29)]),
 oP 5 (.move (.t 30))])
 (.skip)))))
 (.region 0 [oP 18 (.move (.t 7)),
 oP 19 (.bin .add (.t 18) (.c (.int .i64 1))),
 oP 7 (.move (.t 19))]))))))
 (.seq (.region 0 [oP 31 (.move (.t 5)),
 oP 4 (.move (.t 31))])
 (.ret)))))⟩
/-- almadraba/counts.build -/
def f90 : AFn := ⟨20, [.tmp 2, .tmp 3],
 .seq (.region 0 [oQ 1 (.box (.t 0)),
 oP 2 (.move (.c (.nilp))),
 oP 3 (.move (.c (.bool false)))])
 (.seq (.region 1 [⟨(some 5), .load true 4 (.t 1), none, none, [0]⟩,
 ⟨(some 6), .call 1 106 [], none, none, [0]⟩,
 oP 7 (.build [.int .i64 0, .int .i64 0, .nils, .nils, .int .i64 0, .int .i64 0, .int .i64 0, .int .i64 0, .int .i64 0, .int .i64 0, .int .i64 0, .int .i64 0, .int .i64 0, .int .i64 0, .int .i64 0, .int .i64 0, .int .i64 0, .int .i64 0, .int .i64 0, .int .i64 0, .int .i64 0, .int .i64 0, .int .i64 0, .int .i64 0, .int .i64 0, .int .i64 0, .int .i64 0, .int .i64 0, .int .i64 0, .int .i64 0, .int .i64 0, .int .i64 0, .int .i64 0, .int .i64 0, .int .i64 0, .int .i64 0, .int .i64 0, .int .i64 0, .int .i64 0, .int .i64 0, .int .i64 0, .int .i64 0, .int .i64 0, .int .i64 0, .int .i64 0, .int .i64 0, .int .i64 0, .int .i64 0, .int .i64 0, .int .i64 0, .int .i64 0, .int .i64 0, .int .i64 0, .int .i64 0, .int .i64 0, .int .i64 0, .int .i64 0, .int .i64 0, .int .i64 0, .int .i64 0, .int .i64 0, .int .i64 0, .int .i64 0, .int .i64 0, .int .i64 0, .int .i64 0, .int .i64 0, .int .i64 0, .int .i64 0, .int .i64 0, .int .i64 0, .int .i64 0, .int .i64 0, .int .i64 0, .int .i64 0, .int .i64 0, .int .i64 0, .int .i64 0, .int .i64 0, .int .i64 0, .int .i64 0, .int .i64 0, .int .i64 0, .int .i64 0, .int .i64 0, .int .i64 0, .int .i64 0, .int .i64 0, .int .i64 0, .int .i64 0, .int .i64 0, .int .i64 0, .int .i64 0, .int .i64 0, .int .i64 0, .int .i64 0, .int .i64 0, .int .i64 0, .int .i64 0, .int .i64 0, .int .i64 0, .int .i64 0, .int .i64 0, .int .i64 0, .int .i64 0, .int .i64 0, .int .i64 0, .int .i64 0, .int .i64 0, .int .i64 0, .int .i64 0, .int .i64 0, .int .i64 0, .int .i64 0, .int .i64 0, .int .i64 0, .int .i64 0, .int .i64 0, .int .i64 0, .int .i64 0, .int .i64 0, .int .i64 0, .int .i64 0, .int .i64 0, .int .i64 0, .int .i64 0, .int .i64 0, .int .i64 0, .int .i64 0, .int .i64 0, .int .i64 0, .int .i64 0, .int .i64 0, .int .i64 0, .int .i64 0, .int .i64 0, .int .i64 0, .int .i64 0, .int .i64 0, .int .i64 0, .int .i64 0, .int .i64 0, .int .i64 0, .int .i64 0, .int .i64 0, .int .i64 0, .int .i64 0, .int .i64 0, .int .i64 0, .int .i64 0, .int .i64 0, .int .i64 0, .int .i64 0, .int .i64 0, .int .i64 0, .int .i64 0, .int .i64 0, .int .i64 0, .int .i64 0, .int .i64 0, .int .i64 0, .int .i64 0, .int .i64 0, .int .i64 0, .int .i64 0, .int .i64 0, .int .i64 0, .int .i64 0, .int .i64 0, .int .i64 0, .int .i64 0, .int .i64 0, .int .i64 0, .int .i64 0, .int .i64 0, .int .i64 0, .int .i64 0, .int .i64 0, .int .i64 0, .int .i64 0, .int .i64 0, .int .i64 0, .int .i64 0, .int .i64 0, .int .i64 0, .int .i64 0, .int .i64 0, .int .i64 0, .int .i64 0, .int .i64 0, .int .i64 0, .int .i64 0, .int .i64 0, .int .i64 0, .int .i64 0, .int .i64 0, .int .i64 0, .int .i64 0, .int .i64 0, .int .i64 0, .int .i64 0, .int .i64 0, .int .i64 0, .int .i64 0, .int .i64 0, .int .i64 0, .int .i64 0, .int .i64 0, .int .i64 0, .int .i64 0, .int .i64 0, .int .i64 0, .int .i64 0, .int .i64 0, .int .i64 0, .int .i64 0, .int .i64 0, .int .i64 0, .int .i64 0, .int .i64 0, .int .i64 0, .int .i64 0, .int .i64 0, .int .i64 0, .int .i64 0, .int .i64 0, .int .i64 0, .int .i64 0, .int .i64 0, .int .i64 0, .int .i64 0, .int .i64 0, .int .i64 0, .int .i64 0, .int .i64 0, .int .i64 0, .int .i64 0, .int .i64 0, .int .i64 0, .int .i64 0, .int .i64 0, .int .i64 0, .int .i64 0, .int .i64 0, .int .i64 0, .int .i64 0, .int .i64 0, .int .i64 0, .int .i64 0, .int .i64 0, .int .i64 0, .int .i64 0, .int .i64 0, .int .i64 0, .int .i64 0, .int .i64 0, .int .i64 0, .int .i64 0, .int .i64 0, .int .i64 0, .int .i64 0, .int .i64 0, .int .i64 0, .int .i64 0, .int .i64 0, .int .i64 0, .int .i64 0, .int .i64 0, .int .i64 0, .int .i64 0, .int .i64 0, .int .i64 0, .int .i64 0, .int .i64 0, .int .i64 0, .int .i64 0, .int .i64 0, .int .i64 0, .int .i64 0, .int .i64 0, .int .i64 0, .int .i64 0, .int .i64 0, .int .i64 0, .int .i64 0, .int .i64 0, .int .i64 0, .int .i64 0, .int .i64 0, .int .i64 0, .int .i64 0, .int .i64 0, .int .i64 0, .int .i64 0, .int .i64 0, .int .i64 0, .int .i64 0, .int .i64 0, .int .i64 0, .int .i64 0, .int .i64 0, .int .i64 0, .int .i64 0, .int .i64 0, .int .i64 0, .int .i64 0, .int .i64 0, .int .i64 0, .int .i64 0, .int .i64 0, .int .i64 0, .int .i64 0, .int .i64 0, .int .i64 0, .int .i64 0, .int .i64 0, .int .i64 0, .int .i64 0, .int .i64 0, .int .i64 0, .int .i64 0, .int .i64 0, .int .i64 0, .int .i64 0, .int .i64 0, .int .i64 0, .int .i64 0, .int .i64 0, .int .i64 0, .int .i64 0, .int .i64 0, .int .i64 0, .int .i64 0, .int .i64 0, .int .i64 0, .int .i64 0, .int .i64 0, .int .i64 0, .int .i64 0, .int .i64 0, .int .i64 0, .int .i64 0, .int .i64 0, .int .i64 0, .int .i64 0, .int .i64 0, .int .i64 0, .int .i64 0, .int .i64 0, .int .i64 0, .int .i64 0, .int .i64 0, .int .i64 0, .int .i64 0, .int .i64 0, .int .i64 0, .int .i64 0, .int .i64 0, .int .i64 0, .int .i64 0, .int .i64 0, .int .i64 0, .int .i64 0, .int .i64 0, .int .i64 0, .int .i64 0, .int .i64 0, .int .i64 0, .int .i64 0, .int .i64 0, .int .i64 0, .int .i64 0, .int .i64 0, .int .i64 0, .int .i64 0, .int .i64 0, .int .i64 0, .int .i64 0, .int .i64 0, .int .i64 0, .int .i64 0, .int .i64 0, .int .i64 0, .int .i64 0, .int .i64 0, .int .i64 0, .int .i64 0, .int .i64 0, .int .i64 0, .int .i64 0, .int .i64 0, .int .i64 0, .int .i64 0, .int .i64 0, .int .i64 0, .int .i64 0, .int .i64 0, .int .i64 0, .int .i64 0, .int .i64 0, .int .i64 0, .int .i64 0, .int .i64 0, .int .i64 0, .int .i64 0, .int .i64 0, .int .i64 0, .int .i64 0, .int .i64 0, .int .i64 0, .int .i64 0, .int .i64 0, .int .i64 0, .int .i64 0, .int .i64 0, .int .i64 0, .int .i64 0, .int .i64 0, .int .i64 0, .int .i64 0, .int .i64 0, .int .i64 0, .int .i64 0, .int .i64 0, .int .i64 0, .int .i64 0, .int .i64 0, .int .i64 0, .int .i64 0, .int .i64 0, .int .i64 0, .int .i64 0, .int .i64 0, .int .i64 0, .int .i64 0, .int .i64 0, .int .i64 0, .int .i64 0, .int .i64 0, .int .i64 0, .int .i64 0, .int .i64 0, .int .i64 0, .int .i64 0, .int .i64 0] [(0, 4, (.t 5)), (4, 441, (.t 6))]),
 ⟨(some 8), .box (.t 7), none, (some 0), []⟩,
 oP 4 (.move (.t 8))])
 (.seq (.region 0 [oP 9 (.move (.t 4)),
 oP 10 (.move (.t 4)),
 oQ 11 (.call 0 107 [(.t 10)]),
 oP 12 (.move (.t 11)),
 oG 13 12 true (.move (.t 4)),
 ⟨(some 14), .call 0 108 [(.t 13)], (some (12, true)), none, []⟩,
 oP 15 (.pick (.t 12) (.t 14) (.c (.bool false))),
 oP 16 (.move (.t 15)),
 oG 17 16 true (.move (.t 4)),
 ⟨(some 18), .call 0 109 [(.t 17)], (some (16, true)), none, []⟩,
 oP 19 (.pick (.t 16) (.t 18) (.c (.bool false))),
 oP 2 (.move (.t 9)),
 oP 3 (.move (.t 19))])
 (.ret)))⟩
/-- almadraba/counts.valid -/
def f91 : AFn := ⟨63, [.tmp 2],
 .seq (.region 0 [oQ 1 (.box (.t 0)),
 oP 2 (.move (.c (.bool false)))])
 (.seq (.seq (.region 0 [oP 7 (.fieldAddr 0 (.t 1)),
 oQ 8 (.load false 1 (.t 7)),
 oP 9 (.bin .lss (.t 8) (.c (.int .i64 1))),
 oP 10 (.move (.t 9)),
 oG 11 10 false (.fieldAddr 0 (.t 1)),
 ⟨(some 12), .load false 1 (.t 11), (some (10, false)), none, []⟩,
 oG 13 10 false (.bin .gtr (.t 12) (.c (.int .i64 4))),
 oP 14 (.pick (.t 10) (.c (.bool true)) (.t 13)),
 oP 15 (.move (.t 14)),
 oG 16 15 false (.fieldAddr 1 (.t 1)),
 ⟨(some 17), .load false 1 (.t 16), (some (15, false)), none, []⟩,
 oG 18 15 false (.bin .lss (.t 17) (.c (.int .i64 1))),
 oP 19 (.pick (.t 15) (.c (.bool true)) (.t 18)),
 oP 20 (.move (.t 19)),
 oG 21 20 false (.fieldAddr 1 (.t 1)),
 ⟨(some 22), .load false 1 (.t 21), (some (20, false)), none, []⟩,
 oG 23 20 false (.bin .gtr (.t 22) (.c (.int .i64 5))),
 oP 24 (.pick (.t 20) (.c (.bool true)) (.t 23))])
 (.cond (.t 24) (.seq (.region 0 [oP 2 (.move (.c (.bool false)))])
 (.ret))
 (.skip)))
 (.seq (.seq (.region 0 [oP 25 (.fieldAddr 2 (.t 1)),
 oQ 26 (.load false 1 (.t 25)),
 oP 27 (.lenS (.t 26)),
 oP 28 (.fieldAddr 1 (.t 1)),
 oQ 29 (.load false 1 (.t 28)),
 oP 30 (.bin .sub (.t 29) (.c (.int .i64 1))),
 oP 31 (.bin .neq (.t 27) (.t 30)),
 oP 32 (.move (.t 31)),
 oG 33 32 false (.fieldAddr 3 (.t 1)),
 ⟨(some 34), .load false 1 (.t 33), (some (32, false)), none, []⟩,
 oG 35 32 false (.lenS (.t 34)),
 oG 36 32 false (.bin .gtr (.t 35) (.c (.int .i64 8))),
 oP 37 (.pick (.t 32) (.c (.bool true)) (.t 36))])
 (.cond (.t 37) (.seq (.region 0 [oP 2 (.move (.c (.bool false)))])
 (.ret))
 (.skip)))
 (.seq (.seq (.region 0 [oP 38 (.fieldAddr 2 (.t 1)),
 oQ 39 (.load false 1 (.t 38)),
 oP 40 (.lenS (.t 39)),
 oP 41 (.move (.c (.int .i64 0)))])
 (.block 0 (.loop (.seq (.region 0 [oP 42 (.bin .lss (.t 41) (.t 40))])
 (.seq (.cond (.t 42) (.skip)
 (.exit 0))
 (.seq (.block 1 (.seq (.region 0 [oP 43 (.idxSl 1 (.t 39) (.t 41)),
 oQ 44 (.load false 1 (.t 43)),
 oP 4 (.move (.t 44))])
 (.seq (.region 0 [oP 45 (.move (.t 4)),
 oP 46 (.fieldAddr 0 (.t 1)),
 oQ 47 (.load false 1 (.t 46)),
 oQ 48 (.call 1 110 [(.t 45), (.t 47)]),
 oP 49 (.un .not (.t 48))])
 (.cond (.t 49) (.seq (.region 0 [oP 2 (.move (.c (.bool false)))])
 (.ret))
 (.skip)))))
 (.region 0 [oP 50 (.bin .add (.t 41) (.c (.int .i64 1))),
 oP 41 (.move (.t 50))])))))))
 (.seq (.seq (.region 0 [oP 51 (.fieldAddr 3 (.t 1)),
 oQ 52 (.load false 1 (.t 51)),
 oP 53 (.lenS (.t 52)),
 oP 54 (.move (.c (.int .i64 0)))])
 (.block 2 (.loop (.seq (.region 0 [oP 55 (.bin .lss (.t 54) (.t 53))])
 (.seq (.cond (.t 55) (.skip)
 (.exit 2))
 (.seq (.block 3 (.seq (.region 0 [oP 56 (.idxSl 4 (.t 52) (.t 54)),
 oQ 57 (.load true 4 (.t 56)),
 oQ 6 (.alloc [.int .i64 0, .int .i64 0, .int .i64 0, .int .i64 0]),
 ⟨none, .store 4 (.t 6) (.t 57), none, none, []⟩])
 (.seq (.region 0 [oQ 58 (.load true 4 (.t 1)),
 oQ 59 (.load true 4 (.t 6)),
 oQ 60 (.call 1 79 [(.t 58), (.t 59)]),
 oP 61 (.un .not (.t 60))])
 (.cond (.t 61) (.seq (.region 0 [oP 2 (.move (.c (.bool false)))])
 (.ret))
 (.skip)))))
 (.region 0 [oP 62 (.bin .add (.t 54) (.c (.int .i64 1))),
 oP 54 (.move (.t 62))])))))))
 (.seq (.region 0 [oP 2 (.move (.c (.bool true)))])
 (.ret))))))⟩
/-- (*almadraba/counts.trap).least -/
def f99 : AFn := ⟨16, [.tmp 6],
 .seq (.region 0 [oP 6 (.move (.c (.int .i64 0)))])
 (.seq (.region 0 [oP 7 (.move (.t 0)),
 oP 8 (.nilCheck (.t 7)),
 oP 9 (.fieldAddr 4 (.t 8)),
 oP 10 (.move (.t 0)),
 oP 11 (.move (.t 1)),
 oP 12 (.move (.t 2)),
 oQ 13 (.call 3 76 [(.t 10), (.t 11), (.t 12)]),
 oQ 14 (.call 3 75 [(.t 9), (.t 13), (.c (.int .i64 0))]),
 oP 15 (.field false 0 1 (.t 14)),
 oP 6 (.move (.t 15))])
 (.ret))⟩
/-- almadraba/almadrabaref01.differ -/
def f100 : AFn := ⟨85, [.tmp 14],
 .seq (.region 0 [oP 14 (.move (.c (.bool false)))])
 (.seq (.region 2 [oP 17 (.move (.t 0)),
 oP 18 (.move (.t 1)),
 oP 19 (.idxSl 1 (.t 17) (.t 18)),
 ⟨(some 20), .load false 1 (.t 19), none, none, [0, 1]⟩,
 oP 21 (.move (.t 2)),
 oP 22 (.idxSl 2 (.t 20) (.t 21)),
 ⟨(some 23), .load true 2 (.t 22), none, none, [0, 1]⟩,
 oP 24 (.move (.t 0)),
 oP 25 (.move (.t 3)),
 oP 26 (.idxSl 1 (.t 24) (.t 25)),
 ⟨(some 27), .load false 1 (.t 26), none, none, [0, 1]⟩,
 oP 28 (.move (.t 4)),
 oP 29 (.idxSl 2 (.t 27) (.t 28)),
 ⟨(some 30), .load true 2 (.t 29), none, none, [0, 1]⟩,
 ⟨(some 15), .alloc [.int .i64 0, .int .i64 0], none, (some 0), []⟩,
 ⟨(some 16), .alloc [.int .i64 0, .int .i64 0], none, (some 1), []⟩,
 ⟨none, .store 2 (.t 15) (.t 23), none, (some 0), []⟩,
 ⟨none, .store 2 (.t 16) (.t 30), none, (some 1), []⟩])
 (.seq (.region 0 [oP 31 (.move (.t 0)),
 oP 32 (.move (.t 1)),
 oP 33 (.idxSl 1 (.t 31) (.t 32)),
 oQ 34 (.load false 1 (.t 33)),
 oP 35 (.move (.t 2)),
 oQ 36 (.load true 2 (.t 15)),
 oP 37 (.fieldAddr 0 (.t 16)),
 oQ 38 (.load false 1 (.t 37)),
 oP 39 (.move (.t 5)),
 oP 40 (.bin .add (.t 38) (.t 39)),
 oP 41 (.fieldAddr 1 (.t 16)),
 oQ 42 (.load false 1 (.t 41)),
 oP 43 (.move (.t 6)),
 oP 44 (.bin .add (.t 42) (.t 43)),
 oP 45 (.build [.int .i64 0, .int .i64 0] [(0, 1, (.t 40)), (1, 1, (.t 44))]),
 oQ 46 (.call 1 113 [(.t 36), (.t 45)]),
 oP 47 (.idxSl 2 (.t 34) (.t 35)),
 ⟨none, .store 2 (.t 47) (.t 46), none, none, []⟩])
 (.seq (.region 0 [oP 48 (.move (.t 0)),
 oP 49 (.move (.t 3)),
 oP 50 (.idxSl 1 (.t 48) (.t 49)),
 oQ 51 (.load false 1 (.t 50)),
 oP 52 (.move (.t 4)),
 oQ 53 (.load true 2 (.t 16)),
 oP 54 (.fieldAddr 0 (.t 15)),
 oQ 55 (.load false 1 (.t 54)),
 oP 56 (.move (.t 6)),
 oP 57 (.bin .sub (.t 55) (.t 56)),
 oP 58 (.fieldAddr 1 (.t 15)),
 oQ 59 (.load false 1 (.t 58)),
 oP 60 (.move (.t 5)),
 oP 61 (.bin .sub (.t 59) (.t 60)),
 oP 62 (.build [.int .i64 0, .int .i64 0] [(0, 1, (.t 57)), (1, 1, (.t 61))]),
 oQ 63 (.call 1 113 [(.t 53), (.t 62)]),
 oP 64 (.idxSl 2 (.t 51) (.t 52)),
 ⟨none, .store 2 (.t 64) (.t 63), none, none, []⟩])
 (.seq (.region 0 [oP 65 (.move (.t 0)),
 oP 66 (.move (.t 1)),
 oP 67 (.idxSl 1 (.t 65) (.t 66)),
 oQ 68 (.load false 1 (.t 67)),
 oP 69 (.move (.t 2)),
 oP 70 (.idxSl 2 (.t 68) (.t 69)),
 oQ 71 (.load true 2 (.t 70)),
 oQ 72 (.load true 2 (.t 15)),
 oP 73 (.eqS true [true, true] (.t 71) (.t 72)),
 oP 74 (.move (.t 73)),
 oG 75 74 false (.move (.t 0)),
 oG 76 74 false (.move (.t 3)),
 oG 77 74 false (.idxSl 1 (.t 75) (.t 76)),
 ⟨(some 78), .load false 1 (.t 77), (some (74, false)), none, []⟩,
 oG 79 74 false (.move (.t 4)),
 oG 80 74 false (.idxSl 2 (.t 78) (.t 79)),
 ⟨(some 81), .load true 2 (.t 80), (some (74, false)), none, []⟩,
 ⟨(some 82), .load true 2 (.t 16), (some (74, false)), none, []⟩,
 oG 83 74 false (.eqS true [true, true] (.t 81) (.t 82)),
 oP 84 (.pick (.t 74) (.c (.bool true)) (.t 83)),
 oP 14 (.move (.t 84))])
 (.ret)))))⟩
/-- (*almadraba/counts.trap).say -/
def f101 : AFn := ⟨25, [.tmp 6],
 .seq (.region 0 [oQ 4 (.box (.t 1)),
 oQ 5 (.box (.t 2)),
 oP 6 (.move (.c (.bool false)))])
 (.seq (.region 0 [oP 7 (.move (.t 0)),
 oP 8 (.nilCheck (.t 7)),
 oP 9 (.fieldAddr 4 (.t 8)),
 oP 10 (.move (.t 0)),
 oP 11 (.fieldAddr 0 (.t 4)),
 oQ 12 (.load false 1 (.t 11)),
 oP 13 (.fieldAddr 1 (.t 4)),
 oQ 14 (.load false 1 (.t 13)),
 oQ 15 (.call 3 76 [(.t 10), (.t 12), (.t 14)]),
 oP 16 (.move (.t 0)),
 oP 17 (.fieldAddr 0 (.t 4)),
 oQ 18 (.load false 1 (.t 17)),
 oP 19 (.fieldAddr 1 (.t 4)),
 oQ 20 (.load false 1 (.t 19)),
 oP 21 (.bin .add (.t 20) (.c (.int .i64 1))),
 oQ 22 (.call 3 76 [(.t 16), (.t 18), (.t 21)]),
 oQ 23 (.load true 2 (.t 5)),
 oQ 24 (.call 0 114 [(.t 9), (.t 15), (.t 22), (.t 23)]),
 oP 6 (.move (.t 24))])
 (.ret))⟩
/-- (*almadraba/counts.trap).doubt -/
def f102 : AFn := ⟨13, [.tmp 2],
 .seq (.region 0 [oP 2 (.move (.c (.int .i64 0)))])
 (.seq (.region 0 [oP 4 (.move (.t 0)),
 oP 5 (.move (.t 0)),
 oQ 6 (.call 3 103 [(.t 5)]),
 oQ 7 (.call 3 82 [(.t 4), (.t 6)]),
 oQ 3 (.alloc [.int .i64 0, .int .i64 0]),
 ⟨none, .store 2 (.t 3) (.t 7), none, none, []⟩])
 (.seq (.region 0 [oP 8 (.fieldAddr 1 (.t 3)),
 oQ 9 (.load false 1 (.t 8)),
 oP 10 (.fieldAddr 0 (.t 3)),
 oQ 11 (.load false 1 (.t 10)),
 oP 12 (.bin .sub (.t 9) (.t 11)),
 oP 2 (.move (.t 12))])
 (.ret)))⟩
/-- (*almadraba/counts.trap).last -/
def f103 : AFn := ⟨16, [.cell true 2 2],
 .seq (.region 0 [oQ 2 (.alloc [.int .i64 0, .int .i64 0])])
 (.seq (.region 0 [oP 3 (.move (.t 0)),
 oP 4 (.nilCheck (.t 3)),
 oP 5 (.fieldAddr 0 (.t 4)),
 oP 6 (.fieldAddr 1 (.t 5)),
 oQ 7 (.load false 1 (.t 6)),
 oP 8 (.bin .sub (.t 7) (.c (.int .i64 1))),
 oP 9 (.move (.t 0)),
 oP 10 (.nilCheck (.t 9)),
 oP 11 (.fieldAddr 0 (.t 10)),
 oP 12 (.fieldAddr 0 (.t 11)),
 oQ 13 (.load false 1 (.t 12)),
 oP 14 (.bin .sub (.t 13) (.c (.int .i64 1))),
 oP 15 (.build [.int .i64 0, .int .i64 0] [(0, 1, (.t 8)), (1, 1, (.t 14))]),
 ⟨none, .store 2 (.t 2) (.t 15), none, none, []⟩])
 (.ret))⟩
/-- (*almadraba/counts.trap).places -/
def f104 : AFn := ⟨30, [],
 .seq (.region 0 [oP 6 (.move (.t 0)),
 oP 7 (.nilCheck (.t 6)),
 oP 8 (.fieldAddr 0 (.t 7)),
 oP 9 (.fieldAddr 1 (.t 8)),
 oQ 10 (.load false 1 (.t 9)),
 oP 11 (.move (.c (.int .i64 0)))])
 (.block 0 (.loop (.seq (.region 0 [oP 12 (.bin .lss (.t 11) (.t 10))])
 (.seq (.cond (.t 12) (.skip)
 (.exit 0))
 (.seq (.block 1 (.seq (.region 0 [oP 13 (.move (.t 11)),
 oP 4 (.move (.t 13))])
 (.seq (.region 0 [oP 14 (.move (.t 0)),
 oP 15 (.nilCheck (.t 14)),
 oP 16 (.fieldAddr 0 (.t 15)),
 oP 17 (.fieldAddr 0 (.t 16)),
 oQ 18 (.load false 1 (.t 17)),
 oP 19 (.move (.c (.int .i64 0)))])
 (.block 2 (.loop (.seq (.region 0 [oP 20 (.bin .lss (.t 19) (.t 18))])
 (.seq (.cond (.t 20) (.skip)
 (.exit 2))
 (.seq (.block 3 (.seq (.region 0 [oP 21 (.move (.t 19)),
 oP 5 (.move (.t 21))])
 (.seq (.region 0 [oP 22 (.move (.t 1)),
 oP 23 (.move (.t 4)),
 oP 24 (.move (.t 5)),
 oP 25 (.build [.int .i64 0, .int .i64 0] [(0, 1, (.t 23)), (1, 1, (.t 24))]),
 oQ 26 (.callv false (.t 22) [(.t 25)]),
 oP 27 (.un .not (.t 26))])
 (.cond (.t 27) (.ret)
 (.skip)))))
 (.region 0 [oP 28 (.bin .add (.t 19) (.c (.int .i64 1))),
 oP 19 (.move (.t 28))])))))))))
 (.region 0 [oP 29 (.bin .add (.t 11) (.c (.int .i64 1))),
 oP 11 (.move (.t 29))]))))))⟩
/-- almadraba/counts.widest -/
def f106 : AFn := ⟨24, [.cell true 441 0],
 .seq (.region 0 [oQ 0 (.alloc [.int .i64 0, .int .i64 0, .int .i64 0, .int .i64 0, .int .i64 0, .int .i64 0, .int .i64 0, .int .i64 0, .int .i64 0, .int .i64 0, .int .i64 0, .int .i64 0, .int .i64 0, .int .i64 0, .int .i64 0, .int .i64 0, .int .i64 0, .int .i64 0, .int .i64 0, .int .i64 0, .int .i64 0, .int .i64 0, .int .i64 0, .int .i64 0, .int .i64 0, .int .i64 0, .int .i64 0, .int .i64 0, .int .i64 0, .int .i64 0, .int .i64 0, .int .i64 0, .int .i64 0, .int .i64 0, .int .i64 0, .int .i64 0, .int .i64 0, .int .i64 0, .int .i64 0, .int .i64 0, .int .i64 0, .int .i64 0, .int .i64 0, .int .i64 0, .int .i64 0, .int .i64 0, .int .i64 0, .int .i64 0, .int .i64 0, .int .i64 0, .int .i64 0, .int .i64 0, .int .i64 0, .int .i64 0, .int .i64 0, .int .i64 0, .int .i64 0, .int .i64 0, .int .i64 0, .int .i64 0, .int .i64 0, .int .i64 0, .int .i64 0, .int .i64 0, .int .i64 0, .int .i64 0, .int .i64 0, .int .i64 0, .int .i64 0, .int .i64 0, .int .i64 0, .int .i64 0, .int .i64 0, .int .i64 0, .int .i64 0, .int .i64 0, .int .i64 0, .int .i64 0, .int .i64 0, .int .i64 0, .int .i64 0, .int .i64 0, .int .i64 0, .int .i64 0, .int .i64 0, .int .i64 0, .int .i64 0, .int .i64 0, .int .i64 0, .int .i64 0, .int .i64 0, .int .i64 0, .int .i64 0, .int .i64 0, .int .i64 0, .int .i64 0, .int .i64 0, .int .i64 0, .int .i64 0, .int .i64 0, .int .i64 0, .int .i64 0, .int .i64 0, .int .i64 0, .int .i64 0, .int .i64 0, .int .i64 0, .int .i64 0, .int .i64 0, .int .i64 0, .int .i64 0, .int .i64 0, .int .i64 0, .int .i64 0, .int .i64 0, .int .i64 0, .int .i64 0, .int .i64 0, .int .i64 0, .int .i64 0, .int .i64 0, .int .i64 0, .int .i64 0, .int .i64 0, .int .i64 0, .int .i64 0, .int .i64 0, .int .i64 0, .int .i64 0, .int .i64 0, .int .i64 0, .int .i64 0, .int .i64 0, .int .i64 0, .int .i64 0, .int .i64 0, .int .i64 0, .int .i64 0, .int .i64 0, .int .i64 0, .int .i64 0, .int .i64 0, .int .i64 0, .int .i64 0, .int .i64 0, .int .i64 0, .int .i64 0, .int .i64 0, .int .i64 0, .int .i64 0, .int .i64 0, .int .i64 0, .int .i64 0, .int .i64 0, .int .i64 0, .int .i64 0, .int .i64 0, .int .i64 0, .int .i64 0, .int .i64 0, .int .i64 0, .int .i64 0, .int .i64 0, .int .i64 0, .int .i64 0, .int .i64 0, .int .i64 0, .int .i64 0, .int .i64 0, .int .i64 0, .int .i64 0, .int .i64 0, .int .i64 0, .int .i64 0, .int .i64 0, .int .i64 0, .int .i64 0, .int .i64 0, .int .i64 0, .int .i64 0, .int .i64 0, .int .i64 0, .int .i64 0, .int .i64 0, .int .i64 0, .int .i64 0, .int .i64 0, .int .i64 0, .int .i64 0, .int .i64 0, .int .i64 0, .int .i64 0, .int .i64 0, .int .i64 0, .int .i64 0, .int .i64 0, .int .i64 0, .int .i64 0, .int .i64 0, .int .i64 0, .int .i64 0, .int .i64 0, .int .i64 0, .int .i64 0, .int .i64 0, .int .i64 0, .int .i64 0, .int .i64 0, .int .i64 0, .int .i64 0, .int .i64 0, .int .i64 0, .int .i64 0, .int .i64 0, .int .i64 0, .int .i64 0, .int .i64 0, .int .i64 0, .int .i64 0, .int .i64 0, .int .i64 0, .int .i64 0, .int .i64 0, .int .i64 0, .int .i64 0, .int .i64 0, .int .i64 0, .int .i64 0, .int .i64 0, .int .i64 0, .int .i64 0, .int .i64 0, .int .i64 0, .int .i64 0, .int .i64 0, .int .i64 0, .int .i64 0, .int .i64 0, .int .i64 0, .int .i64 0, .int .i64 0, .int .i64 0, .int .i64 0, .int .i64 0, .int .i64 0, .int .i64 0, .int .i64 0, .int .i64 0, .int .i64 0, .int .i64 0, .int .i64 0, .int .i64 0, .int .i64 0, .int .i64 0, .int .i64 0, .int .i64 0, .int .i64 0, .int .i64 0, .int .i64 0, .int .i64 0, .int .i64 0, .int .i64 0, .int .i64 0, .int .i64 0, .int .i64 0, .int .i64 0, .int .i64 0, .int .i64 0, .int .i64 0, .int .i64 0, .int .i64 0, .int .i64 0, .int .i64 0, .int .i64 0, .int .i64 0, .int .i64 0, .int .i64 0, .int .i64 0, .int .i64 0, .int .i64 0, .int .i64 0, .int .i64 0, .int .i64 0, .int .i64 0, .int .i64 0, .int .i64 0, .int .i64 0, .int .i64 0, .int .i64 0, .int .i64 0, .int .i64 0, .int .i64 0, .int .i64 0, .int .i64 0, .int .i64 0, .int .i64 0, .int .i64 0, .int .i64 0, .int .i64 0, .int .i64 0, .int .i64 0, .int .i64 0, .int .i64 0, .int .i64 0, .int .i64 0, .int .i64 0, .int .i64 0, .int .i64 0, .int .i64 0, .int .i64 0, .int .i64 0, .int .i64 0, .int .i64 0, .int .i64 0, .int .i64 0, .int .i64 0, .int .i64 0, .int .i64 0, .int .i64 0, .int .i64 0, .int .i64 0, .int .i64 0, .int .i64 0, .int .i64 0, .int .i64 0, .int .i64 0, .int .i64 0, .int .i64 0, .int .i64 0, .int .i64 0, .int .i64 0, .int .i64 0, .int .i64 0, .int .i64 0, .int .i64 0, .int .i64 0, .int .i64 0, .int .i64 0, .int .i64 0, .int .i64 0, .int .i64 0, .int .i64 0, .int .i64 0, .int .i64 0, .int .i64 0, .int .i64 0, .int .i64 0, .int .i64 0, .int .i64 0, .int .i64 0, .int .i64 0, .int .i64 0, .int .i64 0, .int .i64 0, .int .i64 0, .int .i64 0, .int .i64 0, .int .i64 0, .int .i64 0, .int .i64 0, .int .i64 0, .int .i64 0, .int .i64 0, .int .i64 0, .int .i64 0, .int .i64 0, .int .i64 0, .int .i64 0, .int .i64 0, .int .i64 0, .int .i64 0, .int .i64 0, .int .i64 0, .int .i64 0, .int .i64 0, .int .i64 0, .int .i64 0, .int .i64 0, .int .i64 0, .int .i64 0, .int .i64 0, .int .i64 0, .int .i64 0, .int .i64 0, .int .i64 0, .int .i64 0, .int .i64 0, .int .i64 0, .int .i64 0, .int .i64 0, .int .i64 0, .int .i64 0, .int .i64 0, .int .i64 0, .int .i64 0, .int .i64 0, .int .i64 0, .int .i64 0, .int .i64 0, .int .i64 0, .int .i64 0, .int .i64 0, .int .i64 0, .int .i64 0, .int .i64 0, .int .i64 0, .int .i64 0, .int .i64 0, .int .i64 0, .int .i64 0, .int .i64 0, .int .i64 0, .int .i64 0, .int .i64 0, .int .i64 0, .int .i64 0, .int .i64 0, .int .i64 0, .int .i64 0, .int .i64 0, .int .i64 0, .int .i64 0, .int .i64 0, .int .i64 0, .int .i64 0, .int .i64 0, .int .i64 0, .int .i64 0, .int .i64 0, .int .i64 0, .int .i64 0, .int .i64 0, .int .i64 0, .int .i64 0, .int .i64 0, .int .i64 0, .int .i64 0, .int .i64 0, .int .i64 0, .int .i64 0, .int .i64 0])])
 (.seq (.region 0 [oQ 1 (.alloc [.int .i64 0, .int .i64 0, .int .i64 0, .int .i64 0, .int .i64 0, .int .i64 0, .int .i64 0, .int .i64 0, .int .i64 0, .int .i64 0, .int .i64 0, .int .i64 0, .int .i64 0, .int .i64 0, .int .i64 0, .int .i64 0, .int .i64 0, .int .i64 0, .int .i64 0, .int .i64 0, .int .i64 0, .int .i64 0, .int .i64 0, .int .i64 0, .int .i64 0, .int .i64 0, .int .i64 0, .int .i64 0, .int .i64 0, .int .i64 0, .int .i64 0, .int .i64 0, .int .i64 0, .int .i64 0, .int .i64 0, .int .i64 0, .int .i64 0, .int .i64 0, .int .i64 0, .int .i64 0, .int .i64 0, .int .i64 0, .int .i64 0, .int .i64 0, .int .i64 0, .int .i64 0, .int .i64 0, .int .i64 0, .int .i64 0, .int .i64 0, .int .i64 0, .int .i64 0, .int .i64 0, .int .i64 0, .int .i64 0, .int .i64 0, .int .i64 0, .int .i64 0, .int .i64 0, .int .i64 0, .int .i64 0, .int .i64 0, .int .i64 0, .int .i64 0, .int .i64 0, .int .i64 0, .int .i64 0, .int .i64 0, .int .i64 0, .int .i64 0, .int .i64 0, .int .i64 0, .int .i64 0, .int .i64 0, .int .i64 0, .int .i64 0, .int .i64 0, .int .i64 0, .int .i64 0, .int .i64 0, .int .i64 0, .int .i64 0, .int .i64 0, .int .i64 0, .int .i64 0, .int .i64 0, .int .i64 0, .int .i64 0, .int .i64 0, .int .i64 0, .int .i64 0, .int .i64 0, .int .i64 0, .int .i64 0, .int .i64 0, .int .i64 0, .int .i64 0, .int .i64 0, .int .i64 0, .int .i64 0, .int .i64 0, .int .i64 0, .int .i64 0, .int .i64 0, .int .i64 0, .int .i64 0, .int .i64 0, .int .i64 0, .int .i64 0, .int .i64 0, .int .i64 0, .int .i64 0, .int .i64 0, .int .i64 0, .int .i64 0, .int .i64 0, .int .i64 0, .int .i64 0, .int .i64 0, .int .i64 0, .int .i64 0, .int .i64 0, .int .i64 0, .int .i64 0, .int .i64 0, .int .i64 0, .int .i64 0, .int .i64 0, .int .i64 0, .int .i64 0, .int .i64 0, .int .i64 0, .int .i64 0, .int .i64 0, .int .i64 0, .int .i64 0, .int .i64 0, .int .i64 0, .int .i64 0, .int .i64 0, .int .i64 0, .int .i64 0, .int .i64 0, .int .i64 0, .int .i64 0, .int .i64 0, .int .i64 0, .int .i64 0, .int .i64 0, .int .i64 0, .int .i64 0, .int .i64 0, .int .i64 0, .int .i64 0, .int .i64 0, .int .i64 0, .int .i64 0, .int .i64 0, .int .i64 0, .int .i64 0, .int .i64 0, .int .i64 0, .int .i64 0, .int .i64 0, .int .i64 0, .int .i64 0, .int .i64 0, .int .i64 0, .int .i64 0, .int .i64 0, .int .i64 0, .int .i64 0, .int .i64 0, .int .i64 0, .int .i64 0, .int .i64 0, .int .i64 0, .int .i64 0, .int .i64 0, .int .i64 0, .int .i64 0, .int .i64 0, .int .i64 0, .int .i64 0, .int .i64 0, .int .i64 0, .int .i64 0, .int .i64 0, .int .i64 0, .int .i64 0, .int .i64 0, .int .i64 0, .int .i64 0, .int .i64 0, .int .i64 0, .int .i64 0, .int .i64 0, .int .i64 0, .int .i64 0, .int .i64 0, .int .i64 0, .int .i64 0, .int .i64 0, .int .i64 0, .int .i64 0, .int .i64 0, .int .i64 0, .int .i64 0, .int .i64 0, .int .i64 0, .int .i64 0, .int .i64 0, .int .i64 0, .int .i64 0, .int .i64 0, .int .i64 0, .int .i64 0, .int .i64 0, .int .i64 0, .int .i64 0, .int .i64 0, .int .i64 0, .int .i64 0, .int .i64 0, .int .i64 0, .int .i64 0, .int .i64 0, .int .i64 0, .int .i64 0, .int .i64 0, .int .i64 0, .int .i64 0, .int .i64 0, .int .i64 0, .int .i64 0, .int .i64 0, .int .i64 0, .int .i64 0, .int .i64 0, .int .i64 0, .int .i64 0, .int .i64 0, .int .i64 0, .int .i64 0, .int .i64 0, .int .i64 0, .int .i64 0, .int .i64 0, .int .i64 0, .int .i64 0, .int .i64 0, .int .i64 0, .int .i64 0, .int .i64 0, .int .i64 0, .int .i64 0, .int .i64 0, .int .i64 0, .int .i64 0, .int .i64 0, .int .i64 0, .int .i64 0, .int .i64 0, .int .i64 0, .int .i64 0, .int .i64 0, .int .i64 0, .int .i64 0, .int .i64 0, .int .i64 0, .int .i64 0, .int .i64 0, .int .i64 0, .int .i64 0, .int .i64 0, .int .i64 0, .int .i64 0, .int .i64 0, .int .i64 0, .int .i64 0, .int .i64 0, .int .i64 0, .int .i64 0, .int .i64 0, .int .i64 0, .int .i64 0, .int .i64 0, .int .i64 0, .int .i64 0, .int .i64 0, .int .i64 0, .int .i64 0, .int .i64 0, .int .i64 0, .int .i64 0, .int .i64 0, .int .i64 0, .int .i64 0, .int .i64 0, .int .i64 0, .int .i64 0, .int .i64 0, .int .i64 0, .int .i64 0, .int .i64 0, .int .i64 0, .int .i64 0, .int .i64 0, .int .i64 0, .int .i64 0, .int .i64 0, .int .i64 0, .int .i64 0, .int .i64 0, .int .i64 0, .int .i64 0, .int .i64 0, .int .i64 0, .int .i64 0, .int .i64 0, .int .i64 0, .int .i64 0, .int .i64 0, .int .i64 0, .int .i64 0, .int .i64 0, .int .i64 0, .int .i64 0, .int .i64 0, .int .i64 0, .int .i64 0, .int .i64 0, .int .i64 0, .int .i64 0, .int .i64 0, .int .i64 0, .int .i64 0, .int .i64 0, .int .i64 0, .int .i64 0, .int .i64 0, .int .i64 0, .int .i64 0, .int .i64 0, .int .i64 0, .int .i64 0, .int .i64 0, .int .i64 0, .int .i64 0, .int .i64 0, .int .i64 0, .int .i64 0, .int .i64 0, .int .i64 0, .int .i64 0, .int .i64 0, .int .i64 0, .int .i64 0, .int .i64 0, .int .i64 0, .int .i64 0, .int .i64 0, .int .i64 0, .int .i64 0, .int .i64 0, .int .i64 0, .int .i64 0, .int .i64 0, .int .i64 0, .int .i64 0, .int .i64 0, .int .i64 0, .int .i64 0, .int .i64 0, .int .i64 0, .int .i64 0, .int .i64 0, .int .i64 0, .int .i64 0, .int .i64 0, .int .i64 0, .int .i64 0, .int .i64 0, .int .i64 0, .int .i64 0, .int .i64 0, .int .i64 0, .int .i64 0, .int .i64 0, .int .i64 0, .int .i64 0, .int .i64 0, .int .i64 0, .int .i64 0, .int .i64 0, .int .i64 0, .int .i64 0, .int .i64 0, .int .i64 0, .int .i64 0, .int .i64 0, .int .i64 0, .int .i64 0, .int .i64 0, .int .i64 0, .int .i64 0, .int .i64 0, .int .i64 0, .int .i64 0, .int .i64 0, .int .i64 0, .int .i64 0, .int .i64 0, .int .i64 0, .int .i64 0, .int .i64 0, .int .i64 0, .int .i64 0, .int .i64 0, .int .i64 0, .int .i64 0, .int .i64 0, .int .i64 0, .int .i64 0, .int .i64 0, .int .i64 0, .int .i64 0, .int .i64 0, .int .i64 0, .int .i64 0, .int .i64 0, .int .i64 0, .int .i64 0, .int .i64 0, .int .i64 0, .int .i64 0, .int .i64 0, .int .i64 0, .int .i64 0, .int .i64 0, .int .i64 0])])
 (.seq (.seq (.region 0 [oP 4 (.move (.c (.int .i64 0)))])
 (.block 0 (.loop (.seq (.region 0 [oP 5 (.bin .lss (.t 4) (.c (.int .i64 21)))])
 (.seq (.cond (.t 5) (.skip)
 (.exit 0))
 (.seq (.block 1 (.seq (.region 0 [oP 6 (.move (.t 4)),
 oP 2 (.move (.t 6))])
 (.seq (.region 0 [oP 7 (.move (.c (.int .i64 0)))])
 (.block 2 (.loop (.seq (.region 0 [oP 8 (.bin .lss (.t 7) (.c (.int .i64 21)))])
 (.seq (.cond (.t 8) (.skip)
 (.exit 2))
 (.seq (.block 3 (.seq (.region 0 [oP 9 (.move (.t 7)),
 oP 3 (.move (.t 9))])
 (.seq (.region 0 [oP 10 (.move (.t 2)),
 oP 11 (.move (.t 3)),
 oP 12 (.bin .neq (.t 10) (.t 11)),
 oP 13 (.move (.t 12)),
 oG 14 13 true (.move (.t 2)),
 oG 15 13 true (.bin .neq (.t 14) (.c (.int .i64 0))),
 oP 16 (.pick (.t 13) (.t 15) (.c (.bool false)))])
 (.cond (.t 16) (.region 0 [oP 17 (.move (.t 2)),
 oP 18 (.move (.t 3)),
 oP 19 (.idxArr 21 21 (.t 1) (.t 17)),
 oP 20 (.idxArr 21 1 (.t 19) (.t 18)),
 ⟨none, .store 1 (.t 20) (.c (.int .i64 40)), none, none, []⟩])
 (.skip)))))
 (.region 0 [oP 21 (.bin .add (.t 7) (.c (.int .i64 1))),
 oP 7 (.move (.t 21))])))))))))
 (.region 0 [oP 22 (.bin .add (.t 4) (.c (.int .i64 1))),
 oP 4 (.move (.t 22))])))))))
 (.seq (.region 0 [oQ 23 (.load true 441 (.t 1)),
 ⟨none, .store 441 (.t 0) (.t 23), none, none, []⟩])
 (.ret))))⟩
/-- (*almadraba/counts.trap).fill -/
def f107 : AFn := ⟨12, [.cell false 1 2],
 .seq (.region 0 [oQ 1 (.box (.t 0)),
 oQ 2 (.alloc [.bool false])])
 (.seq (.seq (.region 0 [oQ 4 (.load false 1 (.t 1)),
 oP 5 (.mkFn 104 [(.t 4)] [])])
 (.block 0 (.rangeFunc (.t 5) [6] (.region 0 [oQ 3 (.alloc [.int .i64 0, .int .i64 0]),
 ⟨none, .store 2 (.t 3) (.t 6), none, none, []⟩])
 (.block 1 (.seq (.region 0 [oQ 7 (.load false 1 (.t 1)),
 oQ 8 (.load true 2 (.t 3)),
 oP 9 (.build [.int .i64 0, .int .i64 0] [(1, 1, (.c (.int .i64 40)))]),
 oQ 10 (.call 0 101 [(.t 7), (.t 8), (.t 9)]),
 oP 11 (.un .not (.t 10))])
 (.cond (.t 11) (.seq (.region 0 [⟨none, .store 1 (.t 2) (.c (.bool false)), none, none, []⟩])
 (.ret))
 (.skip)))))))
 (.seq (.region 0 [⟨none, .store 1 (.t 2) (.c (.bool true)), none, none, []⟩])
 (.ret)))⟩
/-- (*almadraba/counts.trap).move -/
def f108 : AFn := ⟨48, [.tmp 2],
 .seq (.region 0 [oP 2 (.move (.c (.bool false)))])
 (.seq (.seq (.region 0 [oP 7 (.move (.t 0)),
 oP 8 (.nilCheck (.t 7)),
 oP 9 (.fieldAddr 0 (.t 8)),
 oP 10 (.fieldAddr 2 (.t 9)),
 oQ 11 (.load false 1 (.t 10)),
 oP 12 (.lenS (.t 11)),
 oP 13 (.move (.c (.int .i64 0)))])
 (.block 0 (.loop (.seq (.region 0 [oP 14 (.bin .lss (.t 13) (.t 12))])
 (.seq (.cond (.t 14) (.skip)
 (.exit 0))
 (.seq (.block 1 (.seq (.region 0 [oP 15 (.move (.t 13)),
 oP 16 (.idxSl 1 (.t 11) (.t 13)),
 oQ 17 (.load false 1 (.t 16)),
 oP 3 (.move (.t 15)),
 oP 4 (.move (.t 17))])
 (.seq (.region 0 [oP 18 (.move (.t 0)),
 oP 19 (.nilCheck (.t 18)),
 oP 20 (.fieldAddr 0 (.t 19)),
 oP 21 (.fieldAddr 0 (.t 20)),
 oQ 22 (.load false 1 (.t 21)),
 oP 23 (.move (.c (.int .i64 0)))])
 (.block 2 (.loop (.seq (.region 0 [oP 24 (.bin .lss (.t 23) (.t 22))])
 (.seq (.cond (.t 24) (.skip)
 (.exit 2))
 (.seq (.block 3 (.seq (.region 0 [oP 25 (.move (.t 23)),
 oP 5 (.move (.t 25))])
 (.seq (.region 0 [oP 26 (.build [.int .i64 0, .int .i64 0] []),
 oQ 6 (.alloc [.int .i64 0, .int .i64 0]),
 ⟨none, .store 2 (.t 6) (.t 26), none, none, []⟩])
 (.seq (.seq (.region 0 [oP 27 (.move (.t 4)),
 oP 28 (.move (.t 5)),
 oQ 29 (.call 1 112 [(.t 27), (.t 28)])])
 (.cond (.t 29) (.region 0 [oP 30 (.fieldAddr 1 (.t 6)),
 ⟨none, .store 1 (.t 30) (.c (.int .i64 40)), none, none, []⟩])
 (.skip)))
 (.seq (.region 0 [oP 31 (.move (.t 0)),
 oP 32 (.nilCheck (.t 31)),
 oP 33 (.fieldAddr 4 (.t 32)),
 oP 34 (.move (.t 0)),
 oP 35 (.move (.t 3)),
 oP 36 (.bin .add (.t 35) (.c (.int .i64 1))),
 oP 37 (.move (.t 5)),
 oQ 38 (.call 3 76 [(.t 34), (.t 36), (.t 37)]),
 oP 39 (.move (.t 0)),
 oP 40 (.move (.t 3)),
 oP 41 (.move (.t 5)),
 oQ 42 (.call 3 76 [(.t 39), (.t 40), (.t 41)]),
 oQ 43 (.load true 2 (.t 6)),
 oQ 44 (.call 0 114 [(.t 33), (.t 38), (.t 42), (.t 43)]),
 oP 45 (.un .not (.t 44))])
 (.cond (.t 45) (.seq (.region 0 [oP 2 (.move (.c (.bool false)))])
 (.ret))
 (.skip)))))))
 (.region 0 [oP 46 (.bin .add (.t 23) (.c (.int .i64 1))),
 oP 23 (.move (.t 46))])))))))))
 (.region 0 [oP 47 (.bin .add (.t 13) (.c (.int .i64 1))),
 oP 13 (.move (.t 47))])))))))
 (.seq (.region 0 [oP 2 (.move (.c (.bool true)))])
 (.ret)))⟩
/-- (*almadraba/counts.trap).hear -/
def f109 : AFn := ⟨31, [.tmp 2],
 .seq (.region 0 [oP 2 (.move (.c (.bool false)))])
 (.seq (.seq (.region 0 [oP 6 (.move (.t 0)),
 oP 7 (.nilCheck (.t 6)),
 oP 8 (.fieldAddr 0 (.t 7)),
 oP 9 (.fieldAddr 3 (.t 8)),
 oQ 10 (.load false 1 (.t 9)),
 oP 11 (.lenS (.t 10)),
 oP 12 (.move (.c (.int .i64 0)))])
 (.block 0 (.loop (.seq (.region 0 [oP 13 (.bin .lss (.t 12) (.t 11))])
 (.seq (.cond (.t 13) (.skip)
 (.exit 0))
 (.seq (.block 1 (.seq (.region 0 [oP 14 (.idxSl 4 (.t 10) (.t 12)),
 oQ 15 (.load true 4 (.t 14)),
 oQ 4 (.alloc [.int .i64 0, .int .i64 0, .int .i64 0, .int .i64 0]),
 ⟨none, .store 4 (.t 4) (.t 15), none, none, []⟩])
 (.seq (.region 0 [oP 16 (.fieldAddr 0 (.t 4)),
 oQ 17 (.load false 1 (.t 16)),
 oP 18 (.fieldAddr 1 (.t 4)),
 oQ 19 (.load false 1 (.t 18)),
 oP 20 (.build [.int .i64 0, .int .i64 0] [(0, 1, (.t 17)), (1, 1, (.t 19))]),
 oQ 5 (.alloc [.int .i64 0, .int .i64 0]),
 ⟨none, .store 2 (.t 5) (.t 20), none, none, []⟩])
 (.seq (.region 0 [oP 21 (.move (.t 0)),
 oQ 22 (.load true 2 (.t 5)),
 oP 23 (.fieldAddr 2 (.t 4)),
 oQ 24 (.load false 1 (.t 23)),
 oP 25 (.fieldAddr 3 (.t 4)),
 oQ 26 (.load false 1 (.t 25)),
 oP 27 (.build [.int .i64 0, .int .i64 0] [(0, 1, (.t 24)), (1, 1, (.t 26))]),
 oQ 28 (.call 0 101 [(.t 21), (.t 22), (.t 27)]),
 oP 29 (.un .not (.t 28))])
 (.cond (.t 29) (.seq (.region 0 [oP 2 (.move (.c (.bool false)))])
 (.ret))
 (.skip))))))
 (.region 0 [oP 30 (.bin .add (.t 12) (.c (.int .i64 1))),
 oP 12 (.move (.t 30))])))))))
 (.seq (.region 0 [oP 2 (.move (.c (.bool true)))])
 (.ret)))⟩
/-- almadraba/counts.ascending -/
def f110 : AFn := ⟨24, [.tmp 4],
 .seq (.region 0 [oP 4 (.move (.c (.bool false)))])
 (.seq (.region 0 [oP 5 (.move (.c (.int .i64 (-1))))])
 (.seq (.seq (.region 0 [oP 8 (.move (.t 0)),
 oP 9 (.lenS (.t 8)),
 oP 10 (.move (.c (.int .i64 0)))])
 (.block 0 (.loop (.seq (.region 0 [oP 11 (.bin .lss (.t 10) (.t 9))])
 (.seq (.cond (.t 11) (.skip)
 (.exit 0))
 (.seq (.block 1 (.seq (.region 0 [oP 12 (.idxSl 1 (.t 8) (.t 10)),
 oQ 13 (.load false 1 (.t 12)),
 oP 7 (.move (.t 13))])
 (.seq (.seq (.region 0 [oP 14 (.move (.t 7)),
 oP 15 (.move (.t 5)),
 oP 16 (.bin .leq (.t 14) (.t 15)),
 oP 17 (.move (.t 16)),
 oG 18 17 false (.move (.t 7)),
 oG 19 17 false (.move (.t 1)),
 oG 20 17 false (.bin .geq (.t 18) (.t 19)),
 oP 21 (.pick (.t 17) (.c (.bool true)) (.t 20))])
 (.cond (.t 21) (.seq (.region 0 [oP 4 (.move (.c (.bool false)))])
 (.ret))
 (.skip)))
 (.region 0 [oP 22 (.move (.t 7)),
 oP 5 (.move (.t 22))]))))
 (.region 0 [oP 23 (.bin .add (.t 10) (.c (.int .i64 1))),
 oP 10 (.move (.t 23))])))))))
 (.seq (.region 0 [oP 4 (.move (.c (.bool true)))])
 (.ret))))⟩
/-- slices.Contains[[]int,int] -/
def f112 : AFn := ⟨9, [.tmp 4],
 .seq (.region 0 [oP 4 (.move (.c (.bool false)))])
 (.seq (.region 0 [oP 5 (.move (.t 0)),
 oP 6 (.move (.t 1)),
 oQ 7 (.call 1 115 [(.t 5), (.t 6)]),
 oP 8 (.bin .geq (.t 7) (.c (.int .i64 0))),
 oP 4 (.move (.t 8))])
 (.ret))⟩
/-- almadraba/almadrabaref01.cut -/
def f113 : AFn := ⟨16, [.cell true 2 4],
 .seq (.region 0 [oQ 2 (.box (.t 0)),
 oQ 3 (.box (.t 1)),
 oQ 4 (.alloc [.int .i64 0, .int .i64 0])])
 (.seq (.region 0 [oP 5 (.fieldAddr 0 (.t 2)),
 oQ 6 (.load false 1 (.t 5)),
 oP 7 (.fieldAddr 0 (.t 3)),
 oQ 8 (.load false 1 (.t 7)),
 oP 9 (.minmax true (.t 6) [(.t 8)]),
 oP 10 (.fieldAddr 1 (.t 2)),
 oQ 11 (.load false 1 (.t 10)),
 oP 12 (.fieldAddr 1 (.t 3)),
 oQ 13 (.load false 1 (.t 12)),
 oP 14 (.minmax false (.t 11) [(.t 13)]),
 oP 15 (.build [.int .i64 0, .int .i64 0] [(0, 1, (.t 9)), (1, 1, (.t 14))]),
 ⟨none, .store 2 (.t 4) (.t 15), none, none, []⟩])
 (.ret))⟩
/-- (*almadraba/counts.bounds).within -/
def f114 : AFn := ⟨24, [.tmp 8],
 .seq (.region 0 [oQ 7 (.box (.t 3)),
 oP 8 (.move (.c (.bool false)))])
 (.seq (.region 0 [oP 9 (.move (.t 0)),
 oP 10 (.move (.t 1)),
 oP 11 (.move (.t 2)),
 oP 12 (.fieldAddr 1 (.t 7)),
 oQ 13 (.load false 1 (.t 12)),
 oQ 14 (.call 0 116 [(.t 9), (.t 10), (.t 11), (.t 13)]),
 oP 15 (.move (.t 14)),
 oG 16 15 true (.move (.t 0)),
 oG 17 15 true (.move (.t 2)),
 oG 18 15 true (.move (.t 1)),
 oG 19 15 true (.fieldAddr 0 (.t 7)),
 ⟨(some 20), .load false 1 (.t 19), (some (15, true)), none, []⟩,
 oG 21 15 true (.un .neg (.t 20)),
 ⟨(some 22), .call 0 116 [(.t 16), (.t 17), (.t 18), (.t 21)], (some (15, true)), none, []⟩,
 oP 23 (.pick (.t 15) (.t 22) (.c (.bool false))),
 oP 8 (.move (.t 23))])
 (.ret))⟩
/-- slices.Index[[]int,int] -/
def f115 : AFn := ⟨19, [.tmp 4],
 .seq (.region 0 [oP 4 (.move (.c (.int .i64 0)))])
 (.seq (.seq (.region 0 [oP 6 (.move (.t 0)),
 oP 7 (.lenS (.t 6)),
 oP 8 (.move (.c (.int .i64 0)))])
 (.block 0 (.loop (.seq (.region 0 [oP 9 (.bin .lss (.t 8) (.t 7))])
 (.seq (.cond (.t 9) (.skip)
 (.exit 0))
 (.seq (.block 1 (.seq (.region 0 [oP 10 (.move (.t 8)),
 oP 5 (.move (.t 10))])
 (.seq (.region 0 [oP 11 (.move (.t 1)),
 oP 12 (.move (.t 0)),
 oP 13 (.move (.t 5)),
 oP 14 (.idxSl 1 (.t 12) (.t 13)),
 oQ 15 (.load false 1 (.t 14)),
 oP 16 (.bin .eql (.t 11) (.t 15))])
 (.cond (.t 16) (.seq (.region 0 [oP 17 (.move (.t 5)),
 oP 4 (.move (.t 17))])
 (.ret))
 (.skip)))))
 (.region 0 [oP 18 (.bin .add (.t 8) (.c (.int .i64 1))),
 oP 8 (.move (.t 18))])))))))
 (.seq (.region 0 [oP 4 (.move (.c (.int .i64 (-1))))])
 (.ret)))⟩
/-- (*almadraba/counts.bounds).atMost -/
def f116 : AFn := ⟨69, [.tmp 8],
 .seq (.region 0 [oP 8 (.move (.c (.bool false)))])
 (.seq (.seq (.region 0 [oP 11 (.move (.t 0)),
 oP 12 (.move (.t 2)),
 oP 13 (.move (.t 1)),
 oP 14 (.nilCheck (.t 11)),
 oP 15 (.idxArr 21 21 (.t 14) (.t 12)),
 oP 16 (.idxArr 21 1 (.t 15) (.t 13)),
 oQ 17 (.load false 1 (.t 16)),
 oP 18 (.move (.t 3)),
 oP 19 (.bin .add (.t 17) (.t 18)),
 oP 20 (.bin .lss (.t 19) (.c (.int .i64 0)))])
 (.cond (.t 20) (.seq (.region 0 [oP 8 (.move (.c (.bool false)))])
 (.ret))
 (.skip)))
 (.seq (.seq (.region 0 [oP 21 (.move (.t 0)),
 oP 22 (.move (.t 1)),
 oP 23 (.move (.t 2)),
 oP 24 (.nilCheck (.t 21)),
 oP 25 (.idxArr 21 21 (.t 24) (.t 22)),
 oP 26 (.idxArr 21 1 (.t 25) (.t 23)),
 oQ 27 (.load false 1 (.t 26)),
 oP 28 (.move (.t 3)),
 oP 29 (.bin .leq (.t 27) (.t 28))])
 (.cond (.t 29) (.seq (.region 0 [oP 8 (.move (.c (.bool true)))])
 (.ret))
 (.skip)))
 (.seq (.seq (.region 0 [oP 30 (.move (.c (.int .i64 0)))])
 (.block 0 (.loop (.seq (.region 0 [oP 31 (.bin .lss (.t 30) (.c (.int .i64 21)))])
 (.seq (.cond (.t 31) (.skip)
 (.exit 0))
 (.seq (.block 1 (.seq (.region 0 [oP 32 (.move (.t 30)),
 oP 9 (.move (.t 32))])
 (.seq (.region 0 [oP 33 (.move (.c (.int .i64 0)))])
 (.block 2 (.loop (.seq (.region 0 [oP 34 (.bin .lss (.t 33) (.c (.int .i64 21)))])
 (.seq (.cond (.t 34) (.skip)
 (.exit 2))
 (.seq (.block 3 (.seq (.region 0 [oP 35 (.move (.t 33)),
 oP 10 (.move (.t 35))])
 (.region 0 [oP 36 (.move (.t 0)),
 oP 37 (.move (.t 9)),
 oP 38 (.move (.t 10)),
 oP 39 (.move (.t 0)),
 oP 40 (.move (.t 9)),
 oP 41 (.move (.t 10)),
 oP 42 (.nilCheck (.t 39)),
 oP 43 (.idxArr 21 21 (.t 42) (.t 40)),
 oP 44 (.idxArr 21 1 (.t 43) (.t 41)),
 oQ 45 (.load false 1 (.t 44)),
 oP 46 (.move (.t 0)),
 oP 47 (.move (.t 9)),
 oP 48 (.move (.t 1)),
 oP 49 (.nilCheck (.t 46)),
 oP 50 (.idxArr 21 21 (.t 49) (.t 47)),
 oP 51 (.idxArr 21 1 (.t 50) (.t 48)),
 oQ 52 (.load false 1 (.t 51)),
 oP 53 (.move (.t 3)),
 oP 54 (.bin .add (.t 52) (.t 53)),
 oP 55 (.move (.t 0)),
 oP 56 (.move (.t 2)),
 oP 57 (.move (.t 10)),
 oP 58 (.nilCheck (.t 55)),
 oP 59 (.idxArr 21 21 (.t 58) (.t 56)),
 oP 60 (.idxArr 21 1 (.t 59) (.t 57)),
 oQ 61 (.load false 1 (.t 60)),
 oP 62 (.bin .add (.t 54) (.t 61)),
 oP 63 (.minmax false (.t 45) [(.t 62)]),
 oP 64 (.nilCheck (.t 36)),
 oP 65 (.idxArr 21 21 (.t 64) (.t 37)),
 oP 66 (.idxArr 21 1 (.t 65) (.t 38)),
 ⟨none, .store 1 (.t 66) (.t 63), none, none, []⟩])))
 (.region 0 [oP 67 (.bin .add (.t 33) (.c (.int .i64 1))),
 oP 33 (.move (.t 67))])))))))))
 (.region 0 [oP 68 (.bin .add (.t 30) (.c (.int .i64 1))),
 oP 30 (.move (.t 68))])))))))
 (.seq (.region 0 [oP 8 (.move (.c (.bool true)))])
 (.ret)))))⟩
end Go.Proofs.Ytjaaefdhdggnkaa.T
