/-
The code of functions of the seat, as the abstract machine has it (printed by a tool of ours off the dump).
-/
import Derived.Test.YtfagcnokdnanpaaGreatTabA
namespace Go.Proofs.YtfagcnokdnanpaaGreat.T
open Go Go.Am
def f81 : AFn := ⟨29, [.tmp 4, .tmp 5],
 .seq (.region 0 [oQ 2 (.box (.t 0)),
 oQ 3 (.box (.t 1)),
 oP 4 (.move (.c (.nils))),
 oC 5 0])
 (.seq (.region 0 [oQ 6 (.alloc [.nils])])
 (.seq (.region 0 [oQ 7 (.alloc [.int .i64 0]),
 ⟨none, .store 1 (.t 7) (.c (.int .i64 (-1))), none, none, []⟩])
 (.seq (.seq (.region 0 [oL 10 true 13 2,
 oP 11 (.mkFn 116 [(.t 10)] [])])
 (.block 0 (.rangeFunc (.t 11) [12] (.region 0 [oM 8 12])
 (.block 1 (.seq (.region 0 [oL 13 true 13 2,
 oM 14 8,
 oQ 15 (.call 3 117 [(.t 13), (.t 14)]),
 oM 9 15])
 (.seq (.region 0 [oM 16 9,
 oL 17 false 1 7,
 oP 18 (.bin .gtr (.t 16) (.t 17)),
 oM 19 18,
 ⟨(some 20), .load false 1 (.t 3), (some (19, true)), none, []⟩,
 oN 21 19 true 8,
 ⟨(some 22), .callv true (.t 20) [(.t 21)], (some (19, true)), none, []⟩,
 oP 23 (.pick (.t 19) (.t 22) (.c (.bool false)))])
 (.cond (.t 23) (.region 0 [oM 24 8,
 oQ 25 (.call 2 118 [(.t 24)]),
 oM 26 9,
 ⟨none, .store 1 (.t 6) (.t 25), none, none, []⟩,
 ⟨none, .store 1 (.t 7) (.t 26), none, none, []⟩])
 (.skip))))))))
 (.seq (.region 0 [oL 27 false 1 6,
 oL 28 false 1 7,
 oM 4 27,
 oM 5 28])
 (.ret)))))⟩
def f82 : AFn := ⟨3, [.tmp 2],
 .seq (.region 0 [oP 2 (.move (.c (.bool false)))])
 (.seq (.region 0 [oP 2 (.move (.c (.bool true)))])
 (.ret))⟩
def f88 : AFn := ⟨37, [.tmp 4, .tmp 5],
 .seq (.region 0 [oQ 2 (.box (.t 0)),
 oC 4 0,
 oC 5 0])
 (.seq (.region 0 [oL 11 true 13 2,
 oM 12 1,
 oQ 13 (.call 2 65 [(.t 12)]),
 oQ 14 (.call 3 64 [(.t 11), (.t 13)]),
 oM 10 14,
 oE 15 10 0,
 oE 16 10 1,
 oM 6 15,
 oM 7 16])
 (.seq (.region 0 [oM 17 6,
 oF 18 0 2,
 oF 19 7 18,
 oL 20 false 1 19,
 oM 21 1,
 oD 22 3 20 21,
 oF 23 2 22,
 oL 24 false 1 23,
 oP 25 (.bin .sub (.t 17) (.t 24)),
 oM 8 25])
 (.seq (.region 0 [oM 26 7,
 oM 27 8,
 oP 28 (.bin .sub (.t 26) (.t 27)),
 oP 29 (.minmax true (.c (.int .i64 0)) [(.t 28)]),
 oM 9 29])
 (.seq (.seq (.region 0 [oM 30 6,
 oP 31 (.bin .lss (.t 30) (.c (.int .i64 0))),
 oM 32 31,
 oN 33 32 false 9,
 oG 34 32 false (.bin .gtr (.t 33) (.c (.int .i64 99))),
 oP 35 (.pick (.t 32) (.c (.bool true)) (.t 34))])
 (.cond (.t 35) (.seq (.region 0 [oC 4 0,
 oC 5 3])
 (.ret))
 (.skip)))
 (.seq (.region 0 [oM 36 9,
 oM 4 36,
 oC 5 0])
 (.ret))))))⟩
def f90 : AFn := ⟨15, [.tmp 6],
 .seq (.region 0 [oP 6 (.move (.c (.bool false)))])
 (.seq (.region 0 [oM 7 1,
 oM 8 0,
 oP 9 (.bin .leq (.t 7) (.t 8)),
 oM 10 9,
 oN 11 10 true 0,
 oN 12 10 true 2,
 oG 13 10 true (.bin .leq (.t 11) (.t 12)),
 oP 14 (.pick (.t 10) (.t 13) (.c (.bool false))),
 oM 6 14])
 (.ret))⟩
def f91 : AFn := ⟨50, [.cell true 13 6],
 .seq (.region 0 [oQ 3 (.box (.t 0)),
 oQ 6 (.alloc [.nils, .int .i64 0, .nils, .nils, .nils, .int .i64 0, .int .i64 0, .nils, .bool false, .bool false, .bool false, .bool false, .nilm])])
 (.seq (.region 0 [oM 12 1,
 oM 13 2,
 oF 14 0 3,
 oF 15 4 14,
 ⟨none, .store 1 (.t 15) (.t 12), none, none, []⟩,
 oF 16 0 3,
 oF 17 5 16,
 ⟨none, .store 1 (.t 17) (.t 13), none, none, []⟩])
 (.seq (.seq (.region 0 [oF 18 0 3,
 oF 19 0 18,
 oF 20 3 19,
 oL 21 false 1 20,
 oP 22 (.lenS (.t 21)),
 oC 23 0])
 (.block 0 (.loop (.seq (.region 0 [oP 24 (.bin .lss (.t 23) (.t 22))])
 (.seq (.cond (.t 24) (.skip)
 (.exit 0))
 (.seq (.block 1 (.seq (.region 0 [oM 25 23,
 oM 7 25])
 (.seq (.region 0 [oF 27 0 3,
 oF 28 0 27,
 oL 29 true 4 28,
 oM 30 1,
 oM 31 7,
 oQ 32 (.call 1 121 [(.t 29), (.t 30), (.t 31)]),
 oM 26 32,
 oE 33 26 0,
 oE 34 26 1,
 oE 35 26 2,
 oE 36 26 3,
 oM 8 33,
 oM 9 34,
 oM 10 35,
 oM 11 36])
 (.region 0 [oM 37 7,
 oM 38 10,
 oM 39 2,
 oP 40 (.bin .leq (.t 38) (.t 39)),
 oM 41 40,
 oN 42 41 true 1,
 oN 43 41 true 7,
 ⟨(some 44), .call 1 103 [(.t 42), (.t 43)], (some (41, true)), none, []⟩,
 oP 45 (.pick (.t 41) (.t 44) (.c (.bool false))),
 oF 46 8 3,
 oP 47 (.idxArr 4 1 (.t 46) (.t 37)),
 ⟨none, .store 1 (.t 47) (.t 45), none, none, []⟩]))))
 (.region 0 [oP 48 (.bin .add (.t 23) (.c (.int .i64 1))),
 oM 23 48])))))))
 (.seq (.region 0 [oL 49 true 13 3,
 ⟨none, .store 13 (.t 6) (.t 49), none, none, []⟩])
 (.ret))))⟩
def f93 : AFn := ⟨11, [.cell true 8 4],
 .seq (.region 0 [oQ 2 (.box (.t 0)),
 oQ 4 (.alloc [.nils, .int .i64 0, .nils, .nils, .nils, .int .i64 0, .int .i64 0, .nils])])
 (.seq (.region 0 [oL 6 true 8 2,
 oQ 7 (.call 1 33 [(.t 6)]),
 oQ 5 (.alloc [.nils, .int .i64 0, .nils, .nils, .nils, .int .i64 0, .int .i64 0, .nils]),
 ⟨none, .store 8 (.t 5) (.t 7), none, none, []⟩])
 (.seq (.region 0 [oM 8 1,
 oF 9 5 5,
 ⟨none, .store 1 (.t 9) (.t 8), none, none, []⟩])
 (.seq (.region 0 [oL 10 true 8 5,
 ⟨none, .store 8 (.t 4) (.t 10), none, none, []⟩])
 (.ret))))⟩
def f94 : AFn := ⟨24, [.tmp 2],
 .seq (.region 0 [oQ 1 (.box (.t 0)),
 oC 2 0])
 (.seq (.region 0 [oC 3 0,
 oP 4 (.move (.c (.int .i64 (-1))))])
 (.seq (.seq (.region 0 [oC 7 0])
 (.block 0 (.loop (.seq (.region 0 [oP 8 (.bin .lss (.t 7) (.c (.int .i64 21)))])
 (.seq (.cond (.t 8) (.skip)
 (.exit 0))
 (.seq (.block 1 (.seq (.region 0 [oM 9 7,
 oM 5 9])
 (.seq (.region 0 [oL 10 true 13 1,
 oF 11 0 1,
 oF 12 4 11,
 oL 13 false 1 12,
 oM 14 5,
 oQ 15 (.call 3 91 [(.t 10), (.t 13), (.t 14)]),
 oQ 16 (.call 0 79 [(.t 15)]),
 oM 6 16])
 (.seq (.region 0 [oM 17 6,
 oM 18 4,
 oP 19 (.bin .gtr (.t 17) (.t 18))])
 (.cond (.t 19) (.region 0 [oM 20 5,
 oM 21 6,
 oM 3 20,
 oM 4 21])
 (.skip))))))
 (.region 0 [oP 22 (.bin .add (.t 7) (.c (.int .i64 1))),
 oM 7 22])))))))
 (.seq (.region 0 [oM 23 3,
 oM 2 23])
 (.ret))))⟩
def f97 : AFn := ⟨24, [.tmp 4],
 .seq (.region 0 [oP 4 (.move (.c (.nils)))])
 (.seq (.region 0 [oP 5 (.move (.c (.nils)))])
 (.seq (.seq (.region 0 [oC 6 0])
 (.block 0 (.loop (.seq (.seq (.region 0 [oM 7 6,
 oM 8 0,
 oP 9 (.lenS (.t 8)),
 oP 10 (.bin .lss (.t 7) (.t 9))])
 (.cond (.t 10) (.skip)
 (.exit 0)))
 (.seq (.block 1 (.seq (.region 0 [oM 13 0,
 oM 14 6,
 oD 15 1 13 14,
 oL 16 false 1 15,
 oM 17 1,
 oP 18 (.bin .eql (.t 16) (.t 17))])
 (.cond (.t 18) (.region 0 [oM 19 5,
 oM 20 6,
 oQ 21 (.litS 1 1 [.int .i64 0] [(0, (.t 20))]),
 oQ 22 (.append false 1 8 (.t 19) (.t 21)),
 oM 5 22])
 (.skip))))
 (.region 0 [oM 11 6,
 oP 12 (.bin .add (.t 11) (.c (.int .i64 1))),
 oM 6 12]))))))
 (.seq (.region 0 [oM 23 5,
 oM 4 23])
 (.ret))))⟩
def f99 : AFn := ⟨11, [.tmp 4],
 .seq (.region 0 [oQ 2 (.box (.t 0)),
 oP 4 (.move (.c (.bool false)))])
 (.seq (.region 0 [oM 5 1,
 oF 6 7 2,
 oL 7 false 1 6,
 oP 8 (.lenS (.t 7)),
 oP 9 (.bin .sub (.t 8) (.c (.int .i64 1))),
 oQ 10 (.call 1 90 [(.t 5), (.c (.int .i64 0)), (.t 9)]),
 oM 4 10])
 (.ret))⟩
def f100 : AFn := ⟨25, [.tmp 6],
 .seq (.region 0 [oQ 3 (.box (.t 0)),
 oQ 5 (.box (.t 2)),
 oP 6 (.move (.c (.bool false)))])
 (.seq (.region 0 [oF 9 0 3,
 oF 10 7 9,
 oL 11 false 1 10,
 oL 12 false 1 5,
 oD 13 3 11 12,
 oL 14 true 3 13,
 oQ 7 (.alloc [.int .i64 0, .nils, .int .i64 0]),
 ⟨none, .store 3 (.t 7) (.t 14), none, none, []⟩])
 (.seq (.region 0 [oP 15 (.mkFn 122 [] [(.t 3), (.t 5), (.t 7)]),
 oM 8 15])
 (.seq (.region 0 [oM 16 1,
 oM 17 8,
 oQ 18 (.call 3 124 [(.t 16), (.t 17)]),
 oM 19 18,
 oG 20 19 true (.fieldAddr 1 (.t 7)),
 ⟨(some 21), .load false 1 (.t 20), (some (19, true)), none, []⟩,
 oG 22 19 true (.mkFn 125 [] [(.t 3)]),
 ⟨(some 23), .call 3 124 [(.t 21), (.t 22)], (some (19, true)), none, []⟩,
 oP 24 (.pick (.t 19) (.t 23) (.c (.bool false))),
 oM 6 24])
 (.ret))))⟩
def f101 : AFn := ⟨8, [.tmp 3],
 .seq (.region 0 [oP 3 (.move (.c (.bool false)))])
 (.seq (.region 0 [oL 4 false 1 1,
 oM 5 0,
 oQ 6 (.callv true (.t 4) [(.t 5)]),
 oP 7 (.un .not (.t 6)),
 oM 3 7])
 (.ret))⟩
def f102 : AFn := ⟨7, [.tmp 3],
 .seq (.region 0 [oP 3 (.move (.c (.bool false)))])
 (.seq (.region 0 [oM 4 0,
 oL 5 false 1 1,
 oQ 6 (.call 1 103 [(.t 4), (.t 5)]),
 oM 3 6])
 (.ret))⟩
def f103 : AFn := ⟨9, [.tmp 4],
 .seq (.region 0 [oP 4 (.move (.c (.bool false)))])
 (.seq (.region 0 [oM 5 0,
 oM 6 1,
 oQ 7 (.call 1 126 [(.t 5), (.t 6)]),
 oP 8 (.bin .geq (.t 7) (.c (.int .i64 0))),
 oM 4 8])
 (.ret))⟩
def f104 : AFn := ⟨14, [.tmp 4],
 .seq (.region 0 [oP 4 (.move (.c (.bool false)))])
 (.seq (.region 0 [oF 5 0 1,
 oF 6 7 5,
 oL 7 false 1 6,
 oM 8 0,
 oD 9 3 7 8,
 oF 10 0 9,
 oL 11 false 1 10,
 oL 12 false 1 2,
 oP 13 (.bin .eql (.t 11) (.t 12)),
 oM 4 13])
 (.ret))⟩
def f105 : AFn := ⟨19, [.tmp 4],
 .seq (.region 0 [oC 4 0])
 (.seq (.seq (.region 0 [oM 6 0,
 oP 7 (.lenS (.t 6)),
 oC 8 0])
 (.block 0 (.loop (.seq (.region 0 [oP 9 (.bin .lss (.t 8) (.t 7))])
 (.seq (.cond (.t 9) (.skip)
 (.exit 0))
 (.seq (.block 1 (.seq (.region 0 [oM 10 8,
 oM 5 10])
 (.seq (.region 0 [oM 11 1,
 oM 12 0,
 oM 13 5,
 oD 14 1 12 13,
 oL 15 false 1 14,
 oQ 16 (.callv true (.t 11) [(.t 15)])])
 (.cond (.t 16) (.seq (.region 0 [oM 17 5,
 oM 4 17])
 (.ret))
 (.skip)))))
 (.region 0 [oP 18 (.bin .add (.t 8) (.c (.int .i64 1))),
 oM 8 18])))))))
 (.seq (.region 0 [oP 4 (.move (.c (.int .i64 (-1))))])
 (.ret)))⟩
def f106 : AFn := ⟨7, [.tmp 3],
 .seq (.region 0 [oP 3 (.move (.c (.bool false)))])
 (.seq (.region 0 [oM 4 0,
 oL 5 false 1 1,
 oQ 6 (.call 3 107 [(.t 4), (.t 5)]),
 oM 3 6])
 (.ret))⟩
def f107 : AFn := ⟨9, [.tmp 4],
 .seq (.region 0 [oP 4 (.move (.c (.bool false)))])
 (.seq (.region 0 [oM 5 0,
 oM 6 1,
 oQ 7 (.call 3 105 [(.t 5), (.t 6)]),
 oP 8 (.bin .geq (.t 7) (.c (.int .i64 0))),
 oM 4 8])
 (.ret))⟩
def f108 : AFn := ⟨11, [.tmp 4],
 .seq (.region 0 [oQ 2 (.box (.t 0)),
 oP 4 (.move (.c (.bool false)))])
 (.seq (.region 0 [oM 5 1,
 oF 6 3 2,
 oL 7 false 1 6,
 oP 8 (.lenS (.t 7)),
 oP 9 (.bin .sub (.t 8) (.c (.int .i64 1))),
 oQ 10 (.call 1 115 [(.t 5), (.c (.int .i64 0)), (.t 9)]),
 oM 4 10])
 (.ret))⟩
def f109 : AFn := ⟨30, [.tmp 4],
 .seq (.region 0 [oQ 2 (.box (.t 0)),
 oP 4 (.move (.c (.bool false)))])
 (.seq (.seq (.region 0 [oC 5 0])
 (.block 0 (.loop (.seq (.seq (.region 0 [oM 7 5,
 oF 8 3 2,
 oL 9 false 1 8,
 oP 10 (.lenS (.t 9)),
 oP 11 (.bin .lss (.t 7) (.t 10))])
 (.cond (.t 11) (.skip)
 (.exit 0)))
 (.seq (.block 1 (.seq (.region 0 [oM 14 1,
 oM 15 5,
 oQ 16 (.call 1 97 [(.t 14), (.t 15)]),
 oM 6 16])
 (.seq (.region 0 [oL 17 true 4 2,
 oM 18 6,
 oQ 19 (.call 1 127 [(.t 17), (.t 18)]),
 oL 20 true 4 2,
 oM 21 6,
 oQ 22 (.call 1 128 [(.t 20), (.t 21)]),
 oP 23 (.bin .add (.t 19) (.t 22)),
 oF 24 3 2,
 oL 25 false 1 24,
 oM 26 5,
 oD 27 1 25 26,
 oL 28 false 1 27,
 oP 29 (.bin .gtr (.t 23) (.t 28))])
 (.cond (.t 29) (.seq (.region 0 [oP 4 (.move (.c (.bool false)))])
 (.ret))
 (.skip)))))
 (.region 0 [oM 12 5,
 oP 13 (.bin .add (.t 12) (.c (.int .i64 1))),
 oM 5 13]))))))
 (.seq (.region 0 [oP 4 (.move (.c (.bool true)))])
 (.ret)))⟩
def f110 : AFn := ⟨52, [],
 .seq (.region 0 [oQ 2 (.box (.t 0))])
 (.seq (.region 0 [oF 11 0 2,
 oF 12 0 11,
 oF 13 2 12,
 oL 14 false 1 13,
 oP 15 (.lenS (.t 14)),
 oF 16 0 2,
 oF 17 0 16,
 oF 18 3 17,
 oL 19 false 1 18,
 oP 20 (.lenS (.t 19)),
 oM 4 15,
 oM 5 20])
 (.seq (.region 0 [oC 6 1])
 (.seq (.seq (.region 0 [oM 21 4,
 oC 22 0])
 (.block 0 (.loop (.seq (.region 0 [oP 23 (.bin .lss (.t 22) (.t 21))])
 (.seq (.cond (.t 23) (.skip)
 (.exit 0))
 (.seq (.block 1 (.region 0 [oM 24 6,
 oM 25 5,
 oP 26 (.bin .mul (.t 24) (.t 25)),
 oM 6 26]))
 (.region 0 [oP 27 (.bin .add (.t 22) (.c (.int .i64 1))),
 oM 22 27])))))))
 (.seq (.region 0 [oM 28 6,
 oC 29 0])
 (.block 2 (.loop (.seq (.region 0 [oP 30 (.bin .lss (.t 29) (.t 28))])
 (.seq (.cond (.t 30) (.skip)
 (.exit 2))
 (.seq (.block 3 (.seq (.region 0 [oM 31 29,
 oM 7 31])
 (.seq (.region 0 [oM 32 7,
 oM 33 5,
 oM 34 4,
 oQ 35 (.call 1 129 [(.t 32), (.t 33), (.t 34)]),
 oM 8 35])
 (.seq (.region 0 [oF 37 0 2,
 oF 38 0 37,
 oL 39 true 4 38,
 oM 40 8,
 oQ 41 (.call 1 113 [(.t 39), (.t 40)]),
 oM 36 41,
 oE 42 36 0,
 oE 43 36 1,
 oM 9 42,
 oM 10 43])
 (.seq (.region 0 [oM 44 9,
 oM 45 44,
 oN 46 45 true 1,
 oN 47 45 true 8,
 ⟨(some 48), .callv false (.t 46) [(.t 47)], (some (45, true)), none, []⟩,
 oG 49 45 true (.un .not (.t 48)),
 oP 50 (.pick (.t 45) (.t 49) (.c (.bool false)))])
 (.cond (.t 50) (.ret)
 (.skip)))))))
 (.region 0 [oP 51 (.bin .add (.t 29) (.c (.int .i64 1))),
 oM 29 51]))))))))))⟩
def f111 : AFn := ⟨26, [.tmp 3],
 .seq (.region 0 [oQ 2 (.box (.t 0)),
 oP 3 (.move (.c (.bool false)))])
 (.seq (.region 0 [oL 4 true 8 1,
 oF 5 0 2,
 oL 6 false 1 5,
 oQ 7 (.call 1 67 [(.t 4), (.t 6)]),
 oM 8 7,
 oG 9 8 true (.fieldAddr 2 (.t 2)),
 ⟨(some 10), .load false 1 (.t 9), (some (8, true)), none, []⟩,
 ⟨(some 11), .call 1 90 [(.t 10), (.c (.int .i64 0)), (.c (.int .i64 99))], (some (8, true)), none, []⟩,
 oP 12 (.pick (.t 8) (.t 11) (.c (.bool false))),
 oM 13 12,
 oG 14 13 true (.fieldAddr 1 (.t 2)),
 ⟨(some 15), .load false 1 (.t 14), (some (13, true)), none, []⟩,
 oG 16 13 true (.lenS (.t 15)),
 oG 17 13 true (.bin .gtr (.t 16) (.c (.int .i64 0))),
 oP 18 (.pick (.t 13) (.t 17) (.c (.bool false))),
 oM 19 18,
 oG 20 19 true (.fieldAddr 0 (.t 1)),
 ⟨(some 21), .load true 4 (.t 20), (some (19, true)), none, []⟩,
 oG 22 19 true (.fieldAddr 1 (.t 2)),
 ⟨(some 23), .load false 1 (.t 22), (some (19, true)), none, []⟩,
 ⟨(some 24), .call 1 112 [(.t 21), (.t 23)], (some (19, true)), none, []⟩,
 oP 25 (.pick (.t 19) (.t 24) (.c (.bool false))),
 oM 3 25])
 (.ret))⟩
def f112 : AFn := ⟨35, [.tmp 4],
 .seq (.region 0 [oQ 2 (.box (.t 0)),
 oP 4 (.move (.c (.bool false)))])
 (.seq (.seq (.region 0 [oM 7 1,
 oP 8 (.lenS (.t 7)),
 oC 9 0])
 (.block 0 (.loop (.seq (.region 0 [oP 10 (.bin .lss (.t 9) (.t 8))])
 (.seq (.cond (.t 10) (.skip)
 (.exit 0))
 (.seq (.block 1 (.seq (.region 0 [oM 11 9,
 oD 12 1 7 9,
 oL 13 false 1 12,
 oM 5 11,
 oM 6 13])
 (.seq (.region 0 [oM 14 6,
 oF 15 3 2,
 oL 16 false 1 15,
 oP 17 (.lenS (.t 16)),
 oP 18 (.bin .sub (.t 17) (.c (.int .i64 1))),
 oQ 19 (.call 1 90 [(.t 14), (.c (.int .i64 0)), (.t 18)]),
 oP 20 (.un .not (.t 19)),
 oM 21 20,
 oN 22 21 false 5,
 oG 23 21 false (.bin .gtr (.t 22) (.c (.int .i64 0))),
 oN 24 21 false 23,
 oN 25 24 true 6,
 oN 26 24 true 1,
 oN 27 24 true 5,
 oG 28 24 true (.bin .sub (.t 27) (.c (.int .i64 1))),
 oG 29 24 true (.idxSl 1 (.t 26) (.t 28)),
 ⟨(some 30), .load false 1 (.t 29), (some (24, true)), none, []⟩,
 oG 31 24 true (.bin .leq (.t 25) (.t 30)),
 oG 32 21 false (.pick (.t 24) (.t 31) (.c (.bool false))),
 oP 33 (.pick (.t 21) (.c (.bool true)) (.t 32))])
 (.cond (.t 33) (.seq (.region 0 [oP 4 (.move (.c (.bool false)))])
 (.ret))
 (.skip)))))
 (.region 0 [oP 34 (.bin .add (.t 9) (.c (.int .i64 1))),
 oM 9 34])))))))
 (.seq (.region 0 [oP 4 (.move (.c (.bool true)))])
 (.ret)))⟩
def f113 : AFn := ⟨21, [.tmp 4, .tmp 5],
 .seq (.region 0 [oQ 2 (.box (.t 0)),
 oP 4 (.move (.c (.bool false))),
 oC 5 0])
 (.seq (.seq (.region 0 [oL 9 true 4 2,
 oQ 10 (.call 1 130 [(.t 9)]),
 oM 6 10])
 (.seq (.region 0 [oM 11 6,
 oP 12 (.bin .neq (.t 11) (.c (.int .i64 0)))])
 (.cond (.t 12) (.seq (.region 0 [oM 13 6,
 oP 4 (.move (.c (.bool false))),
 oM 5 13])
 (.ret))
 (.skip))))
 (.seq (.region 0 [oL 15 true 4 2,
 oM 16 1,
 oQ 17 (.call 1 131 [(.t 15), (.t 16)]),
 oM 14 17,
 oE 18 14 0,
 oE 19 14 1,
 oQ 7 (.alloc [.int .i64 0, .int .i64 0, .int .i64 0, .int .i64 0, .int .i64 0, .int .i64 0, .int .i64 0, .int .i64 0, .int .i64 0, .int .i64 0, .int .i64 0, .int .i64 0, .int .i64 0, .int .i64 0, .int .i64 0, .int .i64 0]),
 ⟨none, .store 16 (.t 7) (.t 18), none, none, []⟩,
 oM 8 19])
 (.seq (.region 0 [oM 20 8,
 oM 4 20,
 oC 5 0])
 (.ret))))⟩
def f114 : AFn := ⟨9, [.tmp 4],
 .seq (.region 0 [oQ 3 (.box (.t 1)),
 oP 4 (.move (.c (.bool false)))])
 (.seq (.region 0 [oM 5 0,
 oP 6 (.mkFn 133 [] [(.t 3)]),
 oQ 7 (.call 3 132 [(.t 5), (.t 6)]),
 oP 8 (.un .not (.t 7)),
 oM 4 8])
 (.ret))⟩
def f115 : AFn := ⟨11, [.tmp 6],
 .seq (.region 0 [oP 6 (.move (.c (.bool false)))])
 (.seq (.region 0 [oM 7 0,
 oM 8 1,
 oM 9 2,
 oQ 10 (.call 1 23 [(.t 7), (.t 8), (.t 9)]),
 oM 6 10])
 (.ret))⟩
def f116 : AFn := ⟨21, [],
 .seq (.region 0 [oQ 2 (.box (.t 0))])
 (.seq (.region 0 [oF 5 0 2,
 oF 6 7 5,
 oL 7 false 1 6,
 oP 8 (.lenS (.t 7)),
 oP 9 (.bin .add (.t 8) (.c (.int .i64 1))),
 oC 10 0])
 (.block 0 (.loop (.seq (.region 0 [oP 11 (.bin .lss (.t 10) (.t 9))])
 (.seq (.cond (.t 11) (.skip)
 (.exit 0))
 (.seq (.block 1 (.seq (.region 0 [oM 12 10,
 oM 4 12])
 (.seq (.region 1 [⟨(some 13), .load true 13 (.t 2), none, none, [0]⟩,
 oM 14 4,
 ⟨(some 15), .makeSlice true 1 8 [.int .i64 0] (.c (.int .i64 0)) (.t 14), none, (some 0), []⟩,
 oM 16 4,
 oM 17 1,
 oQ 18 (.call 0 134 [(.t 13), (.t 15), (.t 16), (.t 17)]),
 oP 19 (.un .not (.t 18))])
 (.cond (.t 19) (.ret)
 (.skip)))))
 (.region 0 [oP 20 (.bin .add (.t 10) (.c (.int .i64 1))),
 oM 10 20])))))))⟩
def f117 : AFn := ⟨25, [.tmp 4],
 .seq (.region 0 [oQ 2 (.box (.t 0)),
 oC 4 0])
 (.seq (.region 0 [oC 5 0])
 (.seq (.seq (.region 0 [oM 8 1,
 oP 9 (.lenS (.t 8)),
 oC 10 0])
 (.block 0 (.loop (.seq (.region 0 [oP 11 (.bin .lss (.t 10) (.t 9))])
 (.seq (.cond (.t 11) (.skip)
 (.exit 0))
 (.seq (.block 1 (.seq (.region 0 [oD 12 1 8 10,
 oL 13 false 1 12,
 oM 7 13])
 (.region 0 [oM 14 5,
 oF 15 0 2,
 oF 16 7 15,
 oL 17 false 1 16,
 oM 18 7,
 oD 19 3 17 18,
 oF 20 2 19,
 oL 21 false 1 20,
 oP 22 (.bin .add (.t 14) (.t 21)),
 oM 5 22])))
 (.region 0 [oP 23 (.bin .add (.t 10) (.c (.int .i64 1))),
 oM 10 23])))))))
 (.seq (.region 0 [oM 24 5,
 oM 4 24])
 (.ret))))⟩
def f118 : AFn := ⟨8, [.tmp 2],
 .seq (.region 0 [oP 2 (.move (.c (.nils)))])
 (.seq (.seq (.region 0 [oM 3 0,
 oP 4 (.isNil (.t 3) (.c (.nils)))])
 (.cond (.t 4) (.seq (.region 0 [oP 2 (.move (.c (.nils)))])
 (.ret))
 (.skip)))
 (.seq (.region 0 [oQ 5 (.buildSlice 1 0 [.int .i64 0] []),
 oM 6 0,
 oQ 7 (.append false 1 8 (.t 5) (.t 6)),
 oM 2 7])
 (.ret)))⟩
def f121 : AFn := ⟨45, [.tmp 6, .tmp 7, .tmp 8, .tmp 9],
 .seq (.region 0 [oQ 3 (.box (.t 0)),
 oC 6 0,
 oC 7 0,
 oC 8 0,
 oC 9 0])
 (.seq (.seq (.region 0 [oL 15 true 4 3,
 oQ 16 (.call 1 130 [(.t 15)]),
 oM 10 16])
 (.seq (.region 0 [oM 17 10,
 oP 18 (.bin .neq (.t 17) (.c (.int .i64 0)))])
 (.cond (.t 18) (.seq (.region 0 [oM 19 10,
 oC 6 0,
 oC 7 0,
 oC 8 0,
 oM 9 19])
 (.ret))
 (.skip))))
 (.seq (.region 0 [oL 20 true 4 3,
 oQ 11 (.alloc [.nils, .int .i64 0, .nils, .nils]),
 ⟨none, .store 4 (.t 11) (.t 20), none, none, []⟩])
 (.seq (.region 0 [oL 22 true 4 11,
 oM 23 1,
 oQ 24 (.call 1 131 [(.t 22), (.t 23)]),
 oM 21 24,
 oE 25 21 0,
 oE 26 21 1,
 oQ 12 (.alloc [.int .i64 0, .int .i64 0, .int .i64 0, .int .i64 0, .int .i64 0, .int .i64 0, .int .i64 0, .int .i64 0, .int .i64 0, .int .i64 0, .int .i64 0, .int .i64 0, .int .i64 0, .int .i64 0, .int .i64 0, .int .i64 0]),
 ⟨none, .store 16 (.t 12) (.t 25), none, none, []⟩,
 oM 13 26])
 (.seq (.seq (.region 0 [oM 27 13,
 oP 28 (.un .not (.t 27)),
 oM 29 28,
 ⟨(some 30), .load true 4 (.t 11), (some (29, false)), none, []⟩,
 oN 31 29 false 2,
 ⟨(some 32), .call 1 135 [(.t 30), (.t 31)], (some (29, false)), none, []⟩,
 oG 33 29 false (.un .not (.t 32)),
 oP 34 (.pick (.t 29) (.c (.bool true)) (.t 33))])
 (.cond (.t 34) (.seq (.region 0 [oC 6 0,
 oC 7 0,
 oC 8 0,
 oC 9 1])
 (.ret))
 (.skip)))
 (.seq (.region 0 [oM 35 2,
 oP 36 (.idxArr 4 4 (.t 12) (.t 35)),
 oL 37 true 4 36,
 oQ 14 (.alloc [.int .i64 0, .int .i64 0, .int .i64 0, .int .i64 0]),
 ⟨none, .store 4 (.t 14) (.t 37), none, none, []⟩])
 (.seq (.region 0 [oF 38 1 14,
 oL 39 false 1 38,
 oL 40 true 4 11,
 oL 41 true 4 14,
 oQ 42 (.call 1 136 [(.t 40), (.t 41)]),
 oF 43 3 14,
 oL 44 false 1 43,
 oM 6 39,
 oM 7 42,
 oM 8 44,
 oC 9 0])
 (.ret)))))))⟩
def f122 : AFn := ⟨32, [.tmp 5],
 .seq (.region 0 [oP 5 (.move (.c (.bool false)))])
 (.seq (.region 0 [oF 8 0 1,
 oF 9 7 8,
 oL 10 false 1 9,
 oM 11 0,
 oD 12 3 10 11,
 oL 13 true 3 12,
 oQ 6 (.alloc [.int .i64 0, .nils, .int .i64 0]),
 ⟨none, .store 3 (.t 6) (.t 13), none, none, []⟩])
 (.seq (.region 0 [oP 14 (.mkFn 123 [] [(.t 6)]),
 oM 7 14])
 (.seq (.region 0 [oM 15 0,
 oL 16 false 1 2,
 oP 17 (.bin .lss (.t 15) (.t 16)),
 oM 18 17,
 oG 19 18 true (.fieldAddr 0 (.t 6)),
 ⟨(some 20), .load false 1 (.t 19), (some (18, true)), none, []⟩,
 oG 21 18 true (.fieldAddr 0 (.t 3)),
 ⟨(some 22), .load false 1 (.t 21), (some (18, true)), none, []⟩,
 oG 23 18 true (.bin .neq (.t 20) (.t 22)),
 oP 24 (.pick (.t 18) (.t 23) (.c (.bool false))),
 oM 25 24,
 oG 26 25 true (.fieldAddr 1 (.t 3)),
 ⟨(some 27), .load false 1 (.t 26), (some (25, true)), none, []⟩,
 oN 28 25 true 7,
 ⟨(some 29), .call 3 107 [(.t 27), (.t 28)], (some (25, true)), none, []⟩,
 oG 30 25 true (.un .not (.t 29)),
 oP 31 (.pick (.t 25) (.t 30) (.c (.bool false))),
 oM 5 31])
 (.ret))))⟩
def f123 : AFn := ⟨8, [.tmp 3],
 .seq (.region 0 [oP 3 (.move (.c (.bool false)))])
 (.seq (.region 0 [oF 4 1 1,
 oL 5 false 1 4,
 oM 6 0,
 oQ 7 (.call 1 103 [(.t 5), (.t 6)]),
 oM 3 7])
 (.ret))⟩
def f124 : AFn := ⟨9, [.tmp 4],
 .seq (.region 0 [oQ 3 (.box (.t 1)),
 oP 4 (.move (.c (.bool false)))])
 (.seq (.region 0 [oM 5 0,
 oP 6 (.mkFn 137 [] [(.t 3)]),
 oQ 7 (.call 3 107 [(.t 5), (.t 6)]),
 oP 8 (.un .not (.t 7)),
 oM 4 8])
 (.ret))⟩
def f125 : AFn := ⟨8, [.tmp 3],
 .seq (.region 0 [oP 3 (.move (.c (.bool false)))])
 (.seq (.region 0 [oM 4 0,
 oF 5 8 1,
 oP 6 (.idxArr 4 1 (.t 5) (.t 4)),
 oL 7 false 1 6,
 oM 3 7])
 (.ret))⟩
def f126 : AFn := ⟨19, [.tmp 4],
 .seq (.region 0 [oC 4 0])
 (.seq (.seq (.region 0 [oM 6 0,
 oP 7 (.lenS (.t 6)),
 oC 8 0])
 (.block 0 (.loop (.seq (.region 0 [oP 9 (.bin .lss (.t 8) (.t 7))])
 (.seq (.cond (.t 9) (.skip)
 (.exit 0))
 (.seq (.block 1 (.seq (.region 0 [oM 10 8,
 oM 5 10])
 (.seq (.region 0 [oM 11 1,
 oM 12 0,
 oM 13 5,
 oD 14 1 12 13,
 oL 15 false 1 14,
 oP 16 (.bin .eql (.t 11) (.t 15))])
 (.cond (.t 16) (.seq (.region 0 [oM 17 5,
 oM 4 17])
 (.ret))
 (.skip)))))
 (.region 0 [oP 18 (.bin .add (.t 8) (.c (.int .i64 1))),
 oM 8 18])))))))
 (.seq (.region 0 [oP 4 (.move (.c (.int .i64 (-1))))])
 (.ret)))⟩
def f127 : AFn := ⟨25, [.tmp 4],
 .seq (.region 0 [oQ 2 (.box (.t 0)),
 oC 4 0])
 (.seq (.region 0 [oC 5 0])
 (.seq (.seq (.region 0 [oC 6 0])
 (.block 0 (.loop (.seq (.seq (.region 0 [oM 7 6,
 oM 8 1,
 oP 9 (.lenS (.t 8)),
 oP 10 (.bin .lss (.t 7) (.t 9))])
 (.cond (.t 10) (.skip)
 (.exit 0)))
 (.seq (.block 1 (.region 0 [oM 13 5,
 oF 14 2 2,
 oL 15 false 1 14,
 oM 16 1,
 oM 17 6,
 oD 18 1 16 17,
 oL 19 false 1 18,
 oD 20 2 15 19,
 oF 21 1 20,
 oL 22 false 1 21,
 oP 23 (.bin .add (.t 13) (.t 22)),
 oM 5 23]))
 (.region 0 [oM 11 6,
 oP 12 (.bin .add (.t 11) (.c (.int .i64 1))),
 oM 6 12]))))))
 (.seq (.region 0 [oM 24 5,
 oM 4 24])
 (.ret))))⟩
def f128 : AFn := ⟨42, [.tmp 4],
 .seq (.region 0 [oQ 2 (.box (.t 0)),
 oC 4 0])
 (.seq (.seq (.region 0 [oM 7 1,
 oP 8 (.lenS (.t 7)),
 oP 9 (.bin .eql (.t 8) (.c (.int .i64 0)))])
 (.cond (.t 9) (.seq (.region 0 [oC 4 0])
 (.ret))
 (.skip)))
 (.seq (.region 0 [oC 5 0])
 (.seq (.seq (.region 0 [oC 6 0])
 (.block 0 (.loop (.seq (.seq (.region 0 [oM 10 6,
 oM 11 1,
 oP 12 (.lenS (.t 11)),
 oP 13 (.bin .lss (.t 10) (.t 12))])
 (.cond (.t 13) (.skip)
 (.exit 0)))
 (.seq (.block 1 (.region 0 [oM 16 5,
 oF 17 0 2,
 oL 18 false 1 17,
 oF 19 2 2,
 oL 20 false 1 19,
 oM 21 1,
 oM 22 6,
 oD 23 1 21 22,
 oL 24 false 1 23,
 oD 25 2 20 24,
 oF 26 0 25,
 oL 27 false 1 26,
 oD 28 2 18 27,
 oF 29 0 28,
 oL 30 false 1 29,
 oP 31 (.minmax true (.t 16) [(.t 30)]),
 oM 5 31]))
 (.region 0 [oM 14 6,
 oP 15 (.bin .add (.t 14) (.c (.int .i64 1))),
 oM 6 15]))))))
 (.seq (.region 0 [oF 32 1 2,
 oL 33 false 1 32,
 oL 34 true 4 2,
 oM 35 1,
 oQ 36 (.call 1 127 [(.t 34), (.t 35)]),
 oM 37 5,
 oP 38 (.bin .mul (.t 36) (.t 37)),
 oP 39 (.bin .add (.t 38) (.c (.int .i64 9))),
 oP 40 (.bin .quo (.t 39) (.c (.int .i64 10))),
 oP 41 (.bin .add (.t 33) (.t 40)),
 oM 4 41])
 (.ret)))))⟩
def f129 : AFn := ⟨25, [.tmp 6],
 .seq (.region 0 [oQ 3 (.box (.t 0)),
 oQ 4 (.box (.t 1)),
 oP 6 (.move (.c (.nils)))])
 (.seq (.region 0 [oM 9 2,
 oQ 10 (.makeSlice false 1 8 [.int .i64 0] (.t 9) (.t 9)),
 oQ 7 (.alloc [.nils]),
 ⟨none, .store 1 (.t 7) (.t 10), none, none, []⟩])
 (.seq (.seq (.region 0 [oL 11 false 1 7,
 oQ 12 (.call 0 138 [(.t 11)])])
 (.block 0 (.rangeFunc (.t 12) [13, 14] (.region 0 [oM 8 13])
 (.block 1 (.seq (.region 0 [oL 15 false 1 7,
 oM 16 8,
 oL 17 false 1 3,
 oL 18 false 1 4,
 oP 19 (.bin .rem (.t 17) (.t 18)),
 oD 20 1 15 16,
 ⟨none, .store 1 (.t 20) (.t 19), none, none, []⟩])
 (.region 0 [oL 21 false 1 3,
 oL 22 false 1 4,
 oP 23 (.bin .quo (.t 21) (.t 22)),
 ⟨none, .store 1 (.t 3) (.t 23), none, none, []⟩]))))))
 (.seq (.region 0 [oL 24 false 1 7,
 oM 6 24])
 (.ret))))⟩
def f130 : AFn := ⟨6, [.tmp 2],
 .seq (.region 0 [oQ 1 (.box (.t 0)),
 oC 2 0])
 (.seq (.seq (.region 0 [oL 3 true 4 1,
 oQ 4 (.call 1 139 [(.t 3)]),
 oP 5 (.un .not (.t 4))])
 (.cond (.t 5) (.seq (.region 0 [oC 2 80])
 (.ret))
 (.skip)))
 (.seq (.region 0 [oC 2 0])
 (.ret)))⟩
def f131 : AFn := ⟨44, [.cell true 16 4, .tmp 5],
 .seq (.region 0 [oQ 2 (.box (.t 0)),
 oQ 4 (.alloc [.int .i64 0, .int .i64 0, .int .i64 0, .int .i64 0, .int .i64 0, .int .i64 0, .int .i64 0, .int .i64 0, .int .i64 0, .int .i64 0, .int .i64 0, .int .i64 0, .int .i64 0, .int .i64 0, .int .i64 0, .int .i64 0]),
 oP 5 (.move (.c (.bool false)))])
 (.seq (.region 0 [oQ 6 (.alloc [.int .i64 0, .int .i64 0, .int .i64 0, .int .i64 0, .int .i64 0, .int .i64 0, .int .i64 0, .int .i64 0, .int .i64 0, .int .i64 0, .int .i64 0, .int .i64 0, .int .i64 0, .int .i64 0, .int .i64 0, .int .i64 0])])
 (.seq (.seq (.region 0 [oM 11 1,
 oP 12 (.lenS (.t 11)),
 oF 13 2 2,
 oL 14 false 1 13,
 oP 15 (.lenS (.t 14)),
 oP 16 (.bin .neq (.t 12) (.t 15))])
 (.cond (.t 16) (.seq (.region 0 [oL 17 true 16 6,
 ⟨none, .store 16 (.t 4) (.t 17), none, none, []⟩,
 oP 5 (.move (.c (.bool false)))])
 (.ret))
 (.skip)))
 (.seq (.seq (.region 0 [oM 18 1,
 oP 19 (.lenS (.t 18)),
 oC 20 0])
 (.block 0 (.loop (.seq (.region 0 [oP 21 (.bin .lss (.t 20) (.t 19))])
 (.seq (.cond (.t 21) (.skip)
 (.exit 0))
 (.seq (.block 1 (.seq (.region 0 [oM 22 20,
 oD 23 1 18 20,
 oL 24 false 1 23,
 oM 7 22,
 oM 8 24])
 (.seq (.seq (.region 0 [oL 25 true 4 2,
 oM 26 8,
 oQ 27 (.call 1 135 [(.t 25), (.t 26)]),
 oP 28 (.un .not (.t 27))])
 (.cond (.t 28) (.seq (.region 0 [oL 29 true 16 6,
 ⟨none, .store 16 (.t 4) (.t 29), none, none, []⟩,
 oP 5 (.move (.c (.bool false)))])
 (.ret))
 (.skip)))
 (.seq (.region 0 [oL 31 true 4 2,
 oL 32 true 16 6,
 oM 33 7,
 oM 34 8,
 oQ 35 (.call 1 140 [(.t 31), (.t 32), (.t 33), (.t 34)]),
 oM 30 35,
 oE 36 30 0,
 oE 37 30 1,
 oQ 9 (.alloc [.int .i64 0, .int .i64 0, .int .i64 0, .int .i64 0, .int .i64 0, .int .i64 0, .int .i64 0, .int .i64 0, .int .i64 0, .int .i64 0, .int .i64 0, .int .i64 0, .int .i64 0, .int .i64 0, .int .i64 0, .int .i64 0]),
 ⟨none, .store 16 (.t 9) (.t 36), none, none, []⟩,
 oM 10 37])
 (.seq (.seq (.region 0 [oM 38 10,
 oP 39 (.un .not (.t 38))])
 (.cond (.t 39) (.seq (.region 0 [oL 40 true 16 6,
 ⟨none, .store 16 (.t 4) (.t 40), none, none, []⟩,
 oP 5 (.move (.c (.bool false)))])
 (.ret))
 (.skip)))
 (.region 0 [oL 41 true 16 9,
 ⟨none, .store 16 (.t 6) (.t 41), none, none, []⟩]))))))
 (.region 0 [oP 42 (.bin .add (.t 20) (.c (.int .i64 1))),
 oM 20 42])))))))
 (.seq (.region 0 [oL 43 true 16 6,
 ⟨none, .store 16 (.t 4) (.t 43), none, none, []⟩,
 oP 5 (.move (.c (.bool true)))])
 (.ret)))))⟩
def f132 : AFn := ⟨9, [.tmp 4],
 .seq (.region 0 [oP 4 (.move (.c (.bool false)))])
 (.seq (.region 0 [oM 5 0,
 oM 6 1,
 oQ 7 (.call 3 141 [(.t 5), (.t 6)]),
 oP 8 (.bin .geq (.t 7) (.c (.int .i64 0))),
 oM 4 8])
 (.ret))⟩
def f133 : AFn := ⟨8, [.tmp 3],
 .seq (.region 0 [oQ 2 (.box (.t 0)),
 oP 3 (.move (.c (.bool false)))])
 (.seq (.region 0 [oL 4 false 1 1,
 oL 5 true 3 2,
 oQ 6 (.callv true (.t 4) [(.t 5)]),
 oP 7 (.un .not (.t 6)),
 oM 3 7])
 (.ret))⟩
def f134 : AFn := ⟨40, [.tmp 8],
 .seq (.region 0 [oQ 4 (.box (.t 0)),
 oP 8 (.move (.c (.bool false)))])
 (.seq (.seq (.region 0 [oM 10 1,
 oP 11 (.lenS (.t 10)),
 oM 12 2,
 oP 13 (.bin .eql (.t 11) (.t 12))])
 (.cond (.t 13) (.seq (.region 0 [oM 14 3,
 oM 15 1,
 oQ 16 (.callv false (.t 14) [(.t 15)]),
 oM 8 16])
 (.ret))
 (.skip)))
 (.seq (.seq (.region 0 [oF 17 0 4,
 oF 18 7 17,
 oL 19 false 1 18,
 oP 20 (.lenS (.t 19)),
 oC 21 0])
 (.block 0 (.loop (.seq (.region 0 [oP 22 (.bin .lss (.t 21) (.t 20))])
 (.seq (.cond (.t 22) (.skip)
 (.exit 0))
 (.seq (.block 1 (.seq (.region 0 [oM 23 21,
 oM 9 23])
 (.seq (.region 0 [oL 24 true 13 4,
 oM 25 1,
 oM 26 9,
 oQ 27 (.call 3 100 [(.t 24), (.t 25), (.t 26)]),
 oM 28 27,
 ⟨(some 29), .loadN true 13 (.t 4) [1], (some (28, true)), none, []⟩,
 oN 30 28 true 1,
 oN 31 28 true 9,
 ⟨(some 32), .litS 1 1 [.int .i64 0] [(0, (.t 31))], (some (28, true)), none, []⟩,
 ⟨(some 33), .w (.app 1 (.t 30) (.t 32) (some 1)), (some (28, true)), none, []⟩,
 oN 34 28 true 2,
 oN 35 28 true 3,
 ⟨(some 36), .call 0 134 [(.t 29), (.t 33), (.t 34), (.t 35)], (some (28, true)), none, []⟩,
 oG 37 28 true (.un .not (.t 36)),
 oP 38 (.pick (.t 28) (.t 37) (.c (.bool false)))])
 (.cond (.t 38) (.seq (.region 0 [oP 8 (.move (.c (.bool false)))])
 (.ret))
 (.skip)))))
 (.region 0 [oP 39 (.bin .add (.t 21) (.c (.int .i64 1))),
 oM 21 39])))))))
 (.seq (.region 0 [oP 8 (.move (.c (.bool true)))])
 (.ret))))⟩
def f135 : AFn := ⟨11, [.tmp 4],
 .seq (.region 0 [oQ 2 (.box (.t 0)),
 oP 4 (.move (.c (.bool false)))])
 (.seq (.region 0 [oM 5 1,
 oF 6 3 2,
 oL 7 false 1 6,
 oP 8 (.lenS (.t 7)),
 oP 9 (.bin .sub (.t 8) (.c (.int .i64 1))),
 oQ 10 (.call 1 142 [(.t 5), (.c (.int .i64 0)), (.t 9)]),
 oM 4 10])
 (.ret))⟩
def f136 : AFn := ⟨18, [.tmp 4],
 .seq (.region 0 [oQ 2 (.box (.t 0)),
 oQ 3 (.box (.t 1)),
 oC 4 0])
 (.seq (.seq (.region 0 [oF 5 0 3,
 oL 6 false 1 5,
 oP 7 (.bin .eql (.t 6) (.c (.int .i64 0)))])
 (.cond (.t 7) (.seq (.region 0 [oC 4 0])
 (.ret))
 (.skip)))
 (.seq (.region 0 [oF 8 1 2,
 oL 9 false 1 8,
 oF 10 1 3,
 oL 11 false 1 10,
 oF 12 2 3,
 oL 13 false 1 12,
 oP 14 (.bin .mul (.t 11) (.t 13)),
 oP 15 (.bin .add (.t 14) (.c (.int .i64 9))),
 oP 16 (.bin .quo (.t 15) (.c (.int .i64 10))),
 oP 17 (.bin .add (.t 9) (.t 16)),
 oM 4 17])
 (.ret)))⟩
def f137 : AFn := ⟨8, [.tmp 3],
 .seq (.region 0 [oP 3 (.move (.c (.bool false)))])
 (.seq (.region 0 [oL 4 false 1 1,
 oM 5 0,
 oQ 6 (.callv true (.t 4) [(.t 5)]),
 oP 7 (.un .not (.t 6)),
 oM 3 7])
 (.ret))⟩
def f138 : AFn := ⟨4, [.tmp 2],
 .seq (.region 0 [oQ 1 (.box (.t 0)),
 oP 2 (.move (.c (.nilf)))])
 (.seq (.region 0 [oP 3 (.mkFn 143 [] [(.t 1)]),
 oM 2 3])
 (.ret))⟩
def f139 : AFn := ⟨46, [.tmp 2],
 .seq (.region 0 [oQ 1 (.box (.t 0)),
 oP 2 (.move (.c (.bool false)))])
 (.seq (.region 0 [oP 3 (.move (.c (.fn 144 [] [])))])
 (.seq (.region 0 [oP 6 (.mkFn 145 [] [(.t 1)]),
 oM 4 6])
 (.seq (.region 0 [oP 5 (.move (.c (.fn 146 [] [])))])
 (.seq (.region 0 [oF 7 0 1,
 oL 8 false 1 7,
 oP 9 (.lenS (.t 8)),
 oP 10 (.bin .leq (.t 9) (.c (.int .i64 3))),
 oM 11 10,
 oG 12 11 true (.fieldAddr 0 (.t 1)),
 ⟨(some 13), .load false 1 (.t 12), (some (11, true)), none, []⟩,
 oN 14 11 true 3,
 ⟨(some 15), .call 3 147 [(.t 13), (.t 14)], (some (11, true)), none, []⟩,
 oP 16 (.pick (.t 11) (.t 15) (.c (.bool false))),
 oM 17 16,
 oG 18 17 true (.fieldAddr 1 (.t 1)),
 ⟨(some 19), .load false 1 (.t 18), (some (17, true)), none, []⟩,
 ⟨(some 20), .call 1 142 [(.t 19), (.c (.int .i64 0)), (.c (.int .i64 9))], (some (17, true)), none, []⟩,
 oP 21 (.pick (.t 17) (.t 20) (.c (.bool false))),
 oM 22 21,
 oG 23 22 true (.fieldAddr 2 (.t 1)),
 ⟨(some 24), .load false 1 (.t 23), (some (22, true)), none, []⟩,
 oG 25 22 true (.lenS (.t 24)),
 oG 26 22 true (.bin .leq (.t 25) (.c (.int .i64 6))),
 oP 27 (.pick (.t 22) (.t 26) (.c (.bool false))),
 oM 28 27,
 oG 29 28 true (.fieldAddr 2 (.t 1)),
 ⟨(some 30), .load false 1 (.t 29), (some (28, true)), none, []⟩,
 oN 31 28 true 4,
 ⟨(some 32), .call 3 148 [(.t 30), (.t 31)], (some (28, true)), none, []⟩,
 oP 33 (.pick (.t 28) (.t 32) (.c (.bool false))),
 oM 34 33,
 oG 35 34 true (.fieldAddr 3 (.t 1)),
 ⟨(some 36), .load false 1 (.t 35), (some (34, true)), none, []⟩,
 oG 37 34 true (.lenS (.t 36)),
 oG 38 34 true (.bin .leq (.t 37) (.c (.int .i64 4))),
 oP 39 (.pick (.t 34) (.t 38) (.c (.bool false))),
 oM 40 39,
 oG 41 40 true (.fieldAddr 3 (.t 1)),
 ⟨(some 42), .load false 1 (.t 41), (some (40, true)), none, []⟩,
 oN 43 40 true 5,
 ⟨(some 44), .call 3 149 [(.t 42), (.t 43)], (some (40, true)), none, []⟩,
 oP 45 (.pick (.t 40) (.t 44) (.c (.bool false))),
 oM 2 45])
 (.ret)))))⟩
def f140 : AFn := ⟨31, [.cell true 16 8, .tmp 9],
 .seq (.region 0 [oQ 4 (.box (.t 0)),
 oQ 5 (.box (.t 1)),
 oQ 8 (.alloc [.int .i64 0, .int .i64 0, .int .i64 0, .int .i64 0, .int .i64 0, .int .i64 0, .int .i64 0, .int .i64 0, .int .i64 0, .int .i64 0, .int .i64 0, .int .i64 0, .int .i64 0, .int .i64 0, .int .i64 0, .int .i64 0]),
 oP 9 (.move (.c (.bool false)))])
 (.seq (.region 0 [oM 10 3,
 oL 11 true 4 4,
 oM 12 3,
 oP 13 (.idxArr 4 4 (.t 5) (.t 12)),
 oL 14 true 4 13,
 oM 15 2,
 oQ 16 (.litS 1 1 [.int .i64 0] [(0, (.t 15))]),
 oQ 17 (.call 1 150 [(.t 11), (.t 14), (.t 16)]),
 oP 18 (.idxArr 4 4 (.t 5) (.t 10)),
 ⟨none, .store 4 (.t 18) (.t 17), none, none, []⟩])
 (.seq (.region 0 [oL 19 true 16 5,
 oL 20 true 4 4,
 oM 21 3,
 oP 22 (.idxArr 4 4 (.t 5) (.t 21)),
 oL 23 true 4 22,
 oQ 24 (.call 1 151 [(.t 20), (.t 23)]),
 oF 25 3 4,
 oQ 26 (.loadR false 1 (.t 25) 4),
 oM 27 3,
 oD 28 1 26 27,
 oQ 29 (.loadN false 1 (.t 28) [8]),
 oP 30 (.bin .leq (.t 24) (.t 29)),
 ⟨none, .storeR 16 (.t 8) (.t 19) [4], none, none, []⟩,
 oM 9 30])
 (.ret)))⟩
def f141 : AFn := ⟨19, [.tmp 4],
 .seq (.region 0 [oC 4 0])
 (.seq (.seq (.region 0 [oM 6 0,
 oP 7 (.lenS (.t 6)),
 oC 8 0])
 (.block 0 (.loop (.seq (.region 0 [oP 9 (.bin .lss (.t 8) (.t 7))])
 (.seq (.cond (.t 9) (.skip)
 (.exit 0))
 (.seq (.block 1 (.seq (.region 0 [oM 10 8,
 oM 5 10])
 (.seq (.region 0 [oM 11 1,
 oM 12 0,
 oM 13 5,
 oD 14 3 12 13,
 oL 15 true 3 14,
 oQ 16 (.callv true (.t 11) [(.t 15)])])
 (.cond (.t 16) (.seq (.region 0 [oM 17 5,
 oM 4 17])
 (.ret))
 (.skip)))))
 (.region 0 [oP 18 (.bin .add (.t 8) (.c (.int .i64 1))),
 oM 8 18])))))))
 (.seq (.region 0 [oP 4 (.move (.c (.int .i64 (-1))))])
 (.ret)))⟩
def f142 : AFn := ⟨15, [.tmp 6],
 .seq (.region 0 [oP 6 (.move (.c (.bool false)))])
 (.seq (.region 0 [oM 7 1,
 oM 8 0,
 oP 9 (.bin .leq (.t 7) (.t 8)),
 oM 10 9,
 oN 11 10 true 0,
 oN 12 10 true 2,
 oG 13 10 true (.bin .leq (.t 11) (.t 12)),
 oP 14 (.pick (.t 10) (.t 13) (.c (.bool false))),
 oM 6 14])
 (.ret))⟩
def f143 : AFn := ⟨19, [],
 .seq (.region 0 [oL 4 false 1 1,
 oP 5 (.lenS (.t 4)),
 oP 6 (.bin .sub (.t 5) (.c (.int .i64 1))),
 oM 3 6])
 (.block 0 (.loop (.seq (.seq (.region 0 [oM 7 3,
 oP 8 (.bin .geq (.t 7) (.c (.int .i64 0)))])
 (.cond (.t 8) (.skip)
 (.exit 0)))
 (.seq (.block 1 (.seq (.region 0 [oM 11 0,
 oM 12 3,
 oL 13 false 1 1,
 oM 14 3,
 oD 15 1 13 14,
 oL 16 false 1 15,
 oQ 17 (.callv false (.t 11) [(.t 12), (.t 16)]),
 oP 18 (.un .not (.t 17))])
 (.cond (.t 18) (.ret)
 (.skip))))
 (.region 0 [oM 9 3,
 oP 10 (.bin .sub (.t 9) (.c (.int .i64 1))),
 oM 3 10])))))⟩
def f144 : AFn := ⟨11, [.tmp 2],
 .seq (.region 0 [oQ 1 (.box (.t 0)),
 oP 2 (.move (.c (.bool false)))])
 (.seq (.region 0 [oF 3 0 1,
 oL 4 false 1 3,
 oQ 5 (.call 1 142 [(.t 4), (.c (.int .i64 0)), (.c (.int .i64 9))]),
 oM 6 5,
 oG 7 6 true (.fieldAddr 1 (.t 1)),
 ⟨(some 8), .load false 1 (.t 7), (some (6, true)), none, []⟩,
 ⟨(some 9), .call 1 142 [(.t 8), (.c (.int .i64 0)), (.c (.int .i64 20))], (some (6, true)), none, []⟩,
 oP 10 (.pick (.t 6) (.t 9) (.c (.bool false))),
 oM 2 10])
 (.ret))⟩
def f145 : AFn := ⟨16, [.tmp 3],
 .seq (.region 0 [oQ 2 (.box (.t 0)),
 oP 3 (.move (.c (.bool false)))])
 (.seq (.region 0 [oF 4 0 2,
 oL 5 false 1 4,
 oF 6 0 1,
 oL 7 false 1 6,
 oP 8 (.lenS (.t 7)),
 oP 9 (.bin .sub (.t 8) (.c (.int .i64 1))),
 oQ 10 (.call 1 142 [(.t 5), (.c (.int .i64 0)), (.t 9)]),
 oM 11 10,
 oG 12 11 true (.fieldAddr 1 (.t 2)),
 ⟨(some 13), .load false 1 (.t 12), (some (11, true)), none, []⟩,
 ⟨(some 14), .call 1 142 [(.t 13), (.c (.int .i64 0)), (.c (.int .i64 40))], (some (11, true)), none, []⟩,
 oP 15 (.pick (.t 11) (.t 14) (.c (.bool false))),
 oM 3 15])
 (.ret))⟩
def f146 : AFn := ⟨5, [.tmp 2],
 .seq (.region 0 [oP 2 (.move (.c (.bool false)))])
 (.seq (.region 0 [oM 3 0,
 oQ 4 (.call 1 142 [(.t 3), (.c (.int .i64 0)), (.c (.int .i64 99))]),
 oM 2 4])
 (.ret))⟩
def f147 : AFn := ⟨9, [.tmp 4],
 .seq (.region 0 [oQ 3 (.box (.t 1)),
 oP 4 (.move (.c (.bool false)))])
 (.seq (.region 0 [oM 5 0,
 oP 6 (.mkFn 153 [] [(.t 3)]),
 oQ 7 (.call 3 152 [(.t 5), (.t 6)]),
 oP 8 (.un .not (.t 7)),
 oM 4 8])
 (.ret))⟩
def f148 : AFn := ⟨9, [.tmp 4],
 .seq (.region 0 [oQ 3 (.box (.t 1)),
 oP 4 (.move (.c (.bool false)))])
 (.seq (.region 0 [oM 5 0,
 oP 6 (.mkFn 155 [] [(.t 3)]),
 oQ 7 (.call 3 154 [(.t 5), (.t 6)]),
 oP 8 (.un .not (.t 7)),
 oM 4 8])
 (.ret))⟩
def f149 : AFn := ⟨9, [.tmp 4],
 .seq (.region 0 [oQ 3 (.box (.t 1)),
 oP 4 (.move (.c (.bool false)))])
 (.seq (.region 0 [oM 5 0,
 oP 6 (.mkFn 156 [] [(.t 3)]),
 oQ 7 (.call 3 107 [(.t 5), (.t 6)]),
 oP 8 (.un .not (.t 7)),
 oM 4 8])
 (.ret))⟩
def f150 : AFn := ⟨52, [.cell true 4 6],
 .seq (.region 0 [oQ 3 (.box (.t 0)),
 oQ 4 (.box (.t 1)),
 oQ 6 (.alloc [.int .i64 0, .int .i64 0, .int .i64 0, .int .i64 0])])
 (.seq (.seq (.region 0 [oM 11 2,
 oP 12 (.lenS (.t 11)),
 oC 13 0])
 (.block 0 (.loop (.seq (.region 0 [oP 14 (.bin .lss (.t 13) (.t 12))])
 (.seq (.cond (.t 14) (.skip)
 (.exit 0))
 (.seq (.block 1 (.seq (.region 0 [oD 15 1 11 13,
 oL 16 false 1 15,
 oM 8 16])
 (.seq (.region 0 [oF 17 2 3,
 oL 18 false 1 17,
 oM 19 8,
 oD 20 2 18 19,
 oL 21 true 2 20,
 oQ 9 (.alloc [.int .i64 0, .int .i64 0]),
 ⟨none, .store 2 (.t 9) (.t 21), none, none, []⟩])
 (.seq (.region 0 [oF 22 0 3,
 oL 23 false 1 22,
 oF 24 0 9,
 oL 25 false 1 24,
 oD 26 2 23 25,
 oL 27 true 2 26,
 oQ 10 (.alloc [.int .i64 0, .int .i64 0]),
 ⟨none, .store 2 (.t 10) (.t 27), none, none, []⟩])
 (.seq (.region 0 [oF 28 0 4,
 oL 29 false 1 28,
 oP 30 (.bin .add (.t 29) (.c (.int .i64 1))),
 oF 31 0 4,
 ⟨none, .store 1 (.t 31) (.t 30), none, none, []⟩])
 (.seq (.region 0 [oF 32 1 4,
 oL 33 false 1 32,
 oF 34 1 9,
 oL 35 false 1 34,
 oP 36 (.bin .add (.t 33) (.t 35)),
 oF 37 1 4,
 ⟨none, .store 1 (.t 37) (.t 36), none, none, []⟩])
 (.seq (.region 0 [oF 38 2 4,
 oL 39 false 1 38,
 oF 40 0 10,
 oL 41 false 1 40,
 oP 42 (.minmax true (.t 39) [(.t 41)]),
 oF 43 2 4,
 ⟨none, .store 1 (.t 43) (.t 42), none, none, []⟩])
 (.region 0 [oF 44 3 4,
 oL 45 false 1 44,
 oF 46 1 10,
 oL 47 false 1 46,
 oP 48 (.minmax true (.t 45) [(.t 47)]),
 oF 49 3 4,
 ⟨none, .store 1 (.t 49) (.t 48), none, none, []⟩]))))))))
 (.region 0 [oP 50 (.bin .add (.t 13) (.c (.int .i64 1))),
 oM 13 50])))))))
 (.seq (.region 0 [oL 51 true 4 4,
 ⟨none, .store 4 (.t 6) (.t 51), none, none, []⟩])
 (.ret)))⟩
def f151 : AFn := ⟨11, [.tmp 4],
 .seq (.region 0 [oQ 2 (.box (.t 0)),
 oQ 3 (.box (.t 1)),
 oC 4 0])
 (.seq (.region 0 [oF 5 1 3,
 oL 6 false 1 5,
 oL 7 true 4 2,
 oL 8 true 4 3,
 oQ 9 (.call 1 136 [(.t 7), (.t 8)]),
 oP 10 (.bin .add (.t 6) (.t 9)),
 oM 4 10])
 (.ret))⟩
def f152 : AFn := ⟨9, [.tmp 4],
 .seq (.region 0 [oP 4 (.move (.c (.bool false)))])
 (.seq (.region 0 [oM 5 0,
 oM 6 1,
 oQ 7 (.call 3 157 [(.t 5), (.t 6)]),
 oP 8 (.bin .geq (.t 7) (.c (.int .i64 0))),
 oM 4 8])
 (.ret))⟩
def f153 : AFn := ⟨8, [.tmp 3],
 .seq (.region 0 [oQ 2 (.box (.t 0)),
 oP 3 (.move (.c (.bool false)))])
 (.seq (.region 0 [oL 4 false 1 1,
 oL 5 true 2 2,
 oQ 6 (.callv true (.t 4) [(.t 5)]),
 oP 7 (.un .not (.t 6)),
 oM 3 7])
 (.ret))⟩
def f154 : AFn := ⟨9, [.tmp 4],
 .seq (.region 0 [oP 4 (.move (.c (.bool false)))])
 (.seq (.region 0 [oM 5 0,
 oM 6 1,
 oQ 7 (.call 3 158 [(.t 5), (.t 6)]),
 oP 8 (.bin .geq (.t 7) (.c (.int .i64 0))),
 oM 4 8])
 (.ret))⟩
def f155 : AFn := ⟨8, [.tmp 3],
 .seq (.region 0 [oQ 2 (.box (.t 0)),
 oP 3 (.move (.c (.bool false)))])
 (.seq (.region 0 [oL 4 false 1 1,
 oL 5 true 2 2,
 oQ 6 (.callv true (.t 4) [(.t 5)]),
 oP 7 (.un .not (.t 6)),
 oM 3 7])
 (.ret))⟩
def f156 : AFn := ⟨8, [.tmp 3],
 .seq (.region 0 [oP 3 (.move (.c (.bool false)))])
 (.seq (.region 0 [oL 4 false 1 1,
 oM 5 0,
 oQ 6 (.callv true (.t 4) [(.t 5)]),
 oP 7 (.un .not (.t 6)),
 oM 3 7])
 (.ret))⟩
def f157 : AFn := ⟨19, [.tmp 4],
 .seq (.region 0 [oC 4 0])
 (.seq (.seq (.region 0 [oM 6 0,
 oP 7 (.lenS (.t 6)),
 oC 8 0])
 (.block 0 (.loop (.seq (.region 0 [oP 9 (.bin .lss (.t 8) (.t 7))])
 (.seq (.cond (.t 9) (.skip)
 (.exit 0))
 (.seq (.block 1 (.seq (.region 0 [oM 10 8,
 oM 5 10])
 (.seq (.region 0 [oM 11 1,
 oM 12 0,
 oM 13 5,
 oD 14 2 12 13,
 oL 15 true 2 14,
 oQ 16 (.callv true (.t 11) [(.t 15)])])
 (.cond (.t 16) (.seq (.region 0 [oM 17 5,
 oM 4 17])
 (.ret))
 (.skip)))))
 (.region 0 [oP 18 (.bin .add (.t 8) (.c (.int .i64 1))),
 oM 8 18])))))))
 (.seq (.region 0 [oP 4 (.move (.c (.int .i64 (-1))))])
 (.ret)))⟩
def f158 : AFn := ⟨19, [.tmp 4],
 .seq (.region 0 [oC 4 0])
 (.seq (.seq (.region 0 [oM 6 0,
 oP 7 (.lenS (.t 6)),
 oC 8 0])
 (.block 0 (.loop (.seq (.region 0 [oP 9 (.bin .lss (.t 8) (.t 7))])
 (.seq (.cond (.t 9) (.skip)
 (.exit 0))
 (.seq (.block 1 (.seq (.region 0 [oM 10 8,
 oM 5 10])
 (.seq (.region 0 [oM 11 1,
 oM 12 0,
 oM 13 5,
 oD 14 2 12 13,
 oL 15 true 2 14,
 oQ 16 (.callv true (.t 11) [(.t 15)])])
 (.cond (.t 16) (.seq (.region 0 [oM 17 5,
 oM 4 17])
 (.ret))
 (.skip)))))
 (.region 0 [oP 18 (.bin .add (.t 8) (.c (.int .i64 1))),
 oM 8 18])))))))
 (.seq (.region 0 [oP 4 (.move (.c (.int .i64 (-1))))])
 (.ret)))⟩
end Go.Proofs.YtfagcnokdnanpaaGreat.T
