/-
The code of functions of the seat, as the abstract machine has it (printed by a tool of ours off the dump).
-/
import Derived.Test.YtfagcnokdnanpaaGreatTabA
namespace Go.Proofs.YtfagcnokdnanpaaGreat.T
open Go Go.Am
/-- almadraba/almadrabalaw08.Same -/
def f78 : AFn := ⟨74, [.tmp 4],
 .seq (.region 0 [oQ 2 (.box (.t 0)),
 oQ 3 (.box (.t 1)),
 oP 4 (.move (.c (.bool false)))])
 (.seq (.seq (.region 0 [oP 7 (.fieldAddr 0 (.t 2)),
 oQ 8 (.load false 1 (.t 7)),
 oP 9 (.lenS (.t 8)),
 oP 10 (.fieldAddr 0 (.t 3)),
 oQ 11 (.load false 1 (.t 10)),
 oP 12 (.lenS (.t 11)),
 oP 13 (.bin .neq (.t 9) (.t 12)),
 oP 14 (.move (.t 13)),
 oG 15 14 false (.fieldAddr 1 (.t 2)),
 ⟨(some 16), .load false 1 (.t 15), (some (14, false)), none, []⟩,
 oG 17 14 false (.fieldAddr 1 (.t 3)),
 ⟨(some 18), .load false 1 (.t 17), (some (14, false)), none, []⟩,
 oG 19 14 false (.bin .neq (.t 16) (.t 18)),
 oP 20 (.pick (.t 14) (.c (.bool true)) (.t 19)),
 oP 21 (.move (.t 20)),
 oG 22 21 false (.fieldAddr 2 (.t 2)),
 ⟨(some 23), .load false 1 (.t 22), (some (21, false)), none, []⟩,
 oG 24 21 false (.lenS (.t 23)),
 oG 25 21 false (.fieldAddr 2 (.t 3)),
 ⟨(some 26), .load false 1 (.t 25), (some (21, false)), none, []⟩,
 oG 27 21 false (.lenS (.t 26)),
 oG 28 21 false (.bin .neq (.t 24) (.t 27)),
 oP 29 (.pick (.t 21) (.c (.bool true)) (.t 28)),
 oP 30 (.move (.t 29)),
 oG 31 30 false (.fieldAddr 3 (.t 2)),
 ⟨(some 32), .load false 1 (.t 31), (some (30, false)), none, []⟩,
 oG 33 30 false (.fieldAddr 3 (.t 3)),
 ⟨(some 34), .load false 1 (.t 33), (some (30, false)), none, []⟩,
 ⟨(some 35), .call 1 35 [(.t 32), (.t 34)], (some (30, false)), none, []⟩,
 oG 36 30 false (.un .not (.t 35)),
 oP 37 (.pick (.t 30) (.c (.bool true)) (.t 36))])
 (.cond (.t 37) (.seq (.region 0 [oP 4 (.move (.c (.bool false)))])
 (.ret))
 (.skip)))
 (.seq (.seq (.region 0 [oP 5 (.move (.c (.int .i64 0)))])
 (.block 0 (.loop (.seq (.seq (.region 0 [oP 38 (.move (.t 5)),
 oP 39 (.fieldAddr 0 (.t 2)),
 oQ 40 (.load false 1 (.t 39)),
 oP 41 (.lenS (.t 40)),
 oP 42 (.bin .lss (.t 38) (.t 41))])
 (.cond (.t 42) (.skip)
 (.exit 0)))
 (.seq (.block 1 (.seq (.region 0 [oP 45 (.fieldAddr 0 (.t 2)),
 oQ 46 (.load false 1 (.t 45)),
 oP 47 (.move (.t 5)),
 oP 48 (.idxSl 2 (.t 46) (.t 47)),
 oQ 49 (.load true 2 (.t 48)),
 oP 50 (.fieldAddr 0 (.t 3)),
 oQ 51 (.load false 1 (.t 50)),
 oP 52 (.move (.t 5)),
 oP 53 (.idxSl 2 (.t 51) (.t 52)),
 oQ 54 (.load true 2 (.t 53)),
 oP 55 (.eqS true [true, true] (.t 49) (.t 54))])
 (.cond (.t 55) (.seq (.region 0 [oP 4 (.move (.c (.bool false)))])
 (.ret))
 (.skip))))
 (.region 0 [oP 43 (.move (.t 5)),
 oP 44 (.bin .add (.t 43) (.c (.int .i64 1))),
 oP 5 (.move (.t 44))]))))))
 (.seq (.seq (.region 0 [oP 6 (.move (.c (.int .i64 0)))])
 (.block 2 (.loop (.seq (.seq (.region 0 [oP 56 (.move (.t 6)),
 oP 57 (.fieldAddr 2 (.t 2)),
 oQ 58 (.load false 1 (.t 57)),
 oP 59 (.lenS (.t 58)),
 oP 60 (.bin .lss (.t 56) (.t 59))])
 (.cond (.t 60) (.skip)
 (.exit 2)))
 (.seq (.block 3 (.seq (.region 0 [oP 63 (.fieldAddr 2 (.t 2)),
 oQ 64 (.load false 1 (.t 63)),
 oP 65 (.move (.t 6)),
 oP 66 (.idxSl 2 (.t 64) (.t 65)),
 oQ 67 (.load true 2 (.t 66)),
 oP 68 (.fieldAddr 2 (.t 3)),
 oQ 69 (.load false 1 (.t 68)),
 oP 70 (.move (.t 6)),
 oP 71 (.idxSl 2 (.t 69) (.t 70)),
 oQ 72 (.load true 2 (.t 71)),
 oP 73 (.eqS true [true, true] (.t 67) (.t 72))])
 (.cond (.t 73) (.seq (.region 0 [oP 4 (.move (.c (.bool false)))])
 (.ret))
 (.skip))))
 (.region 0 [oP 61 (.move (.t 6)),
 oP 62 (.bin .add (.t 61) (.c (.int .i64 1))),
 oP 6 (.move (.t 62))]))))))
 (.seq (.region 0 [oP 4 (.move (.c (.bool true)))])
 (.ret)))))⟩
/-- (almadraba/sales.fair).most -/
def f79 : AFn := ⟨26, [.tmp 2],
 .seq (.region 0 [oQ 1 (.box (.t 0)),
 oP 2 (.move (.c (.int .i64 0)))])
 (.seq (.region 0 [oP 6 (.fieldAddr 12 (.t 1)),
 oQ 7 (.load false 1 (.t 6)),
 oP 8 (.fieldAddr 8 (.t 1)),
 oQ 9 (.load true 4 (.t 8)),
 oQ 10 (.mapGet (.a [none, none, none, none]) (.int .i64 0) true (.t 7) (.t 9)),
 oP 5 (.move (.t 10)),
 oP 11 (.extract (.t 5) 0),
 oP 12 (.extract (.t 5) 1),
 oP 3 (.move (.t 11)),
 oP 4 (.move (.t 12))])
 (.seq (.seq (.region 0 [oP 13 (.move (.t 4)),
 oP 14 (.un .not (.t 13))])
 (.cond (.t 14) (.seq (.region 0 [oQ 16 (.load true 13 (.t 1)),
 oQ 17 (.call 3 81 [(.t 16), (.c (.fn 82 [] []))]),
 oP 15 (.move (.t 17)),
 oP 18 (.extract (.t 15) 0),
 oP 19 (.extract (.t 15) 1),
 oP 3 (.move (.t 19))])
 (.region 0 [oP 20 (.fieldAddr 12 (.t 1)),
 oQ 21 (.load false 1 (.t 20)),
 oP 22 (.fieldAddr 8 (.t 1)),
 oQ 23 (.load true 4 (.t 22)),
 oP 24 (.move (.t 3)),
 ⟨none, .mapSet (.a [none, none, none, none]) (.t 21) (.t 23) (.t 24) [], none, none, []⟩]))
 (.skip)))
 (.seq (.region 0 [oP 25 (.move (.t 3)),
 oP 2 (.move (.t 25))])
 (.ret))))⟩
/-- (almadraba/sales.fair).best -/
def f81 : AFn := ⟨29, [.tmp 4, .tmp 5],
 .seq (.region 0 [oQ 2 (.box (.t 0)),
 oQ 3 (.box (.t 1)),
 oP 4 (.move (.c (.nils))),
 oP 5 (.move (.c (.int .i64 0)))])
 (.seq (.region 0 [oQ 6 (.alloc [.nils])])
 (.seq (.region 0 [oQ 7 (.alloc [.int .i64 0]),
 ⟨none, .store 1 (.t 7) (.c (.int .i64 (-1))), none, none, []⟩])
 (.seq (.seq (.region 0 [oQ 10 (.load true 13 (.t 2)),
 oP 11 (.mkFn 116 [(.t 10)] [])])
 (.block 0 (.rangeFunc (.t 11) [12] (.region 0 [oP 8 (.move (.t 12))])
 (.block 1 (.seq (.region 0 [oQ 13 (.load true 13 (.t 2)),
 oP 14 (.move (.t 8)),
 oQ 15 (.call 3 117 [(.t 13), (.t 14)]),
 oP 9 (.move (.t 15))])
 (.seq (.region 0 [oP 16 (.move (.t 9)),
 oQ 17 (.load false 1 (.t 7)),
 oP 18 (.bin .gtr (.t 16) (.t 17)),
 oP 19 (.move (.t 18)),
 ⟨(some 20), .load false 1 (.t 3), (some (19, true)), none, []⟩,
 oG 21 19 true (.move (.t 8)),
 ⟨(some 22), .callv true (.t 20) [(.t 21)], (some (19, true)), none, []⟩,
 oP 23 (.pick (.t 19) (.t 22) (.c (.bool false)))])
 (.cond (.t 23) (.region 0 [oP 24 (.move (.t 8)),
 oQ 25 (.call 2 118 [(.t 24)]),
 oP 26 (.move (.t 9)),
 ⟨none, .store 1 (.t 6) (.t 25), none, none, []⟩,
 ⟨none, .store 1 (.t 7) (.t 26), none, none, []⟩])
 (.skip))))))))
 (.seq (.region 0 [oQ 27 (.load false 1 (.t 6)),
 oQ 28 (.load false 1 (.t 7)),
 oP 4 (.move (.t 27)),
 oP 5 (.move (.t 28))])
 (.ret)))))⟩
/-- almadraba/sales.all -/
def f82 : AFn := ⟨3, [.tmp 2],
 .seq (.region 0 [oP 2 (.move (.c (.bool false)))])
 (.seq (.region 0 [oP 2 (.move (.c (.bool true)))])
 (.ret))⟩
/-- (almadraba/sales.fair).need -/
def f88 : AFn := ⟨37, [.tmp 4, .tmp 5],
 .seq (.region 0 [oQ 2 (.box (.t 0)),
 oP 4 (.move (.c (.int .i64 0))),
 oP 5 (.move (.c (.int .i64 0)))])
 (.seq (.region 0 [oQ 11 (.load true 13 (.t 2)),
 oP 12 (.move (.t 1)),
 oQ 13 (.call 2 65 [(.t 12)]),
 oQ 14 (.call 3 64 [(.t 11), (.t 13)]),
 oP 10 (.move (.t 14)),
 oP 15 (.extract (.t 10) 0),
 oP 16 (.extract (.t 10) 1),
 oP 6 (.move (.t 15)),
 oP 7 (.move (.t 16))])
 (.seq (.region 0 [oP 17 (.move (.t 6)),
 oP 18 (.fieldAddr 0 (.t 2)),
 oP 19 (.fieldAddr 7 (.t 18)),
 oQ 20 (.load false 1 (.t 19)),
 oP 21 (.move (.t 1)),
 oP 22 (.idxSl 3 (.t 20) (.t 21)),
 oP 23 (.fieldAddr 2 (.t 22)),
 oQ 24 (.load false 1 (.t 23)),
 oP 25 (.bin .sub (.t 17) (.t 24)),
 oP 8 (.move (.t 25))])
 (.seq (.region 0 [oP 26 (.move (.t 7)),
 oP 27 (.move (.t 8)),
 oP 28 (.bin .sub (.t 26) (.t 27)),
 oP 29 (.minmax true (.c (.int .i64 0)) [(.t 28)]),
 oP 9 (.move (.t 29))])
 (.seq (.seq (.region 0 [oP 30 (.move (.t 6)),
 oP 31 (.bin .lss (.t 30) (.c (.int .i64 0))),
 oP 32 (.move (.t 31)),
 oG 33 32 false (.move (.t 9)),
 oG 34 32 false (.bin .gtr (.t 33) (.c (.int .i64 99))),
 oP 35 (.pick (.t 32) (.c (.bool true)) (.t 34))])
 (.cond (.t 35) (.seq (.region 0 [oP 4 (.move (.c (.int .i64 0))),
 oP 5 (.move (.c (.int .i64 3)))])
 (.ret))
 (.skip)))
 (.seq (.region 0 [oP 36 (.move (.t 9)),
 oP 4 (.move (.t 36)),
 oP 5 (.move (.c (.int .i64 0)))])
 (.ret))))))⟩
/-- almadraba/sales.within -/
def f90 : AFn := ⟨15, [.tmp 6],
 .seq (.region 0 [oP 6 (.move (.c (.bool false)))])
 (.seq (.region 0 [oP 7 (.move (.t 1)),
 oP 8 (.move (.t 0)),
 oP 9 (.bin .leq (.t 7) (.t 8)),
 oP 10 (.move (.t 9)),
 oG 11 10 true (.move (.t 0)),
 oG 12 10 true (.move (.t 2)),
 oG 13 10 true (.bin .leq (.t 11) (.t 12)),
 oP 14 (.pick (.t 10) (.t 13) (.c (.bool false))),
 oP 6 (.move (.t 14))])
 (.ret))⟩
/-- (almadraba/sales.fair).with -/
def f91 : AFn := ⟨50, [.cell true 13 6],
 .seq (.region 0 [oQ 3 (.box (.t 0)),
 oQ 6 (.alloc [.nils, .int .i64 0, .nils, .nils, .nils, .int .i64 0, .int .i64 0, .nils, .bool false, .bool false, .bool false, .bool false, .nilm])])
 (.seq (.region 0 [oP 12 (.move (.t 1)),
 oP 13 (.move (.t 2)),
 oP 14 (.fieldAddr 0 (.t 3)),
 oP 15 (.fieldAddr 4 (.t 14)),
 ⟨none, .store 1 (.t 15) (.t 12), none, none, []⟩,
 oP 16 (.fieldAddr 0 (.t 3)),
 oP 17 (.fieldAddr 5 (.t 16)),
 ⟨none, .store 1 (.t 17) (.t 13), none, none, []⟩])
 (.seq (.seq (.region 0 [oP 18 (.fieldAddr 0 (.t 3)),
 oP 19 (.fieldAddr 0 (.t 18)),
 oP 20 (.fieldAddr 3 (.t 19)),
 oQ 21 (.load false 1 (.t 20)),
 oP 22 (.lenS (.t 21)),
 oP 23 (.move (.c (.int .i64 0)))])
 (.block 0 (.loop (.seq (.region 0 [oP 24 (.bin .lss (.t 23) (.t 22))])
 (.seq (.cond (.t 24) (.skip)
 (.exit 0))
 (.seq (.block 1 (.seq (.region 0 [oP 25 (.move (.t 23)),
 oP 7 (.move (.t 25))])
 (.seq (.region 0 [oP 27 (.fieldAddr 0 (.t 3)),
 oP 28 (.fieldAddr 0 (.t 27)),
 oQ 29 (.load true 4 (.t 28)),
 oP 30 (.move (.t 1)),
 oP 31 (.move (.t 7)),
 oQ 32 (.call 1 121 [(.t 29), (.t 30), (.t 31)]),
 oP 26 (.move (.t 32)),
 oP 33 (.extract (.t 26) 0),
 oP 34 (.extract (.t 26) 1),
 oP 35 (.extract (.t 26) 2),
 oP 36 (.extract (.t 26) 3),
 oP 8 (.move (.t 33)),
 oP 9 (.move (.t 34)),
 oP 10 (.move (.t 35)),
 oP 11 (.move (.t 36))])
 (.region 0 [oP 37 (.move (.t 7)),
 oP 38 (.move (.t 10)),
 oP 39 (.move (.t 2)),
 oP 40 (.bin .leq (.t 38) (.t 39)),
 oP 41 (.move (.t 40)),
 oG 42 41 true (.move (.t 1)),
 oG 43 41 true (.move (.t 7)),
 ⟨(some 44), .call 1 103 [(.t 42), (.t 43)], (some (41, true)), none, []⟩,
 oP 45 (.pick (.t 41) (.t 44) (.c (.bool false))),
 oP 46 (.fieldAddr 8 (.t 3)),
 oP 47 (.idxArr 4 1 (.t 46) (.t 37)),
 ⟨none, .store 1 (.t 47) (.t 45), none, none, []⟩]))))
 (.region 0 [oP 48 (.bin .add (.t 23) (.c (.int .i64 1))),
 oP 23 (.move (.t 48))])))))))
 (.seq (.region 0 [oQ 49 (.load true 13 (.t 3)),
 ⟨none, .store 13 (.t 6) (.t 49), none, none, []⟩])
 (.ret))))⟩
/-- almadraba/almadrabaref09.OnDay -/
def f93 : AFn := ⟨11, [.cell true 8 4],
 .seq (.region 0 [oQ 2 (.box (.t 0)),
 oQ 4 (.alloc [.nils, .int .i64 0, .nils, .nils, .nils, .int .i64 0, .int .i64 0, .nils])])
 (.seq (.region 0 [oQ 6 (.load true 8 (.t 2)),
 oQ 7 (.call 1 33 [(.t 6)]),
 oQ 5 (.alloc [.nils, .int .i64 0, .nils, .nils, .nils, .int .i64 0, .int .i64 0, .nils]),
 ⟨none, .store 8 (.t 5) (.t 7), none, none, []⟩])
 (.seq (.region 0 [oP 8 (.move (.t 1)),
 oP 9 (.fieldAddr 5 (.t 5)),
 ⟨none, .store 1 (.t 9) (.t 8), none, none, []⟩])
 (.seq (.region 0 [oQ 10 (.load true 8 (.t 5)),
 ⟨none, .store 8 (.t 4) (.t 10), none, none, []⟩])
 (.ret))))⟩
/-- (almadraba/sales.fair).when -/
def f94 : AFn := ⟨24, [.tmp 2],
 .seq (.region 0 [oQ 1 (.box (.t 0)),
 oP 2 (.move (.c (.int .i64 0)))])
 (.seq (.region 0 [oP 3 (.move (.c (.int .i64 0))),
 oP 4 (.move (.c (.int .i64 (-1))))])
 (.seq (.seq (.region 0 [oP 7 (.move (.c (.int .i64 0)))])
 (.block 0 (.loop (.seq (.region 0 [oP 8 (.bin .lss (.t 7) (.c (.int .i64 21)))])
 (.seq (.cond (.t 8) (.skip)
 (.exit 0))
 (.seq (.block 1 (.seq (.region 0 [oP 9 (.move (.t 7)),
 oP 5 (.move (.t 9))])
 (.seq (.region 0 [oQ 10 (.load true 13 (.t 1)),
 oP 11 (.fieldAddr 0 (.t 1)),
 oP 12 (.fieldAddr 4 (.t 11)),
 oQ 13 (.load false 1 (.t 12)),
 oP 14 (.move (.t 5)),
 oQ 15 (.call 3 91 [(.t 10), (.t 13), (.t 14)]),
 oQ 16 (.call 0 79 [(.t 15)]),
 oP 6 (.move (.t 16))])
 (.seq (.region 0 [oP 17 (.move (.t 6)),
 oP 18 (.move (.t 4)),
 oP 19 (.bin .gtr (.t 17) (.t 18))])
 (.cond (.t 19) (.region 0 [oP 20 (.move (.t 5)),
 oP 21 (.move (.t 6)),
 oP 3 (.move (.t 20)),
 oP 4 (.move (.t 21))])
 (.skip))))))
 (.region 0 [oP 22 (.bin .add (.t 7) (.c (.int .i64 1))),
 oP 7 (.move (.t 22))])))))))
 (.seq (.region 0 [oP 23 (.move (.t 3)),
 oP 2 (.move (.t 23))])
 (.ret))))⟩
/-- almadraba/almadrabaref09.apart -/
def f96 : AFn := ⟨26, [.tmp 4],
 .seq (.region 0 [oQ 2 (.box (.t 0)),
 oQ 3 (.box (.t 1)),
 oP 4 (.move (.c (.bool false)))])
 (.seq (.seq (.region 0 [oP 6 (.fieldAddr 0 (.t 2)),
 oQ 7 (.load false 1 (.t 6)),
 oP 8 (.fieldAddr 0 (.t 3)),
 oQ 9 (.load false 1 (.t 8)),
 oP 10 (.bin .eql (.t 7) (.t 9))])
 (.cond (.t 10) (.seq (.region 0 [oP 4 (.move (.c (.bool false)))])
 (.ret))
 (.skip)))
 (.seq (.seq (.region 0 [oP 5 (.move (.c (.int .i64 0)))])
 (.block 0 (.loop (.seq (.seq (.region 0 [oP 11 (.move (.t 5)),
 oP 12 (.fieldAddr 1 (.t 2)),
 oQ 13 (.load false 1 (.t 12)),
 oP 14 (.lenS (.t 13)),
 oP 15 (.bin .lss (.t 11) (.t 14))])
 (.cond (.t 15) (.skip)
 (.exit 0)))
 (.seq (.block 1 (.seq (.region 0 [oP 18 (.fieldAddr 1 (.t 3)),
 oQ 19 (.load false 1 (.t 18)),
 oP 20 (.fieldAddr 1 (.t 2)),
 oQ 21 (.load false 1 (.t 20)),
 oP 22 (.move (.t 5)),
 oP 23 (.idxSl 1 (.t 21) (.t 22)),
 oQ 24 (.load false 1 (.t 23)),
 oQ 25 (.call 1 22 [(.t 19), (.t 24)])])
 (.cond (.t 25) (.seq (.region 0 [oP 4 (.move (.c (.bool false)))])
 (.ret))
 (.skip))))
 (.region 0 [oP 16 (.move (.t 5)),
 oP 17 (.bin .add (.t 16) (.c (.int .i64 1))),
 oP 5 (.move (.t 17))]))))))
 (.seq (.region 0 [oP 4 (.move (.c (.bool true)))])
 (.ret))))⟩
/-- almadraba/almadrabaref08.In -/
def f97 : AFn := ⟨24, [.tmp 4],
 .seq (.region 0 [oP 4 (.move (.c (.nils)))])
 (.seq (.region 0 [oP 5 (.move (.c (.nils)))])
 (.seq (.seq (.region 0 [oP 6 (.move (.c (.int .i64 0)))])
 (.block 0 (.loop (.seq (.seq (.region 0 [oP 7 (.move (.t 6)),
 oP 8 (.move (.t 0)),
 oP 9 (.lenS (.t 8)),
 oP 10 (.bin .lss (.t 7) (.t 9))])
 (.cond (.t 10) (.skip)
 (.exit 0)))
 (.seq (.block 1 (.seq (.region 0 [oP 13 (.move (.t 0)),
 oP 14 (.move (.t 6)),
 oP 15 (.idxSl 1 (.t 13) (.t 14)),
 oQ 16 (.load false 1 (.t 15)),
 oP 17 (.move (.t 1)),
 oP 18 (.bin .eql (.t 16) (.t 17))])
 (.cond (.t 18) (.region 0 [oP 19 (.move (.t 5)),
 oP 20 (.move (.t 6)),
 oQ 21 (.litS 1 1 [.int .i64 0] [(0, (.t 20))]),
 oQ 22 (.append false 1 8 (.t 19) (.t 21)),
 oP 5 (.move (.t 22))])
 (.skip))))
 (.region 0 [oP 11 (.move (.t 6)),
 oP 12 (.bin .add (.t 11) (.c (.int .i64 1))),
 oP 6 (.move (.t 12))]))))))
 (.seq (.region 0 [oP 23 (.move (.t 5)),
 oP 4 (.move (.t 23))])
 (.ret))))⟩
/-- almadraba/almadrabaref08.DaysOf -/
def f98 : AFn := ⟨30, [.tmp 4],
 .seq (.region 0 [oQ 2 (.box (.t 0)),
 oP 4 (.move (.c (.int .i64 0)))])
 (.seq (.region 0 [oP 5 (.move (.c (.int .i64 0)))])
 (.seq (.seq (.region 0 [oP 6 (.move (.c (.int .i64 0)))])
 (.block 0 (.loop (.seq (.seq (.region 0 [oP 7 (.move (.t 6)),
 oP 8 (.move (.t 1)),
 oP 9 (.lenS (.t 8)),
 oP 10 (.bin .lss (.t 7) (.t 9))])
 (.cond (.t 10) (.skip)
 (.exit 0)))
 (.seq (.block 1 (.region 0 [oP 13 (.move (.t 5)),
 oP 14 (.fieldAddr 0 (.t 2)),
 oQ 15 (.load false 1 (.t 14)),
 oP 16 (.fieldAddr 2 (.t 2)),
 oQ 17 (.load false 1 (.t 16)),
 oP 18 (.move (.t 1)),
 oP 19 (.move (.t 6)),
 oP 20 (.idxSl 1 (.t 18) (.t 19)),
 oQ 21 (.load false 1 (.t 20)),
 oP 22 (.idxSl 2 (.t 17) (.t 21)),
 oP 23 (.fieldAddr 0 (.t 22)),
 oQ 24 (.load false 1 (.t 23)),
 oP 25 (.idxSl 2 (.t 15) (.t 24)),
 oP 26 (.fieldAddr 1 (.t 25)),
 oQ 27 (.load false 1 (.t 26)),
 oP 28 (.minmax true (.t 13) [(.t 27)]),
 oP 5 (.move (.t 28))]))
 (.region 0 [oP 11 (.move (.t 6)),
 oP 12 (.bin .add (.t 11) (.c (.int .i64 1))),
 oP 6 (.move (.t 12))]))))))
 (.seq (.region 0 [oP 29 (.move (.t 5)),
 oP 4 (.move (.t 29))])
 (.ret))))⟩
/-- almadraba/sales.hasBid -/
def f99 : AFn := ⟨11, [.tmp 4],
 .seq (.region 0 [oQ 2 (.box (.t 0)),
 oP 4 (.move (.c (.bool false)))])
 (.seq (.region 0 [oP 5 (.move (.t 1)),
 oP 6 (.fieldAddr 7 (.t 2)),
 oQ 7 (.load false 1 (.t 6)),
 oP 8 (.lenS (.t 7)),
 oP 9 (.bin .sub (.t 8) (.c (.int .i64 1))),
 oQ 10 (.call 1 90 [(.t 5), (.c (.int .i64 0)), (.t 9)]),
 oP 4 (.move (.t 10))])
 (.ret))⟩
/-- (almadraba/sales.fair).fits -/
def f100 : AFn := ⟨25, [.tmp 6],
 .seq (.region 0 [oQ 3 (.box (.t 0)),
 oQ 5 (.box (.t 2)),
 oP 6 (.move (.c (.bool false)))])
 (.seq (.region 0 [oP 9 (.fieldAddr 0 (.t 3)),
 oP 10 (.fieldAddr 7 (.t 9)),
 oQ 11 (.load false 1 (.t 10)),
 oQ 12 (.load false 1 (.t 5)),
 oP 13 (.idxSl 3 (.t 11) (.t 12)),
 oQ 14 (.load true 3 (.t 13)),
 oQ 7 (.alloc [.int .i64 0, .nils, .int .i64 0]),
 ⟨none, .store 3 (.t 7) (.t 14), none, none, []⟩])
 (.seq (.region 0 [oP 15 (.mkFn 122 [] [(.t 3), (.t 5), (.t 7)]),
 oP 8 (.move (.t 15))])
 (.seq (.region 0 [oP 16 (.move (.t 1)),
 oP 17 (.move (.t 8)),
 oQ 18 (.call 3 124 [(.t 16), (.t 17)]),
 oP 19 (.move (.t 18)),
 oG 20 19 true (.fieldAddr 1 (.t 7)),
 ⟨(some 21), .load false 1 (.t 20), (some (19, true)), none, []⟩,
 oG 22 19 true (.mkFn 125 [] [(.t 3)]),
 ⟨(some 23), .call 3 124 [(.t 21), (.t 22)], (some (19, true)), none, []⟩,
 oP 24 (.pick (.t 19) (.t 23) (.c (.bool false))),
 oP 6 (.move (.t 24))])
 (.ret))))⟩
/-- (almadraba/sales.fair).split$1 -/
def f101 : AFn := ⟨8, [.tmp 3],
 .seq (.region 0 [oP 3 (.move (.c (.bool false)))])
 (.seq (.region 0 [oQ 4 (.load false 1 (.t 1)),
 oP 5 (.move (.t 0)),
 oQ 6 (.callv true (.t 4) [(.t 5)]),
 oP 7 (.un .not (.t 6)),
 oP 3 (.move (.t 7))])
 (.ret))⟩
/-- almadraba/sales.has$1 -/
def f102 : AFn := ⟨7, [.tmp 3],
 .seq (.region 0 [oP 3 (.move (.c (.bool false)))])
 (.seq (.region 0 [oP 4 (.move (.t 0)),
 oQ 5 (.load false 1 (.t 1)),
 oQ 6 (.call 1 103 [(.t 4), (.t 5)]),
 oP 3 (.move (.t 6))])
 (.ret))⟩
/-- slices.Contains[[]int,int] -/
def f103 : AFn := ⟨9, [.tmp 4],
 .seq (.region 0 [oP 4 (.move (.c (.bool false)))])
 (.seq (.region 0 [oP 5 (.move (.t 0)),
 oP 6 (.move (.t 1)),
 oQ 7 (.call 1 126 [(.t 5), (.t 6)]),
 oP 8 (.bin .geq (.t 7) (.c (.int .i64 0))),
 oP 4 (.move (.t 8))])
 (.ret))⟩
/-- (almadraba/sales.fair).pays$1 -/
def f104 : AFn := ⟨14, [.tmp 4],
 .seq (.region 0 [oP 4 (.move (.c (.bool false)))])
 (.seq (.region 0 [oP 5 (.fieldAddr 0 (.t 1)),
 oP 6 (.fieldAddr 7 (.t 5)),
 oQ 7 (.load false 1 (.t 6)),
 oP 8 (.move (.t 0)),
 oP 9 (.idxSl 3 (.t 7) (.t 8)),
 oP 10 (.fieldAddr 0 (.t 9)),
 oQ 11 (.load false 1 (.t 10)),
 oQ 12 (.load false 1 (.t 2)),
 oP 13 (.bin .eql (.t 11) (.t 12)),
 oP 4 (.move (.t 13))])
 (.ret))⟩
/-- slices.IndexFunc[[]int,int] -/
def f105 : AFn := ⟨19, [.tmp 4],
 .seq (.region 0 [oP 4 (.move (.c (.int .i64 0)))])
 (.seq (.seq (.region 0 [oP 6 (.move (.t 0)),
 oP 7 (.lenS (.t 6)),
 oP 8 (.move (.c (.int .i64 0)))])
 (.block 0 (.loop (.seq (.region 0 [oP 9 (.bin .lss (.t 8) (.t 7))])
 (.seq (.cond (.t 9) (.skip)
 (.exit 0))
 (.seq (.block 1 (.seq (.region 0 [oP 10 (.move (.t 8)),
 oP 5 (.move (.t 10))])
 (.seq (.region 0 [oP 11 (.move (.t 1)),
 oP 12 (.move (.t 0)),
 oP 13 (.move (.t 5)),
 oP 14 (.idxSl 1 (.t 12) (.t 13)),
 oQ 15 (.load false 1 (.t 14)),
 oQ 16 (.callv true (.t 11) [(.t 15)])])
 (.cond (.t 16) (.seq (.region 0 [oP 17 (.move (.t 5)),
 oP 4 (.move (.t 17))])
 (.ret))
 (.skip)))))
 (.region 0 [oP 18 (.bin .add (.t 8) (.c (.int .i64 1))),
 oP 8 (.move (.t 18))])))))))
 (.seq (.region 0 [oP 4 (.move (.c (.int .i64 (-1))))])
 (.ret)))⟩
/-- (almadraba/sales.fair).pays$2 -/
def f106 : AFn := ⟨7, [.tmp 3],
 .seq (.region 0 [oP 3 (.move (.c (.bool false)))])
 (.seq (.region 0 [oP 4 (.move (.t 0)),
 oQ 5 (.load false 1 (.t 1)),
 oQ 6 (.call 3 107 [(.t 4), (.t 5)]),
 oP 3 (.move (.t 6))])
 (.ret))⟩
/-- slices.ContainsFunc[[]int,int] -/
def f107 : AFn := ⟨9, [.tmp 4],
 .seq (.region 0 [oP 4 (.move (.c (.bool false)))])
 (.seq (.region 0 [oP 5 (.move (.t 0)),
 oP 6 (.move (.t 1)),
 oQ 7 (.call 3 105 [(.t 5), (.t 6)]),
 oP 8 (.bin .geq (.t 7) (.c (.int .i64 0))),
 oP 4 (.move (.t 8))])
 (.ret))⟩
/-- almadraba/almadrabaref08.IsBarrel -/
def f108 : AFn := ⟨11, [.tmp 4],
 .seq (.region 0 [oQ 2 (.box (.t 0)),
 oP 4 (.move (.c (.bool false)))])
 (.seq (.region 0 [oP 5 (.move (.t 1)),
 oP 6 (.fieldAddr 3 (.t 2)),
 oQ 7 (.load false 1 (.t 6)),
 oP 8 (.lenS (.t 7)),
 oP 9 (.bin .sub (.t 8) (.c (.int .i64 1))),
 oQ 10 (.call 1 115 [(.t 5), (.c (.int .i64 0)), (.t 9)]),
 oP 4 (.move (.t 10))])
 (.ret))⟩
/-- almadraba/almadrabaref08.fits -/
def f109 : AFn := ⟨30, [.tmp 4],
 .seq (.region 0 [oQ 2 (.box (.t 0)),
 oP 4 (.move (.c (.bool false)))])
 (.seq (.seq (.region 0 [oP 5 (.move (.c (.int .i64 0)))])
 (.block 0 (.loop (.seq (.seq (.region 0 [oP 7 (.move (.t 5)),
 oP 8 (.fieldAddr 3 (.t 2)),
 oQ 9 (.load false 1 (.t 8)),
 oP 10 (.lenS (.t 9)),
 oP 11 (.bin .lss (.t 7) (.t 10))])
 (.cond (.t 11) (.skip)
 (.exit 0)))
 (.seq (.block 1 (.seq (.region 0 [oP 14 (.move (.t 1)),
 oP 15 (.move (.t 5)),
 oQ 16 (.call 1 97 [(.t 14), (.t 15)]),
 oP 6 (.move (.t 16))])
 (.seq (.region 0 [oQ 17 (.load true 4 (.t 2)),
 oP 18 (.move (.t 6)),
 oQ 19 (.call 1 127 [(.t 17), (.t 18)]),
 oQ 20 (.load true 4 (.t 2)),
 oP 21 (.move (.t 6)),
 oQ 22 (.call 1 128 [(.t 20), (.t 21)]),
 oP 23 (.bin .add (.t 19) (.t 22)),
 oP 24 (.fieldAddr 3 (.t 2)),
 oQ 25 (.load false 1 (.t 24)),
 oP 26 (.move (.t 5)),
 oP 27 (.idxSl 1 (.t 25) (.t 26)),
 oQ 28 (.load false 1 (.t 27)),
 oP 29 (.bin .gtr (.t 23) (.t 28))])
 (.cond (.t 29) (.seq (.region 0 [oP 4 (.move (.c (.bool false)))])
 (.ret))
 (.skip)))))
 (.region 0 [oP 12 (.move (.t 5)),
 oP 13 (.bin .add (.t 12) (.c (.int .i64 1))),
 oP 5 (.move (.t 13))]))))))
 (.seq (.region 0 [oP 4 (.move (.c (.bool true)))])
 (.ret)))⟩
/-- almadraba/sales.valid$1 -/
def f111 : AFn := ⟨26, [.tmp 3],
 .seq (.region 0 [oQ 2 (.box (.t 0)),
 oP 3 (.move (.c (.bool false)))])
 (.seq (.region 0 [oQ 4 (.load true 8 (.t 1)),
 oP 5 (.fieldAddr 0 (.t 2)),
 oQ 6 (.load false 1 (.t 5)),
 oQ 7 (.call 1 67 [(.t 4), (.t 6)]),
 oP 8 (.move (.t 7)),
 oG 9 8 true (.fieldAddr 2 (.t 2)),
 ⟨(some 10), .load false 1 (.t 9), (some (8, true)), none, []⟩,
 ⟨(some 11), .call 1 90 [(.t 10), (.c (.int .i64 0)), (.c (.int .i64 99))], (some (8, true)), none, []⟩,
 oP 12 (.pick (.t 8) (.t 11) (.c (.bool false))),
 oP 13 (.move (.t 12)),
 oG 14 13 true (.fieldAddr 1 (.t 2)),
 ⟨(some 15), .load false 1 (.t 14), (some (13, true)), none, []⟩,
 oG 16 13 true (.lenS (.t 15)),
 oG 17 13 true (.bin .gtr (.t 16) (.c (.int .i64 0))),
 oP 18 (.pick (.t 13) (.t 17) (.c (.bool false))),
 oP 19 (.move (.t 18)),
 oG 20 19 true (.fieldAddr 0 (.t 1)),
 ⟨(some 21), .load true 4 (.t 20), (some (19, true)), none, []⟩,
 oG 22 19 true (.fieldAddr 1 (.t 2)),
 ⟨(some 23), .load false 1 (.t 22), (some (19, true)), none, []⟩,
 ⟨(some 24), .call 1 112 [(.t 21), (.t 23)], (some (19, true)), none, []⟩,
 oP 25 (.pick (.t 19) (.t 24) (.c (.bool false))),
 oP 3 (.move (.t 25))])
 (.ret))⟩
/-- almadraba/sales.areBarrels -/
def f112 : AFn := ⟨35, [.tmp 4],
 .seq (.region 0 [oQ 2 (.box (.t 0)),
 oP 4 (.move (.c (.bool false)))])
 (.seq (.seq (.region 0 [oP 7 (.move (.t 1)),
 oP 8 (.lenS (.t 7)),
 oP 9 (.move (.c (.int .i64 0)))])
 (.block 0 (.loop (.seq (.region 0 [oP 10 (.bin .lss (.t 9) (.t 8))])
 (.seq (.cond (.t 10) (.skip)
 (.exit 0))
 (.seq (.block 1 (.seq (.region 0 [oP 11 (.move (.t 9)),
 oP 12 (.idxSl 1 (.t 7) (.t 9)),
 oQ 13 (.load false 1 (.t 12)),
 oP 5 (.move (.t 11)),
 oP 6 (.move (.t 13))])
 (.seq (.region 0 [oP 14 (.move (.t 6)),
 oP 15 (.fieldAddr 3 (.t 2)),
 oQ 16 (.load false 1 (.t 15)),
 oP 17 (.lenS (.t 16)),
 oP 18 (.bin .sub (.t 17) (.c (.int .i64 1))),
 oQ 19 (.call 1 90 [(.t 14), (.c (.int .i64 0)), (.t 18)]),
 oP 20 (.un .not (.t 19)),
 oP 21 (.move (.t 20)),
 oG 22 21 false (.move (.t 5)),
 oG 23 21 false (.bin .gtr (.t 22) (.c (.int .i64 0))),
 oG 24 21 false (.move (.t 23)),
 oG 25 24 true (.move (.t 6)),
 oG 26 24 true (.move (.t 1)),
 oG 27 24 true (.move (.t 5)),
 oG 28 24 true (.bin .sub (.t 27) (.c (.int .i64 1))),
 oG 29 24 true (.idxSl 1 (.t 26) (.t 28)),
 ⟨(some 30), .load false 1 (.t 29), (some (24, true)), none, []⟩,
 oG 31 24 true (.bin .leq (.t 25) (.t 30)),
 oG 32 21 false (.pick (.t 24) (.t 31) (.c (.bool false))),
 oP 33 (.pick (.t 21) (.c (.bool true)) (.t 32))])
 (.cond (.t 33) (.seq (.region 0 [oP 4 (.move (.c (.bool false)))])
 (.ret))
 (.skip)))))
 (.region 0 [oP 34 (.bin .add (.t 9) (.c (.int .i64 1))),
 oP 9 (.move (.t 34))])))))))
 (.seq (.region 0 [oP 4 (.move (.c (.bool true)))])
 (.ret)))⟩
/-- almadraba/salt.Good -/
def f113 : AFn := ⟨21, [.tmp 4, .tmp 5],
 .seq (.region 0 [oQ 2 (.box (.t 0)),
 oP 4 (.move (.c (.bool false))),
 oP 5 (.move (.c (.int .i64 0)))])
 (.seq (.seq (.region 0 [oQ 9 (.load true 4 (.t 2)),
 oQ 10 (.call 1 130 [(.t 9)]),
 oP 6 (.move (.t 10))])
 (.seq (.region 0 [oP 11 (.move (.t 6)),
 oP 12 (.bin .neq (.t 11) (.c (.int .i64 0)))])
 (.cond (.t 12) (.seq (.region 0 [oP 13 (.move (.t 6)),
 oP 4 (.move (.c (.bool false))),
 oP 5 (.move (.t 13))])
 (.ret))
 (.skip))))
 (.seq (.region 0 [oQ 15 (.load true 4 (.t 2)),
 oP 16 (.move (.t 1)),
 oQ 17 (.call 1 131 [(.t 15), (.t 16)]),
 oP 14 (.move (.t 17)),
 oP 18 (.extract (.t 14) 0),
 oP 19 (.extract (.t 14) 1),
 oQ 7 (.alloc [.int .i64 0, .int .i64 0, .int .i64 0, .int .i64 0, .int .i64 0, .int .i64 0, .int .i64 0, .int .i64 0, .int .i64 0, .int .i64 0, .int .i64 0, .int .i64 0, .int .i64 0, .int .i64 0, .int .i64 0, .int .i64 0]),
 ⟨none, .store 16 (.t 7) (.t 18), none, none, []⟩,
 oP 8 (.move (.t 19))])
 (.seq (.region 0 [oP 20 (.move (.t 8)),
 oP 4 (.move (.t 20)),
 oP 5 (.move (.c (.int .i64 0)))])
 (.ret))))⟩
/-- almadraba/sales.each[almadraba/api.SaleBid] -/
def f114 : AFn := ⟨9, [.tmp 4],
 .seq (.region 0 [oQ 3 (.box (.t 1)),
 oP 4 (.move (.c (.bool false)))])
 (.seq (.region 0 [oP 5 (.move (.t 0)),
 oP 6 (.mkFn 133 [] [(.t 3)]),
 oQ 7 (.call 3 132 [(.t 5), (.t 6)]),
 oP 8 (.un .not (.t 7)),
 oP 4 (.move (.t 8))])
 (.ret))⟩
/-- almadraba/almadrabaref08.within -/
def f115 : AFn := ⟨11, [.tmp 6],
 .seq (.region 0 [oP 6 (.move (.c (.bool false)))])
 (.seq (.region 0 [oP 7 (.move (.t 0)),
 oP 8 (.move (.t 1)),
 oP 9 (.move (.t 2)),
 oQ 10 (.call 1 23 [(.t 7), (.t 8), (.t 9)]),
 oP 6 (.move (.t 10))])
 (.ret))⟩
/-- (almadraba/sales.fair).sales -/
def f116 : AFn := ⟨21, [],
 .seq (.region 0 [oQ 2 (.box (.t 0))])
 (.seq (.region 0 [oP 5 (.fieldAddr 0 (.t 2)),
 oP 6 (.fieldAddr 7 (.t 5)),
 oQ 7 (.load false 1 (.t 6)),
 oP 8 (.lenS (.t 7)),
 oP 9 (.bin .add (.t 8) (.c (.int .i64 1))),
 oP 10 (.move (.c (.int .i64 0)))])
 (.block 0 (.loop (.seq (.region 0 [oP 11 (.bin .lss (.t 10) (.t 9))])
 (.seq (.cond (.t 11) (.skip)
 (.exit 0))
 (.seq (.block 1 (.seq (.region 0 [oP 12 (.move (.t 10)),
 oP 4 (.move (.t 12))])
 (.seq (.region 1 [⟨(some 13), .load true 13 (.t 2), none, none, [0]⟩,
 oP 14 (.move (.t 4)),
 ⟨(some 15), .makeSlice true 1 8 [.int .i64 0] (.c (.int .i64 0)) (.t 14), none, (some 0), []⟩,
 oP 16 (.move (.t 4)),
 oP 17 (.move (.t 1)),
 oQ 18 (.call 0 134 [(.t 13), (.t 15), (.t 16), (.t 17)]),
 oP 19 (.un .not (.t 18))])
 (.cond (.t 19) (.ret)
 (.skip)))))
 (.region 0 [oP 20 (.bin .add (.t 10) (.c (.int .i64 1))),
 oP 10 (.move (.t 20))])))))))⟩
/-- (almadraba/sales.fair).pence -/
def f117 : AFn := ⟨25, [.tmp 4],
 .seq (.region 0 [oQ 2 (.box (.t 0)),
 oP 4 (.move (.c (.int .i64 0)))])
 (.seq (.region 0 [oP 5 (.move (.c (.int .i64 0)))])
 (.seq (.seq (.region 0 [oP 8 (.move (.t 1)),
 oP 9 (.lenS (.t 8)),
 oP 10 (.move (.c (.int .i64 0)))])
 (.block 0 (.loop (.seq (.region 0 [oP 11 (.bin .lss (.t 10) (.t 9))])
 (.seq (.cond (.t 11) (.skip)
 (.exit 0))
 (.seq (.block 1 (.seq (.region 0 [oP 12 (.idxSl 1 (.t 8) (.t 10)),
 oQ 13 (.load false 1 (.t 12)),
 oP 7 (.move (.t 13))])
 (.region 0 [oP 14 (.move (.t 5)),
 oP 15 (.fieldAddr 0 (.t 2)),
 oP 16 (.fieldAddr 7 (.t 15)),
 oQ 17 (.load false 1 (.t 16)),
 oP 18 (.move (.t 7)),
 oP 19 (.idxSl 3 (.t 17) (.t 18)),
 oP 20 (.fieldAddr 2 (.t 19)),
 oQ 21 (.load false 1 (.t 20)),
 oP 22 (.bin .add (.t 14) (.t 21)),
 oP 5 (.move (.t 22))])))
 (.region 0 [oP 23 (.bin .add (.t 10) (.c (.int .i64 1))),
 oP 10 (.move (.t 23))])))))))
 (.seq (.region 0 [oP 24 (.move (.t 5)),
 oP 4 (.move (.t 24))])
 (.ret))))⟩
/-- slices.Clone[[]int,int] -/
def f118 : AFn := ⟨8, [.tmp 2],
 .seq (.region 0 [oP 2 (.move (.c (.nils)))])
 (.seq (.seq (.region 0 [oP 3 (.move (.t 0)),
 oP 4 (.isNil (.t 3) (.c (.nils)))])
 (.cond (.t 4) (.seq (.region 0 [oP 2 (.move (.c (.nils)))])
 (.ret))
 (.skip)))
 (.seq (.region 0 [oQ 5 (.buildSlice 1 0 [.int .i64 0] []),
 oP 6 (.move (.t 0)),
 oQ 7 (.append false 1 8 (.t 5) (.t 6)),
 oP 2 (.move (.t 7))])
 (.ret)))⟩
/-- almadraba/salt.Barrel -/
def f121 : AFn := ⟨45, [.tmp 6, .tmp 7, .tmp 8, .tmp 9],
 .seq (.region 0 [oQ 3 (.box (.t 0)),
 oP 6 (.move (.c (.int .i64 0))),
 oP 7 (.move (.c (.int .i64 0))),
 oP 8 (.move (.c (.int .i64 0))),
 oP 9 (.move (.c (.int .i64 0)))])
 (.seq (.seq (.region 0 [oQ 15 (.load true 4 (.t 3)),
 oQ 16 (.call 1 130 [(.t 15)]),
 oP 10 (.move (.t 16))])
 (.seq (.region 0 [oP 17 (.move (.t 10)),
 oP 18 (.bin .neq (.t 17) (.c (.int .i64 0)))])
 (.cond (.t 18) (.seq (.region 0 [oP 19 (.move (.t 10)),
 oP 6 (.move (.c (.int .i64 0))),
 oP 7 (.move (.c (.int .i64 0))),
 oP 8 (.move (.c (.int .i64 0))),
 oP 9 (.move (.t 19))])
 (.ret))
 (.skip))))
 (.seq (.region 0 [oQ 20 (.load true 4 (.t 3)),
 oQ 11 (.alloc [.nils, .int .i64 0, .nils, .nils]),
 ⟨none, .store 4 (.t 11) (.t 20), none, none, []⟩])
 (.seq (.region 0 [oQ 22 (.load true 4 (.t 11)),
 oP 23 (.move (.t 1)),
 oQ 24 (.call 1 131 [(.t 22), (.t 23)]),
 oP 21 (.move (.t 24)),
 oP 25 (.extract (.t 21) 0),
 oP 26 (.extract (.t 21) 1),
 oQ 12 (.alloc [.int .i64 0, .int .i64 0, .int .i64 0, .int .i64 0, .int .i64 0, .int .i64 0, .int .i64 0, .int .i64 0, .int .i64 0, .int .i64 0, .int .i64 0, .int .i64 0, .int .i64 0, .int .i64 0, .int .i64 0, .int .i64 0]),
 ⟨none, .store 16 (.t 12) (.t 25), none, none, []⟩,
 oP 13 (.move (.t 26))])
 (.seq (.seq (.region 0 [oP 27 (.move (.t 13)),
 oP 28 (.un .not (.t 27)),
 oP 29 (.move (.t 28)),
 ⟨(some 30), .load true 4 (.t 11), (some (29, false)), none, []⟩,
 oG 31 29 false (.move (.t 2)),
 ⟨(some 32), .call 1 135 [(.t 30), (.t 31)], (some (29, false)), none, []⟩,
 oG 33 29 false (.un .not (.t 32)),
 oP 34 (.pick (.t 29) (.c (.bool true)) (.t 33))])
 (.cond (.t 34) (.seq (.region 0 [oP 6 (.move (.c (.int .i64 0))),
 oP 7 (.move (.c (.int .i64 0))),
 oP 8 (.move (.c (.int .i64 0))),
 oP 9 (.move (.c (.int .i64 1)))])
 (.ret))
 (.skip)))
 (.seq (.region 0 [oP 35 (.move (.t 2)),
 oP 36 (.idxArr 4 4 (.t 12) (.t 35)),
 oQ 37 (.load true 4 (.t 36)),
 oQ 14 (.alloc [.int .i64 0, .int .i64 0, .int .i64 0, .int .i64 0]),
 ⟨none, .store 4 (.t 14) (.t 37), none, none, []⟩])
 (.seq (.region 0 [oP 38 (.fieldAddr 1 (.t 14)),
 oQ 39 (.load false 1 (.t 38)),
 oQ 40 (.load true 4 (.t 11)),
 oQ 41 (.load true 4 (.t 14)),
 oQ 42 (.call 1 136 [(.t 40), (.t 41)]),
 oP 43 (.fieldAddr 3 (.t 14)),
 oQ 44 (.load false 1 (.t 43)),
 oP 6 (.move (.t 39)),
 oP 7 (.move (.t 42)),
 oP 8 (.move (.t 44)),
 oP 9 (.move (.c (.int .i64 0)))])
 (.ret)))))))⟩
/-- (almadraba/sales.fair).fits$1 -/
def f122 : AFn := ⟨32, [.tmp 5],
 .seq (.region 0 [oP 5 (.move (.c (.bool false)))])
 (.seq (.region 0 [oP 8 (.fieldAddr 0 (.t 1)),
 oP 9 (.fieldAddr 7 (.t 8)),
 oQ 10 (.load false 1 (.t 9)),
 oP 11 (.move (.t 0)),
 oP 12 (.idxSl 3 (.t 10) (.t 11)),
 oQ 13 (.load true 3 (.t 12)),
 oQ 6 (.alloc [.int .i64 0, .nils, .int .i64 0]),
 ⟨none, .store 3 (.t 6) (.t 13), none, none, []⟩])
 (.seq (.region 0 [oP 14 (.mkFn 123 [] [(.t 6)]),
 oP 7 (.move (.t 14))])
 (.seq (.region 0 [oP 15 (.move (.t 0)),
 oQ 16 (.load false 1 (.t 2)),
 oP 17 (.bin .lss (.t 15) (.t 16)),
 oP 18 (.move (.t 17)),
 oG 19 18 true (.fieldAddr 0 (.t 6)),
 ⟨(some 20), .load false 1 (.t 19), (some (18, true)), none, []⟩,
 oG 21 18 true (.fieldAddr 0 (.t 3)),
 ⟨(some 22), .load false 1 (.t 21), (some (18, true)), none, []⟩,
 oG 23 18 true (.bin .neq (.t 20) (.t 22)),
 oP 24 (.pick (.t 18) (.t 23) (.c (.bool false))),
 oP 25 (.move (.t 24)),
 oG 26 25 true (.fieldAddr 1 (.t 3)),
 ⟨(some 27), .load false 1 (.t 26), (some (25, true)), none, []⟩,
 oG 28 25 true (.move (.t 7)),
 ⟨(some 29), .call 3 107 [(.t 27), (.t 28)], (some (25, true)), none, []⟩,
 oG 30 25 true (.un .not (.t 29)),
 oP 31 (.pick (.t 25) (.t 30) (.c (.bool false))),
 oP 5 (.move (.t 31))])
 (.ret))))⟩
/-- (almadraba/sales.fair).fits$1$1 -/
def f123 : AFn := ⟨8, [.tmp 3],
 .seq (.region 0 [oP 3 (.move (.c (.bool false)))])
 (.seq (.region 0 [oP 4 (.fieldAddr 1 (.t 1)),
 oQ 5 (.load false 1 (.t 4)),
 oP 6 (.move (.t 0)),
 oQ 7 (.call 1 103 [(.t 5), (.t 6)]),
 oP 3 (.move (.t 7))])
 (.ret))⟩
/-- almadraba/sales.each[int] -/
def f124 : AFn := ⟨9, [.tmp 4],
 .seq (.region 0 [oQ 3 (.box (.t 1)),
 oP 4 (.move (.c (.bool false)))])
 (.seq (.region 0 [oP 5 (.move (.t 0)),
 oP 6 (.mkFn 137 [] [(.t 3)]),
 oQ 7 (.call 3 107 [(.t 5), (.t 6)]),
 oP 8 (.un .not (.t 7)),
 oP 4 (.move (.t 8))])
 (.ret))⟩
/-- (almadraba/sales.fair).fits$2 -/
def f125 : AFn := ⟨8, [.tmp 3],
 .seq (.region 0 [oP 3 (.move (.c (.bool false)))])
 (.seq (.region 0 [oP 4 (.move (.t 0)),
 oP 5 (.fieldAddr 8 (.t 1)),
 oP 6 (.idxArr 4 1 (.t 5) (.t 4)),
 oQ 7 (.load false 1 (.t 6)),
 oP 3 (.move (.t 7))])
 (.ret))⟩
/-- slices.Index[[]int,int] -/
def f126 : AFn := ⟨19, [.tmp 4],
 .seq (.region 0 [oP 4 (.move (.c (.int .i64 0)))])
 (.seq (.seq (.region 0 [oP 6 (.move (.t 0)),
 oP 7 (.lenS (.t 6)),
 oP 8 (.move (.c (.int .i64 0)))])
 (.block 0 (.loop (.seq (.region 0 [oP 9 (.bin .lss (.t 8) (.t 7))])
 (.seq (.cond (.t 9) (.skip)
 (.exit 0))
 (.seq (.block 1 (.seq (.region 0 [oP 10 (.move (.t 8)),
 oP 5 (.move (.t 10))])
 (.seq (.region 0 [oP 11 (.move (.t 1)),
 oP 12 (.move (.t 0)),
 oP 13 (.move (.t 5)),
 oP 14 (.idxSl 1 (.t 12) (.t 13)),
 oQ 15 (.load false 1 (.t 14)),
 oP 16 (.bin .eql (.t 11) (.t 15))])
 (.cond (.t 16) (.seq (.region 0 [oP 17 (.move (.t 5)),
 oP 4 (.move (.t 17))])
 (.ret))
 (.skip)))))
 (.region 0 [oP 18 (.bin .add (.t 8) (.c (.int .i64 1))),
 oP 8 (.move (.t 18))])))))))
 (.seq (.region 0 [oP 4 (.move (.c (.int .i64 (-1))))])
 (.ret)))⟩
/-- almadraba/almadrabaref08.PoundsOf -/
def f127 : AFn := ⟨25, [.tmp 4],
 .seq (.region 0 [oQ 2 (.box (.t 0)),
 oP 4 (.move (.c (.int .i64 0)))])
 (.seq (.region 0 [oP 5 (.move (.c (.int .i64 0)))])
 (.seq (.seq (.region 0 [oP 6 (.move (.c (.int .i64 0)))])
 (.block 0 (.loop (.seq (.seq (.region 0 [oP 7 (.move (.t 6)),
 oP 8 (.move (.t 1)),
 oP 9 (.lenS (.t 8)),
 oP 10 (.bin .lss (.t 7) (.t 9))])
 (.cond (.t 10) (.skip)
 (.exit 0)))
 (.seq (.block 1 (.region 0 [oP 13 (.move (.t 5)),
 oP 14 (.fieldAddr 2 (.t 2)),
 oQ 15 (.load false 1 (.t 14)),
 oP 16 (.move (.t 1)),
 oP 17 (.move (.t 6)),
 oP 18 (.idxSl 1 (.t 16) (.t 17)),
 oQ 19 (.load false 1 (.t 18)),
 oP 20 (.idxSl 2 (.t 15) (.t 19)),
 oP 21 (.fieldAddr 1 (.t 20)),
 oQ 22 (.load false 1 (.t 21)),
 oP 23 (.bin .add (.t 13) (.t 22)),
 oP 5 (.move (.t 23))]))
 (.region 0 [oP 11 (.move (.t 6)),
 oP 12 (.bin .add (.t 11) (.c (.int .i64 1))),
 oP 6 (.move (.t 12))]))))))
 (.seq (.region 0 [oP 24 (.move (.t 5)),
 oP 4 (.move (.t 24))])
 (.ret))))⟩
/-- almadraba/almadrabaref08.SaltOf -/
def f128 : AFn := ⟨42, [.tmp 4],
 .seq (.region 0 [oQ 2 (.box (.t 0)),
 oP 4 (.move (.c (.int .i64 0)))])
 (.seq (.seq (.region 0 [oP 7 (.move (.t 1)),
 oP 8 (.lenS (.t 7)),
 oP 9 (.bin .eql (.t 8) (.c (.int .i64 0)))])
 (.cond (.t 9) (.seq (.region 0 [oP 4 (.move (.c (.int .i64 0)))])
 (.ret))
 (.skip)))
 (.seq (.region 0 [oP 5 (.move (.c (.int .i64 0)))])
 (.seq (.seq (.region 0 [oP 6 (.move (.c (.int .i64 0)))])
 (.block 0 (.loop (.seq (.seq (.region 0 [oP 10 (.move (.t 6)),
 oP 11 (.move (.t 1)),
 oP 12 (.lenS (.t 11)),
 oP 13 (.bin .lss (.t 10) (.t 12))])
 (.cond (.t 13) (.skip)
 (.exit 0)))
 (.seq (.block 1 (.region 0 [oP 16 (.move (.t 5)),
 oP 17 (.fieldAddr 0 (.t 2)),
 oQ 18 (.load false 1 (.t 17)),
 oP 19 (.fieldAddr 2 (.t 2)),
 oQ 20 (.load false 1 (.t 19)),
 oP 21 (.move (.t 1)),
 oP 22 (.move (.t 6)),
 oP 23 (.idxSl 1 (.t 21) (.t 22)),
 oQ 24 (.load false 1 (.t 23)),
 oP 25 (.idxSl 2 (.t 20) (.t 24)),
 oP 26 (.fieldAddr 0 (.t 25)),
 oQ 27 (.load false 1 (.t 26)),
 oP 28 (.idxSl 2 (.t 18) (.t 27)),
 oP 29 (.fieldAddr 0 (.t 28)),
 oQ 30 (.load false 1 (.t 29)),
 oP 31 (.minmax true (.t 16) [(.t 30)]),
 oP 5 (.move (.t 31))]))
 (.region 0 [oP 14 (.move (.t 6)),
 oP 15 (.bin .add (.t 14) (.c (.int .i64 1))),
 oP 6 (.move (.t 15))]))))))
 (.seq (.region 0 [oP 32 (.fieldAddr 1 (.t 2)),
 oQ 33 (.load false 1 (.t 32)),
 oQ 34 (.load true 4 (.t 2)),
 oP 35 (.move (.t 1)),
 oQ 36 (.call 1 127 [(.t 34), (.t 35)]),
 oP 37 (.move (.t 5)),
 oP 38 (.bin .mul (.t 36) (.t 37)),
 oP 39 (.bin .add (.t 38) (.c (.int .i64 9))),
 oP 40 (.bin .quo (.t 39) (.c (.int .i64 10))),
 oP 41 (.bin .add (.t 33) (.t 40)),
 oP 4 (.move (.t 41))])
 (.ret)))))⟩
/-- almadraba/salt.Check -/
def f130 : AFn := ⟨6, [.tmp 2],
 .seq (.region 0 [oQ 1 (.box (.t 0)),
 oP 2 (.move (.c (.int .i64 0)))])
 (.seq (.seq (.region 0 [oQ 3 (.load true 4 (.t 1)),
 oQ 4 (.call 1 139 [(.t 3)]),
 oP 5 (.un .not (.t 4))])
 (.cond (.t 5) (.seq (.region 0 [oP 2 (.move (.c (.int .i64 80)))])
 (.ret))
 (.skip)))
 (.seq (.region 0 [oP 2 (.move (.c (.int .i64 0)))])
 (.ret)))⟩
/-- (almadraba/salt.house).laid -/
def f131 : AFn := ⟨44, [.cell true 16 4, .tmp 5],
 .seq (.region 0 [oQ 2 (.box (.t 0)),
 oQ 4 (.alloc [.int .i64 0, .int .i64 0, .int .i64 0, .int .i64 0, .int .i64 0, .int .i64 0, .int .i64 0, .int .i64 0, .int .i64 0, .int .i64 0, .int .i64 0, .int .i64 0, .int .i64 0, .int .i64 0, .int .i64 0, .int .i64 0]),
 oP 5 (.move (.c (.bool false)))])
 (.seq (.region 0 [oQ 6 (.alloc [.int .i64 0, .int .i64 0, .int .i64 0, .int .i64 0, .int .i64 0, .int .i64 0, .int .i64 0, .int .i64 0, .int .i64 0, .int .i64 0, .int .i64 0, .int .i64 0, .int .i64 0, .int .i64 0, .int .i64 0, .int .i64 0])])
 (.seq (.seq (.region 0 [oP 11 (.move (.t 1)),
 oP 12 (.lenS (.t 11)),
 oP 13 (.fieldAddr 2 (.t 2)),
 oQ 14 (.load false 1 (.t 13)),
 oP 15 (.lenS (.t 14)),
 oP 16 (.bin .neq (.t 12) (.t 15))])
 (.cond (.t 16) (.seq (.region 0 [oQ 17 (.load true 16 (.t 6)),
 ⟨none, .store 16 (.t 4) (.t 17), none, none, []⟩,
 oP 5 (.move (.c (.bool false)))])
 (.ret))
 (.skip)))
 (.seq (.seq (.region 0 [oP 18 (.move (.t 1)),
 oP 19 (.lenS (.t 18)),
 oP 20 (.move (.c (.int .i64 0)))])
 (.block 0 (.loop (.seq (.region 0 [oP 21 (.bin .lss (.t 20) (.t 19))])
 (.seq (.cond (.t 21) (.skip)
 (.exit 0))
 (.seq (.block 1 (.seq (.region 0 [oP 22 (.move (.t 20)),
 oP 23 (.idxSl 1 (.t 18) (.t 20)),
 oQ 24 (.load false 1 (.t 23)),
 oP 7 (.move (.t 22)),
 oP 8 (.move (.t 24))])
 (.seq (.seq (.region 0 [oQ 25 (.load true 4 (.t 2)),
 oP 26 (.move (.t 8)),
 oQ 27 (.call 1 135 [(.t 25), (.t 26)]),
 oP 28 (.un .not (.t 27))])
 (.cond (.t 28) (.seq (.region 0 [oQ 29 (.load true 16 (.t 6)),
 ⟨none, .store 16 (.t 4) (.t 29), none, none, []⟩,
 oP 5 (.move (.c (.bool false)))])
 (.ret))
 (.skip)))
 (.seq (.region 0 [oQ 31 (.load true 4 (.t 2)),
 oQ 32 (.load true 16 (.t 6)),
 oP 33 (.move (.t 7)),
 oP 34 (.move (.t 8)),
 oQ 35 (.call 1 140 [(.t 31), (.t 32), (.t 33), (.t 34)]),
 oP 30 (.move (.t 35)),
 oP 36 (.extract (.t 30) 0),
 oP 37 (.extract (.t 30) 1),
 oQ 9 (.alloc [.int .i64 0, .int .i64 0, .int .i64 0, .int .i64 0, .int .i64 0, .int .i64 0, .int .i64 0, .int .i64 0, .int .i64 0, .int .i64 0, .int .i64 0, .int .i64 0, .int .i64 0, .int .i64 0, .int .i64 0, .int .i64 0]),
 ⟨none, .store 16 (.t 9) (.t 36), none, none, []⟩,
 oP 10 (.move (.t 37))])
 (.seq (.seq (.region 0 [oP 38 (.move (.t 10)),
 oP 39 (.un .not (.t 38))])
 (.cond (.t 39) (.seq (.region 0 [oQ 40 (.load true 16 (.t 6)),
 ⟨none, .store 16 (.t 4) (.t 40), none, none, []⟩,
 oP 5 (.move (.c (.bool false)))])
 (.ret))
 (.skip)))
 (.region 0 [oQ 41 (.load true 16 (.t 9)),
 ⟨none, .store 16 (.t 6) (.t 41), none, none, []⟩]))))))
 (.region 0 [oP 42 (.bin .add (.t 20) (.c (.int .i64 1))),
 oP 20 (.move (.t 42))])))))))
 (.seq (.region 0 [oQ 43 (.load true 16 (.t 6)),
 ⟨none, .store 16 (.t 4) (.t 43), none, none, []⟩,
 oP 5 (.move (.c (.bool true)))])
 (.ret)))))⟩
/-- slices.ContainsFunc[[]almadraba/api.SaleBid,almadraba/api.SaleBid] -/
def f132 : AFn := ⟨9, [.tmp 4],
 .seq (.region 0 [oP 4 (.move (.c (.bool false)))])
 (.seq (.region 0 [oP 5 (.move (.t 0)),
 oP 6 (.move (.t 1)),
 oQ 7 (.call 3 141 [(.t 5), (.t 6)]),
 oP 8 (.bin .geq (.t 7) (.c (.int .i64 0))),
 oP 4 (.move (.t 8))])
 (.ret))⟩
/-- almadraba/sales.each[almadraba/api.SaleBid]$1 -/
def f133 : AFn := ⟨8, [.tmp 3],
 .seq (.region 0 [oQ 2 (.box (.t 0)),
 oP 3 (.move (.c (.bool false)))])
 (.seq (.region 0 [oQ 4 (.load false 1 (.t 1)),
 oQ 5 (.load true 3 (.t 2)),
 oQ 6 (.callv true (.t 4) [(.t 5)]),
 oP 7 (.un .not (.t 6)),
 oP 3 (.move (.t 7))])
 (.ret))⟩
/-- (almadraba/sales.fair).longer -/
def f134 : AFn := ⟨40, [.tmp 8],
 .seq (.region 0 [oQ 4 (.box (.t 0)),
 oP 8 (.move (.c (.bool false)))])
 (.seq (.seq (.region 0 [oP 10 (.move (.t 1)),
 oP 11 (.lenS (.t 10)),
 oP 12 (.move (.t 2)),
 oP 13 (.bin .eql (.t 11) (.t 12))])
 (.cond (.t 13) (.seq (.region 0 [oP 14 (.move (.t 3)),
 oP 15 (.move (.t 1)),
 oQ 16 (.callv false (.t 14) [(.t 15)]),
 oP 8 (.move (.t 16))])
 (.ret))
 (.skip)))
 (.seq (.seq (.region 0 [oP 17 (.fieldAddr 0 (.t 4)),
 oP 18 (.fieldAddr 7 (.t 17)),
 oQ 19 (.load false 1 (.t 18)),
 oP 20 (.lenS (.t 19)),
 oP 21 (.move (.c (.int .i64 0)))])
 (.block 0 (.loop (.seq (.region 0 [oP 22 (.bin .lss (.t 21) (.t 20))])
 (.seq (.cond (.t 22) (.skip)
 (.exit 0))
 (.seq (.block 1 (.seq (.region 0 [oP 23 (.move (.t 21)),
 oP 9 (.move (.t 23))])
 (.seq (.region 0 [oQ 24 (.load true 13 (.t 4)),
 oP 25 (.move (.t 1)),
 oP 26 (.move (.t 9)),
 oQ 27 (.call 3 100 [(.t 24), (.t 25), (.t 26)]),
 oP 28 (.move (.t 27)),
 ⟨(some 29), .loadN true 13 (.t 4) [1], (some (28, true)), none, []⟩,
 oG 30 28 true (.move (.t 1)),
 oG 31 28 true (.move (.t 9)),
 ⟨(some 32), .litS 1 1 [.int .i64 0] [(0, (.t 31))], (some (28, true)), none, []⟩,
 ⟨(some 33), .w (.app 1 (.t 30) (.t 32) (some 1)), (some (28, true)), none, []⟩,
 oG 34 28 true (.move (.t 2)),
 oG 35 28 true (.move (.t 3)),
 ⟨(some 36), .call 0 134 [(.t 29), (.t 33), (.t 34), (.t 35)], (some (28, true)), none, []⟩,
 oG 37 28 true (.un .not (.t 36)),
 oP 38 (.pick (.t 28) (.t 37) (.c (.bool false)))])
 (.cond (.t 38) (.seq (.region 0 [oP 8 (.move (.c (.bool false)))])
 (.ret))
 (.skip)))))
 (.region 0 [oP 39 (.bin .add (.t 21) (.c (.int .i64 1))),
 oP 21 (.move (.t 39))])))))))
 (.seq (.region 0 [oP 8 (.move (.c (.bool true)))])
 (.ret))))⟩
/-- (almadraba/salt.house).hasBarrel -/
def f135 : AFn := ⟨11, [.tmp 4],
 .seq (.region 0 [oQ 2 (.box (.t 0)),
 oP 4 (.move (.c (.bool false)))])
 (.seq (.region 0 [oP 5 (.move (.t 1)),
 oP 6 (.fieldAddr 3 (.t 2)),
 oQ 7 (.load false 1 (.t 6)),
 oP 8 (.lenS (.t 7)),
 oP 9 (.bin .sub (.t 8) (.c (.int .i64 1))),
 oQ 10 (.call 1 142 [(.t 5), (.c (.int .i64 0)), (.t 9)]),
 oP 4 (.move (.t 10))])
 (.ret))⟩
/-- (almadraba/salt.house).saltOf -/
def f136 : AFn := ⟨18, [.tmp 4],
 .seq (.region 0 [oQ 2 (.box (.t 0)),
 oQ 3 (.box (.t 1)),
 oP 4 (.move (.c (.int .i64 0)))])
 (.seq (.seq (.region 0 [oP 5 (.fieldAddr 0 (.t 3)),
 oQ 6 (.load false 1 (.t 5)),
 oP 7 (.bin .eql (.t 6) (.c (.int .i64 0)))])
 (.cond (.t 7) (.seq (.region 0 [oP 4 (.move (.c (.int .i64 0)))])
 (.ret))
 (.skip)))
 (.seq (.region 0 [oP 8 (.fieldAddr 1 (.t 2)),
 oQ 9 (.load false 1 (.t 8)),
 oP 10 (.fieldAddr 1 (.t 3)),
 oQ 11 (.load false 1 (.t 10)),
 oP 12 (.fieldAddr 2 (.t 3)),
 oQ 13 (.load false 1 (.t 12)),
 oP 14 (.bin .mul (.t 11) (.t 13)),
 oP 15 (.bin .add (.t 14) (.c (.int .i64 9))),
 oP 16 (.bin .quo (.t 15) (.c (.int .i64 10))),
 oP 17 (.bin .add (.t 9) (.t 16)),
 oP 4 (.move (.t 17))])
 (.ret)))⟩
/-- almadraba/sales.each[int]$1 -/
def f137 : AFn := ⟨8, [.tmp 3],
 .seq (.region 0 [oP 3 (.move (.c (.bool false)))])
 (.seq (.region 0 [oQ 4 (.load false 1 (.t 1)),
 oP 5 (.move (.t 0)),
 oQ 6 (.callv true (.t 4) [(.t 5)]),
 oP 7 (.un .not (.t 6)),
 oP 3 (.move (.t 7))])
 (.ret))⟩
/-- (almadraba/salt.house).valid -/
def f139 : AFn := ⟨46, [.tmp 2],
 .seq (.region 0 [oQ 1 (.box (.t 0)),
 oP 2 (.move (.c (.bool false)))])
 (.seq (.region 0 [oP 3 (.move (.c (.fn 144 [] [])))])
 (.seq (.region 0 [oP 6 (.mkFn 145 [] [(.t 1)]),
 oP 4 (.move (.t 6))])
 (.seq (.region 0 [oP 5 (.move (.c (.fn 146 [] [])))])
 (.seq (.region 0 [oP 7 (.fieldAddr 0 (.t 1)),
 oQ 8 (.load false 1 (.t 7)),
 oP 9 (.lenS (.t 8)),
 oP 10 (.bin .leq (.t 9) (.c (.int .i64 3))),
 oP 11 (.move (.t 10)),
 oG 12 11 true (.fieldAddr 0 (.t 1)),
 ⟨(some 13), .load false 1 (.t 12), (some (11, true)), none, []⟩,
 oG 14 11 true (.move (.t 3)),
 ⟨(some 15), .call 3 147 [(.t 13), (.t 14)], (some (11, true)), none, []⟩,
 oP 16 (.pick (.t 11) (.t 15) (.c (.bool false))),
 oP 17 (.move (.t 16)),
 oG 18 17 true (.fieldAddr 1 (.t 1)),
 ⟨(some 19), .load false 1 (.t 18), (some (17, true)), none, []⟩,
 ⟨(some 20), .call 1 142 [(.t 19), (.c (.int .i64 0)), (.c (.int .i64 9))], (some (17, true)), none, []⟩,
 oP 21 (.pick (.t 17) (.t 20) (.c (.bool false))),
 oP 22 (.move (.t 21)),
 oG 23 22 true (.fieldAddr 2 (.t 1)),
 ⟨(some 24), .load false 1 (.t 23), (some (22, true)), none, []⟩,
 oG 25 22 true (.lenS (.t 24)),
 oG 26 22 true (.bin .leq (.t 25) (.c (.int .i64 6))),
 oP 27 (.pick (.t 22) (.t 26) (.c (.bool false))),
 oP 28 (.move (.t 27)),
 oG 29 28 true (.fieldAddr 2 (.t 1)),
 ⟨(some 30), .load false 1 (.t 29), (some (28, true)), none, []⟩,
 oG 31 28 true (.move (.t 4)),
 ⟨(some 32), .call 3 148 [(.t 30), (.t 31)], (some (28, true)), none, []⟩,
 oP 33 (.pick (.t 28) (.t 32) (.c (.bool false))),
 oP 34 (.move (.t 33)),
 oG 35 34 true (.fieldAddr 3 (.t 1)),
 ⟨(some 36), .load false 1 (.t 35), (some (34, true)), none, []⟩,
 oG 37 34 true (.lenS (.t 36)),
 oG 38 34 true (.bin .leq (.t 37) (.c (.int .i64 4))),
 oP 39 (.pick (.t 34) (.t 38) (.c (.bool false))),
 oP 40 (.move (.t 39)),
 oG 41 40 true (.fieldAddr 3 (.t 1)),
 ⟨(some 42), .load false 1 (.t 41), (some (40, true)), none, []⟩,
 oG 43 40 true (.move (.t 5)),
 ⟨(some 44), .call 3 149 [(.t 42), (.t 43)], (some (40, true)), none, []⟩,
 oP 45 (.pick (.t 40) (.t 44) (.c (.bool false))),
 oP 2 (.move (.t 45))])
 (.ret)))))⟩
/-- (almadraba/salt.house).put -/
def f140 : AFn := ⟨31, [.cell true 16 8, .tmp 9],
 .seq (.region 0 [oQ 4 (.box (.t 0)),
 oQ 5 (.box (.t 1)),
 oQ 8 (.alloc [.int .i64 0, .int .i64 0, .int .i64 0, .int .i64 0, .int .i64 0, .int .i64 0, .int .i64 0, .int .i64 0, .int .i64 0, .int .i64 0, .int .i64 0, .int .i64 0, .int .i64 0, .int .i64 0, .int .i64 0, .int .i64 0]),
 oP 9 (.move (.c (.bool false)))])
 (.seq (.region 0 [oP 10 (.move (.t 3)),
 oQ 11 (.load true 4 (.t 4)),
 oP 12 (.move (.t 3)),
 oP 13 (.idxArr 4 4 (.t 5) (.t 12)),
 oQ 14 (.load true 4 (.t 13)),
 oP 15 (.move (.t 2)),
 oQ 16 (.litS 1 1 [.int .i64 0] [(0, (.t 15))]),
 oQ 17 (.call 1 150 [(.t 11), (.t 14), (.t 16)]),
 oP 18 (.idxArr 4 4 (.t 5) (.t 10)),
 ⟨none, .store 4 (.t 18) (.t 17), none, none, []⟩])
 (.seq (.region 0 [oQ 19 (.load true 16 (.t 5)),
 oQ 20 (.load true 4 (.t 4)),
 oP 21 (.move (.t 3)),
 oP 22 (.idxArr 4 4 (.t 5) (.t 21)),
 oQ 23 (.load true 4 (.t 22)),
 oQ 24 (.call 1 151 [(.t 20), (.t 23)]),
 oP 25 (.fieldAddr 3 (.t 4)),
 oQ 26 (.loadR false 1 (.t 25) 4),
 oP 27 (.move (.t 3)),
 oP 28 (.idxSl 1 (.t 26) (.t 27)),
 oQ 29 (.loadN false 1 (.t 28) [8]),
 oP 30 (.bin .leq (.t 24) (.t 29)),
 ⟨none, .storeR 16 (.t 8) (.t 19) [4], none, none, []⟩,
 oP 9 (.move (.t 30))])
 (.ret)))⟩
/-- slices.IndexFunc[[]almadraba/api.SaleBid,almadraba/api.SaleBid] -/
def f141 : AFn := ⟨19, [.tmp 4],
 .seq (.region 0 [oP 4 (.move (.c (.int .i64 0)))])
 (.seq (.seq (.region 0 [oP 6 (.move (.t 0)),
 oP 7 (.lenS (.t 6)),
 oP 8 (.move (.c (.int .i64 0)))])
 (.block 0 (.loop (.seq (.region 0 [oP 9 (.bin .lss (.t 8) (.t 7))])
 (.seq (.cond (.t 9) (.skip)
 (.exit 0))
 (.seq (.block 1 (.seq (.region 0 [oP 10 (.move (.t 8)),
 oP 5 (.move (.t 10))])
 (.seq (.region 0 [oP 11 (.move (.t 1)),
 oP 12 (.move (.t 0)),
 oP 13 (.move (.t 5)),
 oP 14 (.idxSl 3 (.t 12) (.t 13)),
 oQ 15 (.load true 3 (.t 14)),
 oQ 16 (.callv true (.t 11) [(.t 15)])])
 (.cond (.t 16) (.seq (.region 0 [oP 17 (.move (.t 5)),
 oP 4 (.move (.t 17))])
 (.ret))
 (.skip)))))
 (.region 0 [oP 18 (.bin .add (.t 8) (.c (.int .i64 1))),
 oP 8 (.move (.t 18))])))))))
 (.seq (.region 0 [oP 4 (.move (.c (.int .i64 (-1))))])
 (.ret)))⟩
/-- almadraba/salt.within -/
def f142 : AFn := ⟨15, [.tmp 6],
 .seq (.region 0 [oP 6 (.move (.c (.bool false)))])
 (.seq (.region 0 [oP 7 (.move (.t 1)),
 oP 8 (.move (.t 0)),
 oP 9 (.bin .leq (.t 7) (.t 8)),
 oP 10 (.move (.t 9)),
 oG 11 10 true (.move (.t 0)),
 oG 12 10 true (.move (.t 2)),
 oG 13 10 true (.bin .leq (.t 11) (.t 12)),
 oP 14 (.pick (.t 10) (.t 13) (.c (.bool false))),
 oP 6 (.move (.t 14))])
 (.ret))⟩
/-- (almadraba/salt.house).valid$1 -/
def f144 : AFn := ⟨11, [.tmp 2],
 .seq (.region 0 [oQ 1 (.box (.t 0)),
 oP 2 (.move (.c (.bool false)))])
 (.seq (.region 0 [oP 3 (.fieldAddr 0 (.t 1)),
 oQ 4 (.load false 1 (.t 3)),
 oQ 5 (.call 1 142 [(.t 4), (.c (.int .i64 0)), (.c (.int .i64 9))]),
 oP 6 (.move (.t 5)),
 oG 7 6 true (.fieldAddr 1 (.t 1)),
 ⟨(some 8), .load false 1 (.t 7), (some (6, true)), none, []⟩,
 ⟨(some 9), .call 1 142 [(.t 8), (.c (.int .i64 0)), (.c (.int .i64 20))], (some (6, true)), none, []⟩,
 oP 10 (.pick (.t 6) (.t 9) (.c (.bool false))),
 oP 2 (.move (.t 10))])
 (.ret))⟩
/-- (almadraba/salt.house).valid$2 -/
def f145 : AFn := ⟨16, [.tmp 3],
 .seq (.region 0 [oQ 2 (.box (.t 0)),
 oP 3 (.move (.c (.bool false)))])
 (.seq (.region 0 [oP 4 (.fieldAddr 0 (.t 2)),
 oQ 5 (.load false 1 (.t 4)),
 oP 6 (.fieldAddr 0 (.t 1)),
 oQ 7 (.load false 1 (.t 6)),
 oP 8 (.lenS (.t 7)),
 oP 9 (.bin .sub (.t 8) (.c (.int .i64 1))),
 oQ 10 (.call 1 142 [(.t 5), (.c (.int .i64 0)), (.t 9)]),
 oP 11 (.move (.t 10)),
 oG 12 11 true (.fieldAddr 1 (.t 2)),
 ⟨(some 13), .load false 1 (.t 12), (some (11, true)), none, []⟩,
 ⟨(some 14), .call 1 142 [(.t 13), (.c (.int .i64 0)), (.c (.int .i64 40))], (some (11, true)), none, []⟩,
 oP 15 (.pick (.t 11) (.t 14) (.c (.bool false))),
 oP 3 (.move (.t 15))])
 (.ret))⟩
/-- (almadraba/salt.house).valid$3 -/
def f146 : AFn := ⟨5, [.tmp 2],
 .seq (.region 0 [oP 2 (.move (.c (.bool false)))])
 (.seq (.region 0 [oP 3 (.move (.t 0)),
 oQ 4 (.call 1 142 [(.t 3), (.c (.int .i64 0)), (.c (.int .i64 99))]),
 oP 2 (.move (.t 4))])
 (.ret))⟩
/-- almadraba/salt.each[almadraba/api.SaltKind] -/
def f147 : AFn := ⟨9, [.tmp 4],
 .seq (.region 0 [oQ 3 (.box (.t 1)),
 oP 4 (.move (.c (.bool false)))])
 (.seq (.region 0 [oP 5 (.move (.t 0)),
 oP 6 (.mkFn 153 [] [(.t 3)]),
 oQ 7 (.call 3 152 [(.t 5), (.t 6)]),
 oP 8 (.un .not (.t 7)),
 oP 4 (.move (.t 8))])
 (.ret))⟩
/-- almadraba/salt.each[almadraba/api.SaltPart] -/
def f148 : AFn := ⟨9, [.tmp 4],
 .seq (.region 0 [oQ 3 (.box (.t 1)),
 oP 4 (.move (.c (.bool false)))])
 (.seq (.region 0 [oP 5 (.move (.t 0)),
 oP 6 (.mkFn 155 [] [(.t 3)]),
 oQ 7 (.call 3 154 [(.t 5), (.t 6)]),
 oP 8 (.un .not (.t 7)),
 oP 4 (.move (.t 8))])
 (.ret))⟩
/-- almadraba/salt.each[int] -/
def f149 : AFn := ⟨9, [.tmp 4],
 .seq (.region 0 [oQ 3 (.box (.t 1)),
 oP 4 (.move (.c (.bool false)))])
 (.seq (.region 0 [oP 5 (.move (.t 0)),
 oP 6 (.mkFn 156 [] [(.t 3)]),
 oQ 7 (.call 3 107 [(.t 5), (.t 6)]),
 oP 8 (.un .not (.t 7)),
 oP 4 (.move (.t 8))])
 (.ret))⟩
/-- (almadraba/salt.house).fill -/
def f150 : AFn := ⟨52, [.cell true 4 6],
 .seq (.region 0 [oQ 3 (.box (.t 0)),
 oQ 4 (.box (.t 1)),
 oQ 6 (.alloc [.int .i64 0, .int .i64 0, .int .i64 0, .int .i64 0])])
 (.seq (.seq (.region 0 [oP 11 (.move (.t 2)),
 oP 12 (.lenS (.t 11)),
 oP 13 (.move (.c (.int .i64 0)))])
 (.block 0 (.loop (.seq (.region 0 [oP 14 (.bin .lss (.t 13) (.t 12))])
 (.seq (.cond (.t 14) (.skip)
 (.exit 0))
 (.seq (.block 1 (.seq (.region 0 [oP 15 (.idxSl 1 (.t 11) (.t 13)),
 oQ 16 (.load false 1 (.t 15)),
 oP 8 (.move (.t 16))])
 (.seq (.region 0 [oP 17 (.fieldAddr 2 (.t 3)),
 oQ 18 (.load false 1 (.t 17)),
 oP 19 (.move (.t 8)),
 oP 20 (.idxSl 2 (.t 18) (.t 19)),
 oQ 21 (.load true 2 (.t 20)),
 oQ 9 (.alloc [.int .i64 0, .int .i64 0]),
 ⟨none, .store 2 (.t 9) (.t 21), none, none, []⟩])
 (.seq (.region 0 [oP 22 (.fieldAddr 0 (.t 3)),
 oQ 23 (.load false 1 (.t 22)),
 oP 24 (.fieldAddr 0 (.t 9)),
 oQ 25 (.load false 1 (.t 24)),
 oP 26 (.idxSl 2 (.t 23) (.t 25)),
 oQ 27 (.load true 2 (.t 26)),
 oQ 10 (.alloc [.int .i64 0, .int .i64 0]),
 ⟨none, .store 2 (.t 10) (.t 27), none, none, []⟩])
 (.seq (.region 0 [oP 28 (.fieldAddr 0 (.t 4)),
 oQ 29 (.load false 1 (.t 28)),
 oP 30 (.bin .add (.t 29) (.c (.int .i64 1))),
 oP 31 (.fieldAddr 0 (.t 4)),
 ⟨none, .store 1 (.t 31) (.t 30), none, none, []⟩])
 (.seq (.region 0 [oP 32 (.fieldAddr 1 (.t 4)),
 oQ 33 (.load false 1 (.t 32)),
 oP 34 (.fieldAddr 1 (.t 9)),
 oQ 35 (.load false 1 (.t 34)),
 oP 36 (.bin .add (.t 33) (.t 35)),
 oP 37 (.fieldAddr 1 (.t 4)),
 ⟨none, .store 1 (.t 37) (.t 36), none, none, []⟩])
 (.seq (.region 0 [oP 38 (.fieldAddr 2 (.t 4)),
 oQ 39 (.load false 1 (.t 38)),
 oP 40 (.fieldAddr 0 (.t 10)),
 oQ 41 (.load false 1 (.t 40)),
 oP 42 (.minmax true (.t 39) [(.t 41)]),
 oP 43 (.fieldAddr 2 (.t 4)),
 ⟨none, .store 1 (.t 43) (.t 42), none, none, []⟩])
 (.region 0 [oP 44 (.fieldAddr 3 (.t 4)),
 oQ 45 (.load false 1 (.t 44)),
 oP 46 (.fieldAddr 1 (.t 10)),
 oQ 47 (.load false 1 (.t 46)),
 oP 48 (.minmax true (.t 45) [(.t 47)]),
 oP 49 (.fieldAddr 3 (.t 4)),
 ⟨none, .store 1 (.t 49) (.t 48), none, none, []⟩]))))))))
 (.region 0 [oP 50 (.bin .add (.t 13) (.c (.int .i64 1))),
 oP 13 (.move (.t 50))])))))))
 (.seq (.region 0 [oQ 51 (.load true 4 (.t 4)),
 ⟨none, .store 4 (.t 6) (.t 51), none, none, []⟩])
 (.ret)))⟩
/-- (almadraba/salt.house).needs -/
def f151 : AFn := ⟨11, [.tmp 4],
 .seq (.region 0 [oQ 2 (.box (.t 0)),
 oQ 3 (.box (.t 1)),
 oP 4 (.move (.c (.int .i64 0)))])
 (.seq (.region 0 [oP 5 (.fieldAddr 1 (.t 3)),
 oQ 6 (.load false 1 (.t 5)),
 oQ 7 (.load true 4 (.t 2)),
 oQ 8 (.load true 4 (.t 3)),
 oQ 9 (.call 1 136 [(.t 7), (.t 8)]),
 oP 10 (.bin .add (.t 6) (.t 9)),
 oP 4 (.move (.t 10))])
 (.ret))⟩
/-- slices.ContainsFunc[[]almadraba/api.SaltKind,almadraba/api.SaltKind] -/
def f152 : AFn := ⟨9, [.tmp 4],
 .seq (.region 0 [oP 4 (.move (.c (.bool false)))])
 (.seq (.region 0 [oP 5 (.move (.t 0)),
 oP 6 (.move (.t 1)),
 oQ 7 (.call 3 157 [(.t 5), (.t 6)]),
 oP 8 (.bin .geq (.t 7) (.c (.int .i64 0))),
 oP 4 (.move (.t 8))])
 (.ret))⟩
/-- almadraba/salt.each[almadraba/api.SaltKind]$1 -/
def f153 : AFn := ⟨8, [.tmp 3],
 .seq (.region 0 [oQ 2 (.box (.t 0)),
 oP 3 (.move (.c (.bool false)))])
 (.seq (.region 0 [oQ 4 (.load false 1 (.t 1)),
 oQ 5 (.load true 2 (.t 2)),
 oQ 6 (.callv true (.t 4) [(.t 5)]),
 oP 7 (.un .not (.t 6)),
 oP 3 (.move (.t 7))])
 (.ret))⟩
/-- slices.ContainsFunc[[]almadraba/api.SaltPart,almadraba/api.SaltPart] -/
def f154 : AFn := ⟨9, [.tmp 4],
 .seq (.region 0 [oP 4 (.move (.c (.bool false)))])
 (.seq (.region 0 [oP 5 (.move (.t 0)),
 oP 6 (.move (.t 1)),
 oQ 7 (.call 3 158 [(.t 5), (.t 6)]),
 oP 8 (.bin .geq (.t 7) (.c (.int .i64 0))),
 oP 4 (.move (.t 8))])
 (.ret))⟩
/-- almadraba/salt.each[almadraba/api.SaltPart]$1 -/
def f155 : AFn := ⟨8, [.tmp 3],
 .seq (.region 0 [oQ 2 (.box (.t 0)),
 oP 3 (.move (.c (.bool false)))])
 (.seq (.region 0 [oQ 4 (.load false 1 (.t 1)),
 oQ 5 (.load true 2 (.t 2)),
 oQ 6 (.callv true (.t 4) [(.t 5)]),
 oP 7 (.un .not (.t 6)),
 oP 3 (.move (.t 7))])
 (.ret))⟩
/-- almadraba/salt.each[int]$1 -/
def f156 : AFn := ⟨8, [.tmp 3],
 .seq (.region 0 [oP 3 (.move (.c (.bool false)))])
 (.seq (.region 0 [oQ 4 (.load false 1 (.t 1)),
 oP 5 (.move (.t 0)),
 oQ 6 (.callv true (.t 4) [(.t 5)]),
 oP 7 (.un .not (.t 6)),
 oP 3 (.move (.t 7))])
 (.ret))⟩
/-- slices.IndexFunc[[]almadraba/api.SaltKind,almadraba/api.SaltKind] -/
def f157 : AFn := ⟨19, [.tmp 4],
 .seq (.region 0 [oP 4 (.move (.c (.int .i64 0)))])
 (.seq (.seq (.region 0 [oP 6 (.move (.t 0)),
 oP 7 (.lenS (.t 6)),
 oP 8 (.move (.c (.int .i64 0)))])
 (.block 0 (.loop (.seq (.region 0 [oP 9 (.bin .lss (.t 8) (.t 7))])
 (.seq (.cond (.t 9) (.skip)
 (.exit 0))
 (.seq (.block 1 (.seq (.region 0 [oP 10 (.move (.t 8)),
 oP 5 (.move (.t 10))])
 (.seq (.region 0 [oP 11 (.move (.t 1)),
 oP 12 (.move (.t 0)),
 oP 13 (.move (.t 5)),
 oP 14 (.idxSl 2 (.t 12) (.t 13)),
 oQ 15 (.load true 2 (.t 14)),
 oQ 16 (.callv true (.t 11) [(.t 15)])])
 (.cond (.t 16) (.seq (.region 0 [oP 17 (.move (.t 5)),
 oP 4 (.move (.t 17))])
 (.ret))
 (.skip)))))
 (.region 0 [oP 18 (.bin .add (.t 8) (.c (.int .i64 1))),
 oP 8 (.move (.t 18))])))))))
 (.seq (.region 0 [oP 4 (.move (.c (.int .i64 (-1))))])
 (.ret)))⟩
/-- slices.IndexFunc[[]almadraba/api.SaltPart,almadraba/api.SaltPart] -/
def f158 : AFn := ⟨19, [.tmp 4],
 .seq (.region 0 [oP 4 (.move (.c (.int .i64 0)))])
 (.seq (.seq (.region 0 [oP 6 (.move (.t 0)),
 oP 7 (.lenS (.t 6)),
 oP 8 (.move (.c (.int .i64 0)))])
 (.block 0 (.loop (.seq (.region 0 [oP 9 (.bin .lss (.t 8) (.t 7))])
 (.seq (.cond (.t 9) (.skip)
 (.exit 0))
 (.seq (.block 1 (.seq (.region 0 [oP 10 (.move (.t 8)),
 oP 5 (.move (.t 10))])
 (.seq (.region 0 [oP 11 (.move (.t 1)),
 oP 12 (.move (.t 0)),
 oP 13 (.move (.t 5)),
 oP 14 (.idxSl 2 (.t 12) (.t 13)),
 oQ 15 (.load true 2 (.t 14)),
 oQ 16 (.callv true (.t 11) [(.t 15)])])
 (.cond (.t 16) (.seq (.region 0 [oP 17 (.move (.t 5)),
 oP 4 (.move (.t 17))])
 (.ret))
 (.skip)))))
 (.region 0 [oP 18 (.bin .add (.t 8) (.c (.int .i64 1))),
 oP 8 (.move (.t 18))])))))))
 (.seq (.region 0 [oP 4 (.move (.c (.int .i64 (-1))))])
 (.ret)))⟩
end Go.Proofs.YtfagcnokdnanpaaGreat.T
