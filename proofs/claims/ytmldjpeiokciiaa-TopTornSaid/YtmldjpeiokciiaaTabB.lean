/-
The code of functions of the seat, as the abstract machine has it (printed by a tool of ours off the dump).
-/
import Derived.Test.YtmldjpeiokciiaaTabA
namespace Go.Proofs.Ytmldjpeiokciiaa.T
open Go Go.Am
/-- almadraba/anchors.roughest -/
def f34 : AFn := ⟨5, [.cell true 10 2],
 .seq (.region 0 [oQ 1 (.box (.t 0)),
 oQ 2 (.alloc [.int .i64 0, .int .i64 0, .int .i64 0, .int .i64 0, .nils, .nils, .nils, .int .i64 0, .int .i64 0, .nils])])
 (.seq (.region 0 [oQ 3 (.load true 7 (.t 1)),
 oQ 4 (.call 0 48 [(.t 3), (.c (.fn 49 [] [])), (.c (.fn 50 [] []))]),
 ⟨none, .store 10 (.t 2) (.t 4), none, none, []⟩])
 (.ret))⟩
/-- (almadraba/anchors.net).leastWind -/
def f35 : AFn := ⟨15, [.tmp 2],
 .seq (.region 0 [oQ 1 (.box (.t 0)),
 oP 2 (.move (.c (.int .i64 0)))])
 (.seq (.seq (.region 0 [oP 4 (.move (.c (.int .i64 0)))])
 (.block 0 (.loop (.seq (.region 0 [oP 5 (.bin .lss (.t 4) (.c (.int .i64 21)))])
 (.seq (.cond (.t 5) (.skip)
 (.exit 0))
 (.seq (.block 1 (.seq (.region 0 [oP 6 (.move (.t 4)),
 oP 3 (.move (.t 6))])
 (.seq (.region 0 [oP 7 (.move (.t 3)),
 oP 8 (.fieldAddr 7 (.t 1)),
 oP 9 (.fieldAddr 0 (.t 8)),
 ⟨none, .store 1 (.t 9) (.t 7), none, none, []⟩])
 (.seq (.region 0 [oQ 10 (.load true 10 (.t 1)),
 oQ 11 (.call 1 51 [(.t 10)]),
 oP 12 (.un .not (.t 11))])
 (.cond (.t 12) (.seq (.region 0 [oP 13 (.move (.t 3)),
 oP 2 (.move (.t 13))])
 (.ret))
 (.skip))))))
 (.region 0 [oP 14 (.bin .add (.t 4) (.c (.int .i64 1))),
 oP 4 (.move (.t 14))])))))))
 (.seq (.region 0 [oP 2 (.move (.c (.int .i64 21)))])
 (.ret)))⟩
/-- almadraba/anchors.fit -/
def f36 : AFn := ⟨13, [.tmp 4],
 .seq (.region 0 [oQ 2 (.box (.t 0)),
 oP 4 (.move (.c (.int .i64 0)))])
 (.seq (.seq (.region 0 [oQ 6 (.load true 7 (.t 2)),
 oQ 7 (.call 1 32 [(.t 6)]),
 oP 5 (.move (.t 7))])
 (.seq (.region 0 [oP 8 (.move (.t 5)),
 oP 9 (.bin .neq (.t 8) (.c (.int .i64 0)))])
 (.cond (.t 9) (.seq (.region 0 [oP 10 (.move (.t 5)),
 oP 4 (.move (.t 10))])
 (.ret))
 (.skip))))
 (.seq (.seq (.region 0 [oP 11 (.move (.t 1)),
 oP 12 (.un .not (.t 11))])
 (.cond (.t 12) (.seq (.region 0 [oP 4 (.move (.c (.int .i64 1)))])
 (.ret))
 (.skip)))
 (.seq (.region 0 [oP 4 (.move (.c (.int .i64 0)))])
 (.ret))))⟩
/-- almadraba/anchors.isTruth -/
def f37 : AFn := ⟨47, [.tmp 4],
 .seq (.region 0 [oQ 2 (.box (.t 0)),
 oQ 3 (.box (.t 1)),
 oP 4 (.move (.c (.bool false)))])
 (.seq (.seq (.region 0 [oP 7 (.fieldAddr 0 (.t 2)),
 oQ 8 (.load true 2 (.t 7)),
 oP 9 (.fieldAddr 0 (.t 3)),
 oQ 10 (.load false 1 (.t 9)),
 oQ 11 (.call 1 52 [(.t 8), (.t 10)]),
 oP 12 (.un .not (.t 11)),
 oP 13 (.move (.t 12)),
 oG 14 13 false (.fieldAddr 2 (.t 2)),
 ⟨(some 15), .load true 2 (.t 14), (some (13, false)), none, []⟩,
 oG 16 13 false (.fieldAddr 1 (.t 3)),
 ⟨(some 17), .load false 1 (.t 16), (some (13, false)), none, []⟩,
 ⟨(some 18), .call 1 52 [(.t 15), (.t 17)], (some (13, false)), none, []⟩,
 oG 19 13 false (.un .not (.t 18)),
 oP 20 (.pick (.t 13) (.c (.bool true)) (.t 19)),
 oP 21 (.move (.t 20)),
 oG 22 21 false (.fieldAddr 2 (.t 3)),
 ⟨(some 23), .load false 1 (.t 22), (some (21, false)), none, []⟩,
 oG 24 21 false (.lenS (.t 23)),
 oG 25 21 false (.fieldAddr 4 (.t 2)),
 ⟨(some 26), .load false 1 (.t 25), (some (21, false)), none, []⟩,
 oG 27 21 false (.lenS (.t 26)),
 oG 28 21 false (.bin .neq (.t 24) (.t 27)),
 oP 29 (.pick (.t 21) (.c (.bool true)) (.t 28))])
 (.cond (.t 29) (.seq (.region 0 [oP 4 (.move (.c (.bool false)))])
 (.ret))
 (.skip)))
 (.seq (.seq (.region 0 [oP 30 (.fieldAddr 2 (.t 3)),
 oQ 31 (.load false 1 (.t 30)),
 oP 32 (.lenS (.t 31)),
 oP 33 (.move (.c (.int .i64 0)))])
 (.block 0 (.loop (.seq (.region 0 [oP 34 (.bin .lss (.t 33) (.t 32))])
 (.seq (.cond (.t 34) (.skip)
 (.exit 0))
 (.seq (.block 1 (.seq (.region 0 [oP 35 (.move (.t 33)),
 oP 36 (.idxSl 1 (.t 31) (.t 33)),
 oQ 37 (.load false 1 (.t 36)),
 oP 5 (.move (.t 35)),
 oP 6 (.move (.t 37))])
 (.seq (.region 0 [oP 38 (.fieldAddr 4 (.t 2)),
 oQ 39 (.load false 1 (.t 38)),
 oP 40 (.move (.t 5)),
 oP 41 (.idxSl 2 (.t 39) (.t 40)),
 oQ 42 (.load true 2 (.t 41)),
 oP 43 (.move (.t 6)),
 oQ 44 (.call 1 52 [(.t 42), (.t 43)]),
 oP 45 (.un .not (.t 44))])
 (.cond (.t 45) (.seq (.region 0 [oP 4 (.move (.c (.bool false)))])
 (.ret))
 (.skip)))))
 (.region 0 [oP 46 (.bin .add (.t 33) (.c (.int .i64 1))),
 oP 33 (.move (.t 46))])))))))
 (.seq (.region 0 [oP 4 (.move (.c (.bool true)))])
 (.ret))))⟩
/-- (almadraba/anchors.net).drags -/
def f38 : AFn := ⟨33, [.cell true 6 4],
 .seq (.region 0 [oQ 2 (.box (.t 0)),
 oQ 3 (.box (.t 1)),
 oQ 4 (.alloc [.bool false, .bool false, .bool false, .bool false, .bool false, .bool false])])
 (.seq (.seq (.region 0 [oP 6 (.fieldAddr 0 (.t 2)),
 oP 7 (.fieldAddr 5 (.t 6)),
 oQ 8 (.load false 1 (.t 7)),
 oP 9 (.lenS (.t 8)),
 oP 10 (.move (.c (.int .i64 0)))])
 (.block 0 (.loop (.seq (.region 0 [oP 11 (.bin .lss (.t 10) (.t 9))])
 (.seq (.cond (.t 11) (.skip)
 (.exit 0))
 (.seq (.block 1 (.seq (.region 0 [oP 12 (.fieldAddr 0 (.t 2)),
 oP 13 (.fieldAddr 5 (.t 12)),
 oQ 14 (.load false 1 (.t 13)),
 oP 15 (.lenS (.t 14)),
 oP 16 (.move (.c (.int .i64 0)))])
 (.block 2 (.loop (.seq (.region 0 [oP 17 (.bin .lss (.t 16) (.t 15))])
 (.seq (.cond (.t 17) (.skip)
 (.exit 2))
 (.seq (.block 3 (.seq (.region 0 [oP 18 (.move (.t 16)),
 oP 5 (.move (.t 18))])
 (.seq (.region 0 [oP 19 (.move (.t 5)),
 oP 20 (.idxArr 6 1 (.t 3) (.t 19)),
 oQ 21 (.load false 1 (.t 20)),
 oP 22 (.un .not (.t 21))])
 (.cond (.t 22) (.region 0 [oP 23 (.move (.t 5)),
 oQ 24 (.load true 10 (.t 2)),
 oP 25 (.move (.t 5)),
 oQ 26 (.load true 6 (.t 3)),
 oQ 27 (.call 1 53 [(.t 24), (.t 25), (.t 26)]),
 oP 28 (.bin .lss (.t 27) (.c (.int .i64 0))),
 oP 29 (.idxArr 6 1 (.t 3) (.t 23)),
 ⟨none, .store 1 (.t 29) (.t 28), none, none, []⟩])
 (.skip)))))
 (.region 0 [oP 30 (.bin .add (.t 16) (.c (.int .i64 1))),
 oP 16 (.move (.t 30))]))))))))
 (.region 0 [oP 31 (.bin .add (.t 10) (.c (.int .i64 1))),
 oP 10 (.move (.t 31))])))))))
 (.seq (.region 0 [oQ 32 (.load true 6 (.t 3)),
 ⟨none, .store 6 (.t 4) (.t 32), none, none, []⟩])
 (.ret)))⟩
/-- (almadraba/anchors.moved).list -/
def f39 : AFn := ⟨18, [.tmp 2],
 .seq (.region 0 [oQ 1 (.box (.t 0)),
 oP 2 (.move (.c (.nils)))])
 (.seq (.region 0 [oP 3 (.move (.c (.nils)))])
 (.seq (.seq (.region 0 [oQ 6 (.load true 6 (.t 1)),
 oP 7 (.move (.c (.int .i64 0)))])
 (.block 0 (.loop (.seq (.region 0 [oP 8 (.bin .lss (.t 7) (.c (.int .i64 6)))])
 (.seq (.cond (.t 8) (.skip)
 (.exit 0))
 (.seq (.block 1 (.seq (.region 0 [oP 9 (.move (.t 7)),
 oP 10 (.idx false 6 1 (.t 6) (.t 7)),
 oP 4 (.move (.t 9)),
 oP 5 (.move (.t 10))])
 (.seq (.region 0 [oP 11 (.move (.t 5))])
 (.cond (.t 11) (.region 0 [oP 12 (.move (.t 3)),
 oP 13 (.move (.t 4)),
 oQ 14 (.litS 1 1 [.int .i64 0] [(0, (.t 13))]),
 oQ 15 (.append false 1 8 (.t 12) (.t 14)),
 oP 3 (.move (.t 15))])
 (.skip)))))
 (.region 0 [oP 16 (.bin .add (.t 7) (.c (.int .i64 1))),
 oP 7 (.move (.t 16))])))))))
 (.seq (.region 0 [oP 17 (.move (.t 3)),
 oP 2 (.move (.t 17))])
 (.ret))))⟩
/-- almadraba/mesh.valid -/
def f40 : AFn := ⟨38, [.tmp 2],
 .seq (.region 0 [oQ 1 (.box (.t 0)),
 oP 2 (.move (.c (.bool false)))])
 (.seq (.region 0 [oP 3 (.move (.c (.fn 54 [] [])))])
 (.seq (.region 0 [oP 5 (.mkFn 56 [] [(.t 1)]),
 oP 4 (.move (.t 5))])
 (.seq (.region 0 [oP 6 (.fieldAddr 0 (.t 1)),
 oQ 7 (.load false 1 (.t 6)),
 oQ 8 (.call 1 55 [(.t 7), (.c (.int .i64 1)), (.c (.int .i64 3))]),
 oP 9 (.move (.t 8)),
 oG 10 9 true (.fieldAddr 1 (.t 1)),
 ⟨(some 11), .load false 1 (.t 10), (some (9, true)), none, []⟩,
 oG 12 9 true (.lenS (.t 11)),
 oG 13 9 true (.bin .leq (.t 12) (.c (.int .i64 6))),
 oP 14 (.pick (.t 9) (.t 13) (.c (.bool false))),
 oP 15 (.move (.t 14)),
 oG 16 15 true (.fieldAddr 1 (.t 1)),
 ⟨(some 17), .load false 1 (.t 16), (some (15, true)), none, []⟩,
 oG 18 15 true (.move (.t 3)),
 ⟨(some 19), .call 1 58 [(.t 17), (.t 18)], (some (15, true)), none, []⟩,
 oP 20 (.pick (.t 15) (.t 19) (.c (.bool false))),
 oP 21 (.move (.t 20)),
 oG 22 21 true (.fieldAddr 2 (.t 1)),
 ⟨(some 23), .load false 1 (.t 22), (some (21, true)), none, []⟩,
 oG 24 21 true (.lenS (.t 23)),
 oG 25 21 true (.bin .leq (.t 24) (.c (.int .i64 8))),
 oP 26 (.pick (.t 21) (.t 25) (.c (.bool false))),
 oP 27 (.move (.t 26)),
 oG 28 27 true (.fieldAddr 2 (.t 1)),
 ⟨(some 29), .load false 1 (.t 28), (some (27, true)), none, []⟩,
 oG 30 27 true (.move (.t 4)),
 ⟨(some 31), .call 3 59 [(.t 29), (.t 30)], (some (27, true)), none, []⟩,
 oP 32 (.pick (.t 27) (.t 31) (.c (.bool false))),
 oP 33 (.move (.t 32)),
 ⟨(some 34), .load true 3 (.t 1), (some (33, true)), none, []⟩,
 oG 35 33 true (.build [.int .i64 0, .nils, .nils] [(0, 3, (.t 34))]),
 ⟨(some 36), .call 1 60 [(.t 35)], (some (33, true)), none, []⟩,
 oP 37 (.pick (.t 33) (.t 36) (.c (.bool false))),
 oP 2 (.move (.t 37))])
 (.ret))))⟩
/-- (almadraba/mesh.plan).orders -/
def f41 : AFn := ⟨7, [],
 .seq (.region 0 [oQ 2 (.box (.t 0))])
 (.region 0 [oQ 4 (.load true 3 (.t 2)),
 oP 5 (.move (.t 1)),
 oQ 6 (.call 0 61 [(.t 4), (.c (.nils)), (.t 5)])])⟩
/-- (*almadraba/mesh.least[[]int]).see -/
def f42 : AFn := ⟨24, [],
 .seq (.region 0 [oP 6 (.move (.t 0)),
 oP 7 (.nilCheck (.t 6)),
 oP 8 (.fieldAddr 2 (.t 7)),
 oQ 9 (.load false 1 (.t 8)),
 oP 10 (.un .not (.t 9)),
 oP 11 (.move (.t 10)),
 oG 12 11 false (.move (.t 2)),
 oG 13 11 false (.move (.t 0)),
 oG 14 11 false (.nilCheck (.t 13)),
 oG 15 11 false (.fieldAddr 0 (.t 14)),
 ⟨(some 16), .load false 1 (.t 15), (some (11, false)), none, []⟩,
 oG 17 11 false (.bin .lss (.t 12) (.t 16)),
 oP 18 (.pick (.t 11) (.c (.bool true)) (.t 17))])
 (.cond (.t 18) (.region 0 [oP 19 (.move (.t 0)),
 oP 20 (.move (.t 2)),
 oP 21 (.move (.t 1)),
 oP 22 (.build [.int .i64 0, .nils, .bool false] [(0, 1, (.t 20)), (1, 1, (.t 21)), (2, 1, (.c (.bool true)))]),
 oP 23 (.nilCheck (.t 19)),
 ⟨none, .store 3 (.t 23) (.t 22), none, none, []⟩])
 (.skip))⟩
/-- (almadraba/mesh.plan).lost -/
def f43 : AFn := ⟨48, [.cell true 2 4],
 .seq (.region 0 [oQ 2 (.box (.t 0)),
 oQ 4 (.alloc [.int .i64 0, .int .i64 0])])
 (.seq (.region 0 [oQ 5 (.alloc [.int .i64 0, .int .i64 0])])
 (.seq (.region 0 [oQ 10 (.load true 3 (.t 2)),
 oP 11 (.move (.t 1)),
 oQ 12 (.call 1 44 [(.t 10), (.t 11)]),
 oQ 6 (.alloc [.int .i64 0, .int .i64 0, .int .i64 0, .int .i64 0, .int .i64 0, .int .i64 0]),
 ⟨none, .store 6 (.t 6) (.t 12), none, none, []⟩])
 (.seq (.seq (.region 0 [oP 13 (.fieldAddr 0 (.t 2)),
 oP 14 (.fieldAddr 1 (.t 13)),
 oQ 15 (.load false 1 (.t 14)),
 oP 16 (.lenS (.t 15)),
 oP 17 (.move (.c (.int .i64 0)))])
 (.block 0 (.loop (.seq (.region 0 [oP 18 (.bin .lss (.t 17) (.t 16))])
 (.seq (.cond (.t 18) (.skip)
 (.exit 0))
 (.seq (.block 1 (.seq (.region 0 [oP 19 (.move (.t 17)),
 oP 20 (.idxSl 4 (.t 15) (.t 17)),
 oQ 21 (.load true 4 (.t 20)),
 oQ 8 (.alloc [.int .i64 0, .int .i64 0, .int .i64 0, .int .i64 0]),
 oP 7 (.move (.t 19)),
 ⟨none, .store 4 (.t 8) (.t 21), none, none, []⟩])
 (.seq (.region 0 [oP 22 (.move (.t 7)),
 oP 23 (.idxArr 6 1 (.t 6) (.t 22)),
 oQ 24 (.load false 1 (.t 23)),
 oP 25 (.fieldAddr 0 (.t 8)),
 oQ 26 (.load false 1 (.t 25)),
 oP 27 (.bin .sub (.t 24) (.t 26)),
 oP 9 (.move (.t 27))])
 (.seq (.region 0 [oP 28 (.fieldAddr 0 (.t 5)),
 oQ 29 (.load false 1 (.t 28)),
 oP 30 (.fieldAddr 1 (.t 8)),
 oP 31 (.fieldAddr 0 (.t 30)),
 oQ 32 (.load false 1 (.t 31)),
 oP 33 (.move (.t 9)),
 oP 34 (.bin .mul (.t 32) (.t 33)),
 oP 35 (.bin .add (.t 29) (.t 34)),
 oP 36 (.fieldAddr 0 (.t 5)),
 ⟨none, .store 1 (.t 36) (.t 35), none, none, []⟩])
 (.region 0 [oP 37 (.fieldAddr 1 (.t 5)),
 oQ 38 (.load false 1 (.t 37)),
 oP 39 (.fieldAddr 1 (.t 8)),
 oP 40 (.fieldAddr 1 (.t 39)),
 oQ 41 (.load false 1 (.t 40)),
 oP 42 (.move (.t 9)),
 oP 43 (.bin .mul (.t 41) (.t 42)),
 oP 44 (.bin .add (.t 38) (.t 43)),
 oP 45 (.fieldAddr 1 (.t 5)),
 ⟨none, .store 1 (.t 45) (.t 44), none, none, []⟩])))))
 (.region 0 [oP 46 (.bin .add (.t 17) (.c (.int .i64 1))),
 oP 17 (.move (.t 46))])))))))
 (.seq (.region 0 [oQ 47 (.load true 2 (.t 5)),
 ⟨none, .store 2 (.t 4) (.t 47), none, none, []⟩])
 (.ret)))))⟩
/-- (almadraba/mesh.plan).times -/
def f44 : AFn := ⟨75, [.cell true 6 4],
 .seq (.region 0 [oQ 2 (.box (.t 0)),
 oQ 4 (.alloc [.int .i64 0, .int .i64 0, .int .i64 0, .int .i64 0, .int .i64 0, .int .i64 0])])
 (.seq (.region 0 [oQ 5 (.alloc [.int .i64 0, .int .i64 0, .int .i64 0, .int .i64 0, .int .i64 0, .int .i64 0])])
 (.seq (.region 0 [oP 13 (.fieldAddr 0 (.t 2)),
 oP 14 (.fieldAddr 0 (.t 13)),
 oQ 15 (.load false 1 (.t 14)),
 oQ 16 (.makeSlice 1 8 [.int .i64 0] (.t 15) (.t 15)),
 oP 6 (.move (.t 16))])
 (.seq (.seq (.region 0 [oP 17 (.move (.t 1)),
 oP 18 (.lenS (.t 17)),
 oP 19 (.move (.c (.int .i64 0)))])
 (.block 0 (.loop (.seq (.region 0 [oP 20 (.bin .lss (.t 19) (.t 18))])
 (.seq (.cond (.t 20) (.skip)
 (.exit 0))
 (.seq (.block 1 (.seq (.region 0 [oP 21 (.idxSl 1 (.t 17) (.t 19)),
 oQ 22 (.load false 1 (.t 21)),
 oP 8 (.move (.t 22))])
 (.seq (.region 0 [oP 23 (.move (.t 6)),
 oQ 24 (.call 1 62 [(.t 23)]),
 oP 9 (.move (.t 24))])
 (.seq (.region 0 [oP 25 (.move (.t 6)),
 oP 26 (.move (.t 9)),
 oP 27 (.idxSl 1 (.t 25) (.t 26)),
 oQ 28 (.load false 1 (.t 27)),
 oP 29 (.fieldAddr 0 (.t 2)),
 oP 30 (.fieldAddr 1 (.t 29)),
 oQ 31 (.load false 1 (.t 30)),
 oP 32 (.move (.t 8)),
 oP 33 (.idxSl 4 (.t 31) (.t 32)),
 oP 34 (.fieldAddr 0 (.t 33)),
 oQ 35 (.load false 1 (.t 34)),
 oP 36 (.minmax true (.t 28) [(.t 35)]),
 oP 10 (.move (.t 36))])
 (.seq (.seq (.region 0 [oP 37 (.fieldAddr 0 (.t 2)),
 oP 38 (.fieldAddr 2 (.t 37)),
 oQ 39 (.load false 1 (.t 38)),
 oP 40 (.lenS (.t 39)),
 oP 41 (.move (.c (.int .i64 0)))])
 (.block 2 (.loop (.seq (.region 0 [oP 42 (.bin .lss (.t 41) (.t 40))])
 (.seq (.cond (.t 42) (.skip)
 (.exit 2))
 (.seq (.block 3 (.seq (.region 0 [oP 43 (.idxSl 2 (.t 39) (.t 41)),
 oQ 44 (.load true 2 (.t 43)),
 oQ 12 (.alloc [.int .i64 0, .int .i64 0]),
 ⟨none, .store 2 (.t 12) (.t 44), none, none, []⟩])
 (.seq (.region 0 [oP 45 (.fieldAddr 1 (.t 12)),
 oQ 46 (.load false 1 (.t 45)),
 oP 47 (.move (.t 8)),
 oP 48 (.bin .eql (.t 46) (.t 47))])
 (.cond (.t 48) (.region 0 [oP 49 (.move (.t 10)),
 oP 50 (.fieldAddr 0 (.t 12)),
 oQ 51 (.load false 1 (.t 50)),
 oP 52 (.idxArr 6 1 (.t 5) (.t 51)),
 oQ 53 (.load false 1 (.t 52)),
 oP 54 (.minmax true (.t 49) [(.t 53)]),
 oP 10 (.move (.t 54))])
 (.skip)))))
 (.region 0 [oP 55 (.bin .add (.t 41) (.c (.int .i64 1))),
 oP 41 (.move (.t 55))])))))))
 (.seq (.region 0 [oP 56 (.move (.t 8)),
 oP 57 (.move (.t 10)),
 oP 58 (.fieldAddr 0 (.t 2)),
 oP 59 (.fieldAddr 1 (.t 58)),
 oQ 60 (.load false 1 (.t 59)),
 oP 61 (.move (.t 8)),
 oP 62 (.idxSl 4 (.t 60) (.t 61)),
 oP 63 (.fieldAddr 3 (.t 62)),
 oQ 64 (.load false 1 (.t 63)),
 oP 65 (.bin .add (.t 57) (.t 64)),
 oP 66 (.idxArr 6 1 (.t 5) (.t 56)),
 ⟨none, .store 1 (.t 66) (.t 65), none, none, []⟩])
 (.region 0 [oP 67 (.move (.t 6)),
 oP 68 (.move (.t 9)),
 oP 69 (.move (.t 8)),
 oP 70 (.idxArr 6 1 (.t 5) (.t 69)),
 oQ 71 (.load false 1 (.t 70)),
 oP 72 (.idxSl 1 (.t 67) (.t 68)),
 ⟨none, .store 1 (.t 72) (.t 71), none, none, []⟩])))))))
 (.region 0 [oP 73 (.bin .add (.t 19) (.c (.int .i64 1))),
 oP 19 (.move (.t 73))])))))))
 (.seq (.region 0 [oQ 74 (.load true 6 (.t 5)),
 ⟨none, .store 6 (.t 4) (.t 74), none, none, []⟩])
 (.ret)))))⟩
/-- slices.Max[[]int,int] -/
def f45 : AFn := ⟨25, [.tmp 2],
 .seq (.region 0 [oP 2 (.move (.c (.int .i64 0)))])
 (.seq (.seq (.region 0 [oP 5 (.move (.t 0)),
 oP 6 (.lenS (.t 5)),
 oP 7 (.bin .lss (.t 6) (.c (.int .i64 1)))])
 (.cond (.t 7) (.region 0 [oP 8 (.bad),
 ⟨none, .p (.bad), none, none, []⟩])
 (.skip)))
 (.seq (.region 0 [oP 9 (.move (.t 0)),
 oP 10 (.idxSl 1 (.t 9) (.c (.int .i64 0))),
 oQ 11 (.load false 1 (.t 10)),
 oP 3 (.move (.t 11))])
 (.seq (.seq (.region 0 [oP 4 (.move (.c (.int .i64 1)))])
 (.block 0 (.loop (.seq (.seq (.region 0 [oP 12 (.move (.t 4)),
 oP 13 (.move (.t 0)),
 oP 14 (.lenS (.t 13)),
 oP 15 (.bin .lss (.t 12) (.t 14))])
 (.cond (.t 15) (.skip)
 (.exit 0)))
 (.seq (.block 1 (.region 0 [oP 18 (.move (.t 3)),
 oP 19 (.move (.t 0)),
 oP 20 (.move (.t 4)),
 oP 21 (.idxSl 1 (.t 19) (.t 20)),
 oQ 22 (.load false 1 (.t 21)),
 oP 23 (.minmax true (.t 18) [(.t 22)]),
 oP 3 (.move (.t 23))]))
 (.region 0 [oP 16 (.move (.t 4)),
 oP 17 (.bin .add (.t 16) (.c (.int .i64 1))),
 oP 4 (.move (.t 17))]))))))
 (.seq (.region 0 [oP 24 (.move (.t 3)),
 oP 2 (.move (.t 24))])
 (.ret)))))⟩
/-- almadraba/almadrabaref01.In -/
def f46 : AFn := ⟨18, [.tmp 4],
 .seq (.region 0 [oP 4 (.move (.c (.bool false)))])
 (.seq (.seq (.region 0 [oP 5 (.move (.c (.int .i64 0)))])
 (.block 0 (.loop (.seq (.seq (.region 0 [oP 6 (.move (.t 5)),
 oP 7 (.move (.t 0)),
 oP 8 (.lenS (.t 7)),
 oP 9 (.bin .lss (.t 6) (.t 8))])
 (.cond (.t 9) (.skip)
 (.exit 0)))
 (.seq (.block 1 (.seq (.region 0 [oP 12 (.move (.t 0)),
 oP 13 (.move (.t 5)),
 oP 14 (.idxSl 1 (.t 12) (.t 13)),
 oQ 15 (.load false 1 (.t 14)),
 oP 16 (.move (.t 1)),
 oP 17 (.bin .eql (.t 15) (.t 16))])
 (.cond (.t 17) (.seq (.region 0 [oP 4 (.move (.c (.bool true)))])
 (.ret))
 (.skip))))
 (.region 0 [oP 10 (.move (.t 5)),
 oP 11 (.bin .add (.t 10) (.c (.int .i64 1))),
 oP 5 (.move (.t 11))]))))))
 (.seq (.region 0 [oP 4 (.move (.c (.bool false)))])
 (.ret)))⟩
/-- almadraba/anchors.valid -/
def f47 : AFn := ⟨54, [.tmp 2],
 .seq (.region 0 [oQ 1 (.box (.t 0)),
 oP 2 (.move (.c (.bool false)))])
 (.seq (.region 0 [oP 3 (.move (.c (.fn 63 [] [])))])
 (.seq (.region 0 [oP 5 (.mkFn 65 [] [(.t 1)]),
 oP 4 (.move (.t 5))])
 (.seq (.region 0 [oP 6 (.fieldAddr 0 (.t 1)),
 oQ 7 (.load true 2 (.t 6)),
 oQ 8 (.call 1 64 [(.t 7), (.c (.int .i64 20))]),
 oP 9 (.move (.t 8)),
 oG 10 9 true (.fieldAddr 2 (.t 1)),
 ⟨(some 11), .load true 2 (.t 10), (some (9, true)), none, []⟩,
 ⟨(some 12), .call 1 64 [(.t 11), (.c (.int .i64 20))], (some (9, true)), none, []⟩,
 oP 13 (.pick (.t 9) (.t 12) (.c (.bool false))),
 oP 14 (.move (.t 13)),
 oG 15 14 true (.fieldAddr 4 (.t 1)),
 ⟨(some 16), .load false 1 (.t 15), (some (14, true)), none, []⟩,
 oG 17 14 true (.lenS (.t 16)),
 oG 18 14 true (.bin .leq (.t 17) (.c (.int .i64 3))),
 oP 19 (.pick (.t 14) (.t 18) (.c (.bool false))),
 oP 20 (.move (.t 19)),
 oG 21 20 true (.fieldAddr 4 (.t 1)),
 ⟨(some 22), .load false 1 (.t 21), (some (20, true)), none, []⟩,
 oG 23 20 true (.move (.t 3)),
 ⟨(some 24), .call 3 67 [(.t 22), (.t 23)], (some (20, true)), none, []⟩,
 oP 25 (.pick (.t 20) (.t 24) (.c (.bool false))),
 oP 26 (.move (.t 25)),
 oG 27 26 true (.fieldAddr 5 (.t 1)),
 ⟨(some 28), .load false 1 (.t 27), (some (26, true)), none, []⟩,
 oG 29 26 true (.lenS (.t 28)),
 oG 30 26 true (.bin .leq (.t 29) (.c (.int .i64 6))),
 oP 31 (.pick (.t 26) (.t 30) (.c (.bool false))),
 oP 32 (.move (.t 31)),
 oG 33 32 true (.fieldAddr 5 (.t 1)),
 ⟨(some 34), .load false 1 (.t 33), (some (32, true)), none, []⟩,
 oG 35 32 true (.move (.t 4)),
 ⟨(some 36), .call 3 68 [(.t 34), (.t 35)], (some (32, true)), none, []⟩,
 oP 37 (.pick (.t 32) (.t 36) (.c (.bool false))),
 oP 38 (.move (.t 37)),
 oG 39 38 true (.fieldAddr 6 (.t 1)),
 ⟨(some 40), .load false 1 (.t 39), (some (38, true)), none, []⟩,
 oG 41 38 true (.lenS (.t 40)),
 oG 42 38 true (.fieldAddr 5 (.t 1)),
 ⟨(some 43), .load false 1 (.t 42), (some (38, true)), none, []⟩,
 oG 44 38 true (.lenS (.t 43)),
 oG 45 38 true (.bin .sub (.t 44) (.c (.int .i64 1))),
 oG 46 38 true (.minmax true (.c (.int .i64 0)) [(.t 45)]),
 oG 47 38 true (.bin .eql (.t 41) (.t 46)),
 oP 48 (.pick (.t 38) (.t 47) (.c (.bool false))),
 oP 49 (.move (.t 48)),
 oG 50 49 true (.fieldAddr 6 (.t 1)),
 ⟨(some 51), .load false 1 (.t 50), (some (49, true)), none, []⟩,
 ⟨(some 52), .call 3 69 [(.t 51), (.c (.fn 70 [] []))], (some (49, true)), none, []⟩,
 oP 53 (.pick (.t 49) (.t 52) (.c (.bool false))),
 oP 2 (.move (.t 53))])
 (.ret))))⟩
/-- almadraba/anchors.at -/
def f48 : AFn := ⟨38, [.cell true 10 6],
 .seq (.region 0 [oQ 3 (.box (.t 0)),
 oQ 6 (.alloc [.int .i64 0, .int .i64 0, .int .i64 0, .int .i64 0, .nils, .nils, .nils, .int .i64 0, .int .i64 0, .nils])])
 (.seq (.region 1 [oP 10 (.move (.t 1)),
 oP 11 (.fieldAddr 0 (.t 3)),
 ⟨(some 12), .load true 2 (.t 11), none, none, [0]⟩,
 ⟨(some 13), .callv true (.t 10) [(.t 12)], none, none, [0]⟩,
 oP 14 (.move (.t 1)),
 oP 15 (.fieldAddr 2 (.t 3)),
 ⟨(some 16), .load true 2 (.t 15), none, none, [0]⟩,
 ⟨(some 17), .callv true (.t 14) [(.t 16)], none, none, [0]⟩,
 oP 18 (.build [.int .i64 0, .int .i64 0, .nils] [(0, 1, (.t 13)), (1, 1, (.t 17))]),
 ⟨(some 7), .alloc [.int .i64 0, .int .i64 0, .nils], none, (some 0), []⟩,
 ⟨none, .store 3 (.t 7) (.t 18), none, (some 0), []⟩])
 (.seq (.seq (.region 0 [oP 19 (.fieldAddr 4 (.t 3)),
 oQ 20 (.load false 1 (.t 19)),
 oP 21 (.lenS (.t 20)),
 oP 22 (.move (.c (.int .i64 0)))])
 (.block 0 (.loop (.seq (.region 0 [oP 23 (.bin .lss (.t 22) (.t 21))])
 (.seq (.cond (.t 23) (.skip)
 (.exit 0))
 (.seq (.block 1 (.seq (.region 0 [oP 24 (.idxSl 2 (.t 20) (.t 22)),
 oQ 25 (.load true 2 (.t 24)),
 oQ 9 (.alloc [.int .i64 0, .int .i64 0]),
 ⟨none, .store 2 (.t 9) (.t 25), none, none, []⟩])
 (.region 1 [oP 26 (.fieldAddr 2 (.t 7)),
 ⟨(some 27), .load false 1 (.t 26), none, none, [0]⟩,
 oP 28 (.move (.t 2)),
 ⟨(some 29), .load true 2 (.t 9), none, none, [0]⟩,
 ⟨(some 30), .callv true (.t 28) [(.t 29)], none, none, [0]⟩,
 oQ 31 (.litS 1 1 [.int .i64 0] [(0, (.t 30))]),
 ⟨(some 32), .append false 1 8 (.t 27) (.t 31), none, (some 0), []⟩,
 oP 33 (.fieldAddr 2 (.t 7)),
 ⟨none, .store 1 (.t 33) (.t 32), none, none, []⟩])))
 (.region 0 [oP 34 (.bin .add (.t 22) (.c (.int .i64 1))),
 oP 22 (.move (.t 34))])))))))
 (.seq (.region 0 [oQ 35 (.load true 7 (.t 3)),
 oQ 36 (.load true 3 (.t 7)),
 oP 37 (.build [.int .i64 0, .int .i64 0, .int .i64 0, .int .i64 0, .nils, .nils, .nils, .int .i64 0, .int .i64 0, .nils] [(0, 7, (.t 35)), (7, 3, (.t 36))]),
 ⟨none, .store 10 (.t 6) (.t 37), none, none, []⟩])
 (.ret))))⟩
/-- almadraba/anchors.high -/
def f49 : AFn := ⟨5, [.tmp 2],
 .seq (.region 0 [oQ 1 (.box (.t 0)),
 oP 2 (.move (.c (.int .i64 0)))])
 (.seq (.region 0 [oP 3 (.fieldAddr 1 (.t 1)),
 oQ 4 (.load false 1 (.t 3)),
 oP 2 (.move (.t 4))])
 (.ret))⟩
/-- almadraba/anchors.low -/
def f50 : AFn := ⟨5, [.tmp 2],
 .seq (.region 0 [oQ 1 (.box (.t 0)),
 oP 2 (.move (.c (.int .i64 0)))])
 (.seq (.region 0 [oP 3 (.fieldAddr 0 (.t 1)),
 oQ 4 (.load false 1 (.t 3)),
 oP 2 (.move (.t 4))])
 (.ret))⟩
/-- (almadraba/anchors.net).holds -/
def f51 : AFn := ⟨7, [.tmp 2],
 .seq (.region 0 [oQ 1 (.box (.t 0)),
 oP 2 (.move (.c (.bool false)))])
 (.seq (.region 0 [oQ 3 (.load true 10 (.t 1)),
 oQ 4 (.call 1 71 [(.t 3)]),
 oQ 5 (.call 1 72 [(.t 4)]),
 oP 6 (.bin .eql (.t 5) (.c (.int .i64 0))),
 oP 2 (.move (.t 6))])
 (.ret))⟩
/-- almadraba/anchors.within -/
def f52 : AFn := ⟨15, [.tmp 4],
 .seq (.region 0 [oQ 2 (.box (.t 0)),
 oP 4 (.move (.c (.bool false)))])
 (.seq (.region 0 [oP 5 (.fieldAddr 0 (.t 2)),
 oQ 6 (.load false 1 (.t 5)),
 oP 7 (.move (.t 1)),
 oP 8 (.bin .leq (.t 6) (.t 7)),
 oP 9 (.move (.t 8)),
 oG 10 9 true (.move (.t 1)),
 oG 11 9 true (.fieldAddr 1 (.t 2)),
 ⟨(some 12), .load false 1 (.t 11), (some (9, true)), none, []⟩,
 oG 13 9 true (.bin .leq (.t 10) (.t 12)),
 oP 14 (.pick (.t 9) (.t 13) (.c (.bool false))),
 oP 4 (.move (.t 14))])
 (.ret))⟩
/-- (almadraba/anchors.net).spare -/
def f53 : AFn := ⟨30, [.tmp 6],
 .seq (.region 0 [oQ 3 (.box (.t 0)),
 oQ 5 (.box (.t 2)),
 oP 6 (.move (.c (.int .i64 0)))])
 (.seq (.region 0 [oP 8 (.fieldAddr 0 (.t 3)),
 oP 9 (.fieldAddr 5 (.t 8)),
 oQ 10 (.load false 1 (.t 9)),
 oP 11 (.move (.t 1)),
 oP 12 (.idxSl 2 (.t 10) (.t 11)),
 oQ 13 (.load true 2 (.t 12)),
 oQ 7 (.alloc [.int .i64 0, .int .i64 0]),
 ⟨none, .store 2 (.t 7) (.t 13), none, none, []⟩])
 (.seq (.region 0 [oP 14 (.fieldAddr 0 (.t 7)),
 oQ 15 (.load false 1 (.t 14)),
 oP 16 (.bin .mul (.c (.int .i64 2)) (.t 15)),
 oP 17 (.fieldAddr 7 (.t 3)),
 oP 18 (.fieldAddr 2 (.t 17)),
 oQ 19 (.load false 1 (.t 18)),
 oP 20 (.fieldAddr 1 (.t 7)),
 oQ 21 (.load false 1 (.t 20)),
 oP 22 (.idxSl 1 (.t 19) (.t 21)),
 oQ 23 (.load false 1 (.t 22)),
 oP 24 (.bin .mul (.t 16) (.t 23)),
 oQ 25 (.load true 10 (.t 3)),
 oP 26 (.move (.t 1)),
 oQ 27 (.load true 6 (.t 5)),
 oQ 28 (.call 1 73 [(.t 25), (.t 26), (.t 27)]),
 oP 29 (.bin .sub (.t 24) (.t 28)),
 oP 6 (.move (.t 29))])
 (.ret)))⟩
/-- almadraba/mesh.valid$1 -/
def f54 : AFn := ⟨26, [.tmp 2],
 .seq (.region 0 [oQ 1 (.box (.t 0)),
 oP 2 (.move (.c (.bool false)))])
 (.seq (.region 0 [oP 3 (.fieldAddr 0 (.t 1)),
 oQ 4 (.load false 1 (.t 3)),
 oQ 5 (.call 1 55 [(.t 4), (.c (.int .i64 0)), (.c (.int .i64 20))]),
 oP 6 (.move (.t 5)),
 oG 7 6 true (.fieldAddr 3 (.t 1)),
 ⟨(some 8), .load false 1 (.t 7), (some (6, true)), none, []⟩,
 ⟨(some 9), .call 1 55 [(.t 8), (.c (.int .i64 1)), (.c (.int .i64 9))], (some (6, true)), none, []⟩,
 oP 10 (.pick (.t 6) (.t 9) (.c (.bool false))),
 oP 11 (.move (.t 10)),
 oG 12 11 true (.fieldAddr 1 (.t 1)),
 oG 13 11 true (.fieldAddr 0 (.t 12)),
 ⟨(some 14), .load false 1 (.t 13), (some (11, true)), none, []⟩,
 oG 15 11 true (.fieldAddr 1 (.t 1)),
 oG 16 11 true (.fieldAddr 1 (.t 15)),
 ⟨(some 17), .load false 1 (.t 16), (some (11, true)), none, []⟩,
 ⟨(some 18), .call 1 55 [(.t 14), (.c (.int .i64 0)), (.t 17)], (some (11, true)), none, []⟩,
 oP 19 (.pick (.t 11) (.t 18) (.c (.bool false))),
 oP 20 (.move (.t 19)),
 oG 21 20 true (.fieldAddr 1 (.t 1)),
 oG 22 20 true (.fieldAddr 1 (.t 21)),
 ⟨(some 23), .load false 1 (.t 22), (some (20, true)), none, []⟩,
 oG 24 20 true (.bin .leq (.t 23) (.c (.int .i64 20))),
 oP 25 (.pick (.t 20) (.t 24) (.c (.bool false))),
 oP 2 (.move (.t 25))])
 (.ret))⟩
/-- almadraba/mesh.within -/
def f55 : AFn := ⟨15, [.tmp 6],
 .seq (.region 0 [oP 6 (.move (.c (.bool false)))])
 (.seq (.region 0 [oP 7 (.move (.t 1)),
 oP 8 (.move (.t 0)),
 oP 9 (.bin .leq (.t 7) (.t 8)),
 oP 10 (.move (.t 9)),
 oG 11 10 true (.move (.t 0)),
 oG 12 10 true (.move (.t 2)),
 oG 13 10 true (.bin .leq (.t 11) (.t 12)),
 oP 14 (.pick (.t 10) (.t 13) (.c (.bool false))),
 oP 6 (.move (.t 14))])
 (.ret))⟩
/-- almadraba/mesh.valid$2 -/
def f56 : AFn := ⟨14, [.tmp 3],
 .seq (.region 0 [oQ 2 (.box (.t 0)),
 oP 3 (.move (.c (.bool false)))])
 (.seq (.region 0 [oQ 4 (.load true 3 (.t 1)),
 oP 5 (.fieldAddr 0 (.t 2)),
 oQ 6 (.load false 1 (.t 5)),
 oQ 7 (.call 1 57 [(.t 4), (.t 6)]),
 oP 8 (.move (.t 7)),
 ⟨(some 9), .load true 3 (.t 1), (some (8, true)), none, []⟩,
 oG 10 8 true (.fieldAddr 1 (.t 2)),
 ⟨(some 11), .load false 1 (.t 10), (some (8, true)), none, []⟩,
 ⟨(some 12), .call 1 57 [(.t 9), (.t 11)], (some (8, true)), none, []⟩,
 oP 13 (.pick (.t 8) (.t 12) (.c (.bool false))),
 oP 3 (.move (.t 13))])
 (.ret))⟩
/-- almadraba/mesh.hasHole -/
def f57 : AFn := ⟨11, [.tmp 4],
 .seq (.region 0 [oQ 2 (.box (.t 0)),
 oP 4 (.move (.c (.bool false)))])
 (.seq (.region 0 [oP 5 (.move (.t 1)),
 oP 6 (.fieldAddr 1 (.t 2)),
 oQ 7 (.load false 1 (.t 6)),
 oP 8 (.lenS (.t 7)),
 oP 9 (.bin .sub (.t 8) (.c (.int .i64 1))),
 oQ 10 (.call 1 55 [(.t 5), (.c (.int .i64 0)), (.t 9)]),
 oP 4 (.move (.t 10))])
 (.ret))⟩
/-- almadraba/mesh.each[almadraba/api.MeshHole] -/
def f58 : AFn := ⟨9, [.tmp 4],
 .seq (.region 0 [oQ 3 (.box (.t 1)),
 oP 4 (.move (.c (.bool false)))])
 (.seq (.region 0 [oP 5 (.move (.t 0)),
 oP 6 (.mkFn 75 [] [(.t 3)]),
 oQ 7 (.call 3 74 [(.t 5), (.t 6)]),
 oP 8 (.un .not (.t 7)),
 oP 4 (.move (.t 8))])
 (.ret))⟩
/-- almadraba/mesh.each[almadraba/api.MeshPair] -/
def f59 : AFn := ⟨9, [.tmp 4],
 .seq (.region 0 [oQ 3 (.box (.t 1)),
 oP 4 (.move (.c (.bool false)))])
 (.seq (.region 0 [oP 5 (.move (.t 0)),
 oP 6 (.mkFn 77 [] [(.t 3)]),
 oQ 7 (.call 3 76 [(.t 5), (.t 6)]),
 oP 8 (.un .not (.t 7)),
 oP 4 (.move (.t 8))])
 (.ret))⟩
/-- (almadraba/mesh.plan).can -/
def f60 : AFn := ⟨6, [.cell false 1 2],
 .seq (.region 0 [oQ 1 (.box (.t 0)),
 oQ 2 (.alloc [.bool false])])
 (.seq (.seq (.region 0 [oQ 3 (.load true 3 (.t 1)),
 oP 4 (.mkFn 41 [(.t 3)] [])])
 (.block 0 (.rangeFunc (.t 4) [5] (.skip)
 (.block 1 (.seq (.region 0 [⟨none, .store 1 (.t 2) (.c (.bool true)), none, none, []⟩])
 (.ret))))))
 (.seq (.region 0 [⟨none, .store 1 (.t 2) (.c (.bool false)), none, none, []⟩])
 (.ret)))⟩
/-- (almadraba/mesh.plan).longer -/
def f61 : AFn := ⟨41, [.tmp 6],
 .seq (.region 0 [oQ 3 (.box (.t 0)),
 oP 6 (.move (.c (.bool false)))])
 (.seq (.seq (.region 0 [oP 9 (.move (.t 1)),
 oP 10 (.lenS (.t 9)),
 oP 11 (.fieldAddr 0 (.t 3)),
 oP 12 (.fieldAddr 1 (.t 11)),
 oQ 13 (.load false 1 (.t 12)),
 oP 14 (.lenS (.t 13)),
 oP 15 (.bin .eql (.t 10) (.t 14))])
 (.cond (.t 15) (.seq (.region 0 [oP 16 (.move (.t 2)),
 oP 17 (.move (.t 1)),
 oQ 18 (.callv false (.t 16) [(.t 17)]),
 oP 6 (.move (.t 18))])
 (.ret))
 (.skip)))
 (.seq (.seq (.region 0 [oQ 19 (.load true 3 (.t 3)),
 oP 20 (.move (.t 1)),
 oQ 21 (.call 1 78 [(.t 19), (.t 20)]),
 oP 22 (.lenS (.t 21)),
 oP 23 (.move (.c (.int .i64 0)))])
 (.block 0 (.loop (.seq (.region 0 [oP 24 (.bin .lss (.t 23) (.t 22))])
 (.seq (.cond (.t 24) (.skip)
 (.exit 0))
 (.seq (.block 1 (.seq (.region 0 [oP 25 (.idxSl 1 (.t 21) (.t 23)),
 oQ 26 (.load false 1 (.t 25)),
 oP 8 (.move (.t 26))])
 (.seq (.region 1 [⟨(some 27), .load true 3 (.t 3), none, none, [0]⟩,
 oP 28 (.move (.t 1)),
 oP 29 (.move (.t 1)),
 oP 30 (.lenS (.t 29)),
 oP 31 (.move (.t 1)),
 oP 32 (.lenS (.t 31)),
 oP 33 (.slice3 1 (.t 28) (.t 30) (.t 32)),
 oP 34 (.move (.t 8)),
 oQ 35 (.litS 1 1 [.int .i64 0] [(0, (.t 34))]),
 ⟨(some 36), .append true 1 8 (.t 33) (.t 35), none, (some 0), []⟩,
 oP 37 (.move (.t 2)),
 oQ 38 (.call 0 61 [(.t 27), (.t 36), (.t 37)]),
 oP 39 (.un .not (.t 38))])
 (.cond (.t 39) (.seq (.region 0 [oP 6 (.move (.c (.bool false)))])
 (.ret))
 (.skip)))))
 (.region 0 [oP 40 (.bin .add (.t 23) (.c (.int .i64 1))),
 oP 23 (.move (.t 40))])))))))
 (.seq (.region 0 [oP 6 (.move (.c (.bool true)))])
 (.ret))))⟩
/-- almadraba/mesh.soonest -/
def f62 : AFn := ⟨19, [.tmp 2],
 .seq (.region 0 [oP 2 (.move (.c (.int .i64 0)))])
 (.seq (.region 0 [oQ 3 (.alloc [.int .i64 0, .int .i64 0, .bool false])])
 (.seq (.seq (.region 0 [oP 6 (.move (.t 0)),
 oP 7 (.lenS (.t 6)),
 oP 8 (.move (.c (.int .i64 0)))])
 (.block 0 (.loop (.seq (.region 0 [oP 9 (.bin .lss (.t 8) (.t 7))])
 (.seq (.cond (.t 9) (.skip)
 (.exit 0))
 (.seq (.block 1 (.seq (.region 0 [oP 10 (.move (.t 8)),
 oP 11 (.idxSl 1 (.t 6) (.t 8)),
 oQ 12 (.load false 1 (.t 11)),
 oP 4 (.move (.t 10)),
 oP 5 (.move (.t 12))])
 (.region 0 [oP 13 (.move (.t 4)),
 oP 14 (.move (.t 5)),
 oQ 15 (.call 0 79 [(.t 3), (.t 13), (.t 14)])])))
 (.region 0 [oP 16 (.bin .add (.t 8) (.c (.int .i64 1))),
 oP 8 (.move (.t 16))])))))))
 (.seq (.region 0 [oP 17 (.fieldAddr 1 (.t 3)),
 oQ 18 (.load false 1 (.t 17)),
 oP 2 (.move (.t 18))])
 (.ret))))⟩
/-- almadraba/anchors.valid$1 -/
def f63 : AFn := ⟨5, [.tmp 2],
 .seq (.region 0 [oQ 1 (.box (.t 0)),
 oP 2 (.move (.c (.bool false)))])
 (.seq (.region 0 [oQ 3 (.load true 2 (.t 1)),
 oQ 4 (.call 1 64 [(.t 3), (.c (.int .i64 9))]),
 oP 2 (.move (.t 4))])
 (.ret))⟩
/-- almadraba/anchors.isSpan -/
def f64 : AFn := ⟨19, [.tmp 4],
 .seq (.region 0 [oQ 2 (.box (.t 0)),
 oP 4 (.move (.c (.bool false)))])
 (.seq (.region 0 [oP 5 (.move (.t 1)),
 oP 6 (.fieldAddr 0 (.t 2)),
 oQ 7 (.load false 1 (.t 6)),
 oP 8 (.fieldAddr 1 (.t 2)),
 oQ 9 (.load false 1 (.t 8)),
 oQ 10 (.litS 1 2 [.int .i64 0] [(0, (.t 7)), (1, (.t 9))]),
 oQ 11 (.call 1 66 [(.t 5), (.t 10)]),
 oP 12 (.move (.t 11)),
 oG 13 12 true (.fieldAddr 0 (.t 2)),
 ⟨(some 14), .load false 1 (.t 13), (some (12, true)), none, []⟩,
 oG 15 12 true (.fieldAddr 1 (.t 2)),
 ⟨(some 16), .load false 1 (.t 15), (some (12, true)), none, []⟩,
 oG 17 12 true (.bin .leq (.t 14) (.t 16)),
 oP 18 (.pick (.t 12) (.t 17) (.c (.bool false))),
 oP 4 (.move (.t 18))])
 (.ret))⟩
/-- almadraba/anchors.valid$2 -/
def f65 : AFn := ⟨18, [.tmp 3],
 .seq (.region 0 [oQ 2 (.box (.t 0)),
 oP 3 (.move (.c (.bool false)))])
 (.seq (.region 0 [oP 4 (.fieldAddr 0 (.t 2)),
 oQ 5 (.load false 1 (.t 4)),
 oQ 6 (.litS 1 1 [.int .i64 0] [(0, (.t 5))]),
 oQ 7 (.call 1 66 [(.c (.int .i64 20)), (.t 6)]),
 oP 8 (.move (.t 7)),
 oG 9 8 true (.fieldAddr 4 (.t 1)),
 ⟨(some 10), .load false 1 (.t 9), (some (8, true)), none, []⟩,
 oG 11 8 true (.lenS (.t 10)),
 oG 12 8 true (.bin .sub (.t 11) (.c (.int .i64 1))),
 oG 13 8 true (.fieldAddr 1 (.t 2)),
 ⟨(some 14), .load false 1 (.t 13), (some (8, true)), none, []⟩,
 ⟨(some 15), .litS 1 1 [.int .i64 0] [(0, (.t 14))], (some (8, true)), none, []⟩,
 ⟨(some 16), .call 1 66 [(.t 12), (.t 15)], (some (8, true)), none, []⟩,
 oP 17 (.pick (.t 8) (.t 16) (.c (.bool false))),
 oP 3 (.move (.t 17))])
 (.ret))⟩
/-- almadraba/anchors.upTo -/
def f66 : AFn := ⟨8, [.tmp 4],
 .seq (.region 0 [oQ 2 (.box (.t 0)),
 oP 4 (.move (.c (.bool false)))])
 (.seq (.region 0 [oP 5 (.move (.t 1)),
 oP 6 (.mkFn 81 [] [(.t 2)]),
 oQ 7 (.call 3 80 [(.t 5), (.t 6)]),
 oP 4 (.move (.t 7))])
 (.ret))⟩
/-- almadraba/anchors.all[almadraba/api.Span] -/
def f67 : AFn := ⟨18, [.tmp 4],
 .seq (.region 0 [oP 4 (.move (.c (.bool false)))])
 (.seq (.seq (.region 0 [oP 7 (.move (.t 0)),
 oP 8 (.lenS (.t 7)),
 oP 9 (.move (.c (.int .i64 0)))])
 (.block 0 (.loop (.seq (.region 0 [oP 10 (.bin .lss (.t 9) (.t 8))])
 (.seq (.cond (.t 10) (.skip)
 (.exit 0))
 (.seq (.block 1 (.seq (.region 0 [oP 11 (.idxSl 2 (.t 7) (.t 9)),
 oQ 12 (.load true 2 (.t 11)),
 oQ 6 (.alloc [.int .i64 0, .int .i64 0]),
 ⟨none, .store 2 (.t 6) (.t 12), none, none, []⟩])
 (.seq (.region 0 [oP 13 (.move (.t 1)),
 oQ 14 (.load true 2 (.t 6)),
 oQ 15 (.callv true (.t 13) [(.t 14)]),
 oP 16 (.un .not (.t 15))])
 (.cond (.t 16) (.seq (.region 0 [oP 4 (.move (.c (.bool false)))])
 (.ret))
 (.skip)))))
 (.region 0 [oP 17 (.bin .add (.t 9) (.c (.int .i64 1))),
 oP 9 (.move (.t 17))])))))))
 (.seq (.region 0 [oP 4 (.move (.c (.bool true)))])
 (.ret)))⟩
/-- almadraba/anchors.all[almadraba/api.Anchor] -/
def f68 : AFn := ⟨18, [.tmp 4],
 .seq (.region 0 [oP 4 (.move (.c (.bool false)))])
 (.seq (.seq (.region 0 [oP 7 (.move (.t 0)),
 oP 8 (.lenS (.t 7)),
 oP 9 (.move (.c (.int .i64 0)))])
 (.block 0 (.loop (.seq (.region 0 [oP 10 (.bin .lss (.t 9) (.t 8))])
 (.seq (.cond (.t 10) (.skip)
 (.exit 0))
 (.seq (.block 1 (.seq (.region 0 [oP 11 (.idxSl 2 (.t 7) (.t 9)),
 oQ 12 (.load true 2 (.t 11)),
 oQ 6 (.alloc [.int .i64 0, .int .i64 0]),
 ⟨none, .store 2 (.t 6) (.t 12), none, none, []⟩])
 (.seq (.region 0 [oP 13 (.move (.t 1)),
 oQ 14 (.load true 2 (.t 6)),
 oQ 15 (.callv true (.t 13) [(.t 14)]),
 oP 16 (.un .not (.t 15))])
 (.cond (.t 16) (.seq (.region 0 [oP 4 (.move (.c (.bool false)))])
 (.ret))
 (.skip)))))
 (.region 0 [oP 17 (.bin .add (.t 9) (.c (.int .i64 1))),
 oP 9 (.move (.t 17))])))))))
 (.seq (.region 0 [oP 4 (.move (.c (.bool true)))])
 (.ret)))⟩
/-- almadraba/anchors.all[almadraba/api.AnchorWall] -/
def f69 : AFn := ⟨18, [.tmp 4],
 .seq (.region 0 [oP 4 (.move (.c (.bool false)))])
 (.seq (.seq (.region 0 [oP 7 (.move (.t 0)),
 oP 8 (.lenS (.t 7)),
 oP 9 (.move (.c (.int .i64 0)))])
 (.block 0 (.loop (.seq (.region 0 [oP 10 (.bin .lss (.t 9) (.t 8))])
 (.seq (.cond (.t 10) (.skip)
 (.exit 0))
 (.seq (.block 1 (.seq (.region 0 [oP 11 (.idxSl 5 (.t 7) (.t 9)),
 oQ 12 (.load true 5 (.t 11)),
 oQ 6 (.alloc [.int .i64 0, .int .i64 0, .int .i64 0, .int .i64 0, .int .i64 0]),
 ⟨none, .store 5 (.t 6) (.t 12), none, none, []⟩])
 (.seq (.region 0 [oP 13 (.move (.t 1)),
 oQ 14 (.load true 5 (.t 6)),
 oQ 15 (.callv true (.t 13) [(.t 14)]),
 oP 16 (.un .not (.t 15))])
 (.cond (.t 16) (.seq (.region 0 [oP 4 (.move (.c (.bool false)))])
 (.ret))
 (.skip)))))
 (.region 0 [oP 17 (.bin .add (.t 9) (.c (.int .i64 1))),
 oP 9 (.move (.t 17))])))))))
 (.seq (.region 0 [oP 4 (.move (.c (.bool true)))])
 (.ret)))⟩
/-- almadraba/anchors.isWall -/
def f70 : AFn := ⟨19, [.tmp 2],
 .seq (.region 0 [oQ 1 (.box (.t 0)),
 oP 2 (.move (.c (.bool false)))])
 (.seq (.region 0 [oP 3 (.fieldAddr 0 (.t 1)),
 oQ 4 (.load false 1 (.t 3)),
 oP 5 (.fieldAddr 1 (.t 1)),
 oQ 6 (.load false 1 (.t 5)),
 oP 7 (.fieldAddr 2 (.t 1)),
 oQ 8 (.load false 1 (.t 7)),
 oQ 9 (.litS 1 3 [.int .i64 0] [(0, (.t 4)), (1, (.t 6)), (2, (.t 8))]),
 oQ 10 (.call 1 66 [(.c (.int .i64 9)), (.t 9)]),
 oP 11 (.move (.t 10)),
 oG 12 11 true (.fieldAddr 3 (.t 1)),
 ⟨(some 13), .load false 1 (.t 12), (some (11, true)), none, []⟩,
 oG 14 11 true (.fieldAddr 4 (.t 1)),
 ⟨(some 15), .load false 1 (.t 14), (some (11, true)), none, []⟩,
 ⟨(some 16), .litS 1 2 [.int .i64 0] [(0, (.t 13)), (1, (.t 15))], (some (11, true)), none, []⟩,
 ⟨(some 17), .call 1 66 [(.c (.int .i64 99)), (.t 16)], (some (11, true)), none, []⟩,
 oP 18 (.pick (.t 11) (.t 17) (.c (.bool false))),
 oP 2 (.move (.t 18))])
 (.ret))⟩
/-- (almadraba/anchors.net).first -/
def f71 : AFn := ⟨21, [.cell true 6 2],
 .seq (.region 0 [oQ 1 (.box (.t 0)),
 oQ 2 (.alloc [.bool false, .bool false, .bool false, .bool false, .bool false, .bool false])])
 (.seq (.region 0 [oQ 3 (.alloc [.bool false, .bool false, .bool false, .bool false, .bool false, .bool false])])
 (.seq (.seq (.region 0 [oP 5 (.fieldAddr 0 (.t 1)),
 oP 6 (.fieldAddr 5 (.t 5)),
 oQ 7 (.load false 1 (.t 6)),
 oP 8 (.lenS (.t 7)),
 oP 9 (.move (.c (.int .i64 0)))])
 (.block 0 (.loop (.seq (.region 0 [oP 10 (.bin .lss (.t 9) (.t 8))])
 (.seq (.cond (.t 10) (.skip)
 (.exit 0))
 (.seq (.block 1 (.seq (.region 0 [oP 11 (.move (.t 9)),
 oP 4 (.move (.t 11))])
 (.region 0 [oP 12 (.move (.t 4)),
 oQ 13 (.load true 10 (.t 1)),
 oP 14 (.move (.t 4)),
 oP 15 (.build [.bool false, .bool false, .bool false, .bool false, .bool false, .bool false] []),
 oQ 16 (.call 1 53 [(.t 13), (.t 14), (.t 15)]),
 oP 17 (.bin .lss (.t 16) (.c (.int .i64 0))),
 oP 18 (.idxArr 6 1 (.t 3) (.t 12)),
 ⟨none, .store 1 (.t 18) (.t 17), none, none, []⟩])))
 (.region 0 [oP 19 (.bin .add (.t 9) (.c (.int .i64 1))),
 oP 9 (.move (.t 19))])))))))
 (.seq (.region 0 [oQ 20 (.load true 6 (.t 3)),
 ⟨none, .store 6 (.t 2) (.t 20), none, none, []⟩])
 (.ret))))⟩
/-- (almadraba/anchors.moved).count -/
def f72 : AFn := ⟨6, [.tmp 2],
 .seq (.region 0 [oQ 1 (.box (.t 0)),
 oP 2 (.move (.c (.int .i64 0)))])
 (.seq (.region 0 [oQ 3 (.load true 6 (.t 1)),
 oQ 4 (.call 1 39 [(.t 3)]),
 oP 5 (.lenS (.t 4)),
 oP 2 (.move (.t 5))])
 (.ret))⟩
/-- (almadraba/anchors.net).bears -/
def f73 : AFn := ⟨22, [.tmp 6],
 .seq (.region 0 [oQ 3 (.box (.t 0)),
 oQ 5 (.box (.t 2)),
 oP 6 (.move (.c (.int .i64 0)))])
 (.seq (.region 0 [oQ 7 (.alloc [.int .i64 0]),
 ⟨none, .store 1 (.t 7) (.c (.int .i64 0)), none, none, []⟩])
 (.seq (.region 0 [oP 9 (.mkFn 82 [] [(.t 3), (.t 7), (.t 5)]),
 oP 8 (.move (.t 9))])
 (.seq (.region 0 [oP 10 (.move (.t 8)),
 oP 11 (.move (.t 1)),
 oP 12 (.bin .sub (.t 11) (.c (.int .i64 1))),
 oP 13 (.move (.t 1)),
 oP 14 (.bin .sub (.t 13) (.c (.int .i64 1))),
 oQ 15 (.callv false (.t 10) [(.t 12), (.t 14)])])
 (.seq (.region 0 [oP 16 (.move (.t 8)),
 oP 17 (.move (.t 1)),
 oP 18 (.move (.t 1)),
 oP 19 (.bin .add (.t 18) (.c (.int .i64 1))),
 oQ 20 (.callv false (.t 16) [(.t 17), (.t 19)])])
 (.seq (.region 0 [oQ 21 (.load false 1 (.t 7)),
 oP 6 (.move (.t 21))])
 (.ret))))))⟩
/-- slices.ContainsFunc[[]almadraba/api.MeshHole,almadraba/api.MeshHole] -/
def f74 : AFn := ⟨9, [.tmp 4],
 .seq (.region 0 [oP 4 (.move (.c (.bool false)))])
 (.seq (.region 0 [oP 5 (.move (.t 0)),
 oP 6 (.move (.t 1)),
 oQ 7 (.call 3 85 [(.t 5), (.t 6)]),
 oP 8 (.bin .geq (.t 7) (.c (.int .i64 0))),
 oP 4 (.move (.t 8))])
 (.ret))⟩
/-- almadraba/mesh.each[almadraba/api.MeshHole]$1 -/
def f75 : AFn := ⟨8, [.tmp 3],
 .seq (.region 0 [oQ 2 (.box (.t 0)),
 oP 3 (.move (.c (.bool false)))])
 (.seq (.region 0 [oQ 4 (.load false 1 (.t 1)),
 oQ 5 (.load true 4 (.t 2)),
 oQ 6 (.callv true (.t 4) [(.t 5)]),
 oP 7 (.un .not (.t 6)),
 oP 3 (.move (.t 7))])
 (.ret))⟩
/-- slices.ContainsFunc[[]almadraba/api.MeshPair,almadraba/api.MeshPair] -/
def f76 : AFn := ⟨9, [.tmp 4],
 .seq (.region 0 [oP 4 (.move (.c (.bool false)))])
 (.seq (.region 0 [oP 5 (.move (.t 0)),
 oP 6 (.move (.t 1)),
 oQ 7 (.call 3 86 [(.t 5), (.t 6)]),
 oP 8 (.bin .geq (.t 7) (.c (.int .i64 0))),
 oP 4 (.move (.t 8))])
 (.ret))⟩
/-- almadraba/mesh.each[almadraba/api.MeshPair]$1 -/
def f77 : AFn := ⟨8, [.tmp 3],
 .seq (.region 0 [oQ 2 (.box (.t 0)),
 oP 3 (.move (.c (.bool false)))])
 (.seq (.region 0 [oQ 4 (.load false 1 (.t 1)),
 oQ 5 (.load true 2 (.t 2)),
 oQ 6 (.callv true (.t 4) [(.t 5)]),
 oP 7 (.un .not (.t 6)),
 oP 3 (.move (.t 7))])
 (.ret))⟩
/-- (almadraba/mesh.plan).next -/
def f78 : AFn := ⟨34, [.tmp 4],
 .seq (.region 0 [oQ 2 (.box (.t 0)),
 oQ 3 (.box (.t 1)),
 oP 4 (.move (.c (.nils)))])
 (.seq (.region 0 [oP 5 (.move (.c (.nils)))])
 (.seq (.seq (.region 0 [oP 8 (.fieldAddr 0 (.t 2)),
 oP 9 (.fieldAddr 1 (.t 8)),
 oQ 10 (.load false 1 (.t 9)),
 oP 11 (.lenS (.t 10)),
 oP 12 (.move (.c (.int .i64 0)))])
 (.block 0 (.loop (.seq (.region 0 [oP 13 (.bin .lss (.t 12) (.t 11))])
 (.seq (.cond (.t 13) (.skip)
 (.exit 0))
 (.seq (.block 1 (.seq (.region 0 [oP 14 (.move (.t 12)),
 oQ 6 (.alloc [.int .i64 0]),
 ⟨none, .store 1 (.t 6) (.t 14), none, none, []⟩])
 (.seq (.region 0 [oP 15 (.mkFn 87 [] [(.t 6), (.t 3)]),
 oP 7 (.move (.t 15))])
 (.seq (.region 0 [oQ 16 (.load false 1 (.t 3)),
 oQ 17 (.load false 1 (.t 6)),
 oQ 18 (.call 1 88 [(.t 16), (.t 17)]),
 oP 19 (.un .not (.t 18)),
 oP 20 (.move (.t 19)),
 oG 21 20 true (.fieldAddr 0 (.t 2)),
 oG 22 20 true (.fieldAddr 2 (.t 21)),
 ⟨(some 23), .load false 1 (.t 22), (some (20, true)), none, []⟩,
 oG 24 20 true (.move (.t 7)),
 ⟨(some 25), .call 3 76 [(.t 23), (.t 24)], (some (20, true)), none, []⟩,
 oG 26 20 true (.un .not (.t 25)),
 oP 27 (.pick (.t 20) (.t 26) (.c (.bool false)))])
 (.cond (.t 27) (.region 0 [oP 28 (.move (.t 5)),
 oQ 29 (.load false 1 (.t 6)),
 oQ 30 (.litS 1 1 [.int .i64 0] [(0, (.t 29))]),
 oQ 31 (.append false 1 8 (.t 28) (.t 30)),
 oP 5 (.move (.t 31))])
 (.skip))))))
 (.region 0 [oP 32 (.bin .add (.t 12) (.c (.int .i64 1))),
 oP 12 (.move (.t 32))])))))))
 (.seq (.region 0 [oP 33 (.move (.t 5)),
 oP 4 (.move (.t 33))])
 (.ret))))⟩
/-- (*almadraba/mesh.least[int]).see -/
def f79 : AFn := ⟨24, [],
 .seq (.region 0 [oP 6 (.move (.t 0)),
 oP 7 (.nilCheck (.t 6)),
 oP 8 (.fieldAddr 2 (.t 7)),
 oQ 9 (.load false 1 (.t 8)),
 oP 10 (.un .not (.t 9)),
 oP 11 (.move (.t 10)),
 oG 12 11 false (.move (.t 2)),
 oG 13 11 false (.move (.t 0)),
 oG 14 11 false (.nilCheck (.t 13)),
 oG 15 11 false (.fieldAddr 0 (.t 14)),
 ⟨(some 16), .load false 1 (.t 15), (some (11, false)), none, []⟩,
 oG 17 11 false (.bin .lss (.t 12) (.t 16)),
 oP 18 (.pick (.t 11) (.c (.bool true)) (.t 17))])
 (.cond (.t 18) (.region 0 [oP 19 (.move (.t 0)),
 oP 20 (.move (.t 2)),
 oP 21 (.move (.t 1)),
 oP 22 (.build [.int .i64 0, .int .i64 0, .bool false] [(0, 1, (.t 20)), (1, 1, (.t 21)), (2, 1, (.c (.bool true)))]),
 oP 23 (.nilCheck (.t 19)),
 ⟨none, .store 3 (.t 23) (.t 22), none, none, []⟩])
 (.skip))⟩
/-- almadraba/anchors.all[int] -/
def f80 : AFn := ⟨18, [.tmp 4],
 .seq (.region 0 [oP 4 (.move (.c (.bool false)))])
 (.seq (.seq (.region 0 [oP 7 (.move (.t 0)),
 oP 8 (.lenS (.t 7)),
 oP 9 (.move (.c (.int .i64 0)))])
 (.block 0 (.loop (.seq (.region 0 [oP 10 (.bin .lss (.t 9) (.t 8))])
 (.seq (.cond (.t 10) (.skip)
 (.exit 0))
 (.seq (.block 1 (.seq (.region 0 [oP 11 (.idxSl 1 (.t 7) (.t 9)),
 oQ 12 (.load false 1 (.t 11)),
 oP 6 (.move (.t 12))])
 (.seq (.region 0 [oP 13 (.move (.t 1)),
 oP 14 (.move (.t 6)),
 oQ 15 (.callv true (.t 13) [(.t 14)]),
 oP 16 (.un .not (.t 15))])
 (.cond (.t 16) (.seq (.region 0 [oP 4 (.move (.c (.bool false)))])
 (.ret))
 (.skip)))))
 (.region 0 [oP 17 (.bin .add (.t 9) (.c (.int .i64 1))),
 oP 9 (.move (.t 17))])))))))
 (.seq (.region 0 [oP 4 (.move (.c (.bool true)))])
 (.ret)))⟩
/-- almadraba/anchors.upTo$1 -/
def f81 : AFn := ⟨11, [.tmp 3],
 .seq (.region 0 [oP 3 (.move (.c (.bool false)))])
 (.seq (.region 0 [oP 4 (.move (.t 0)),
 oP 5 (.bin .leq (.c (.int .i64 0)) (.t 4)),
 oP 6 (.move (.t 5)),
 oG 7 6 true (.move (.t 0)),
 ⟨(some 8), .load false 1 (.t 1), (some (6, true)), none, []⟩,
 oG 9 6 true (.bin .leq (.t 7) (.t 8)),
 oP 10 (.pick (.t 6) (.t 9) (.c (.bool false))),
 oP 3 (.move (.t 10))])
 (.ret))⟩
/-- (almadraba/anchors.net).bears$1 -/
def f82 : AFn := ⟨35, [],
 .seq (.seq (.region 0 [oP 8 (.fieldAddr 0 (.t 2)),
 oQ 9 (.load true 7 (.t 8)),
 oP 10 (.move (.t 0)),
 oQ 11 (.call 1 83 [(.t 9), (.t 10)]),
 oP 12 (.un .not (.t 11))])
 (.cond (.t 12) (.ret)
 (.skip)))
 (.seq (.region 0 [oP 13 (.fieldAddr 0 (.t 2)),
 oP 14 (.fieldAddr 6 (.t 13)),
 oQ 15 (.load false 1 (.t 14)),
 oP 16 (.move (.t 0)),
 oP 17 (.idxSl 5 (.t 15) (.t 16)),
 oQ 18 (.load true 5 (.t 17)),
 oP 19 (.fieldAddr 7 (.t 2)),
 oP 20 (.fieldAddr 0 (.t 19)),
 oQ 21 (.load false 1 (.t 20)),
 oP 22 (.fieldAddr 7 (.t 2)),
 oP 23 (.fieldAddr 1 (.t 22)),
 oQ 24 (.load false 1 (.t 23)),
 oQ 25 (.call 1 84 [(.t 18), (.t 21), (.t 24)]),
 oP 7 (.move (.t 25))])
 (.seq (.region 0 [oQ 26 (.load false 1 (.t 3)),
 oP 27 (.move (.t 7)),
 oP 28 (.bin .add (.t 26) (.t 27)),
 ⟨none, .store 1 (.t 3) (.t 28), none, none, []⟩])
 (.seq (.region 0 [oP 29 (.move (.t 1)),
 oP 30 (.idxArr 6 1 (.t 4) (.t 29)),
 oQ 31 (.load false 1 (.t 30))])
 (.cond (.t 31) (.region 0 [oQ 32 (.load false 1 (.t 3)),
 oP 33 (.move (.t 7)),
 oP 34 (.bin .add (.t 32) (.t 33)),
 ⟨none, .store 1 (.t 3) (.t 34), none, none, []⟩])
 (.skip)))))⟩
/-- almadraba/anchors.hasWall -/
def f83 : AFn := ⟨12, [.tmp 4],
 .seq (.region 0 [oQ 2 (.box (.t 0)),
 oP 4 (.move (.c (.bool false)))])
 (.seq (.region 0 [oP 5 (.fieldAddr 6 (.t 2)),
 oQ 6 (.load false 1 (.t 5)),
 oP 7 (.lenS (.t 6)),
 oP 8 (.bin .sub (.t 7) (.c (.int .i64 1))),
 oP 9 (.move (.t 1)),
 oQ 10 (.litS 1 1 [.int .i64 0] [(0, (.t 9))]),
 oQ 11 (.call 1 66 [(.t 8), (.t 10)]),
 oP 4 (.move (.t 11))])
 (.ret))⟩
/-- almadraba/anchors.load -/
def f84 : AFn := ⟨16, [.tmp 6],
 .seq (.region 0 [oQ 3 (.box (.t 0)),
 oP 6 (.move (.c (.int .i64 0)))])
 (.seq (.region 0 [oP 7 (.fieldAddr 0 (.t 3)),
 oQ 8 (.load false 1 (.t 7)),
 oP 9 (.move (.t 1)),
 oP 10 (.bin .mul (.t 8) (.t 9)),
 oP 11 (.fieldAddr 1 (.t 3)),
 oQ 12 (.load false 1 (.t 11)),
 oP 13 (.move (.t 2)),
 oP 14 (.bin .mul (.t 12) (.t 13)),
 oP 15 (.bin .add (.t 10) (.t 14)),
 oP 6 (.move (.t 15))])
 (.ret))⟩
/-- slices.IndexFunc[[]almadraba/api.MeshHole,almadraba/api.MeshHole] -/
def f85 : AFn := ⟨19, [.tmp 4],
 .seq (.region 0 [oP 4 (.move (.c (.int .i64 0)))])
 (.seq (.seq (.region 0 [oP 6 (.move (.t 0)),
 oP 7 (.lenS (.t 6)),
 oP 8 (.move (.c (.int .i64 0)))])
 (.block 0 (.loop (.seq (.region 0 [oP 9 (.bin .lss (.t 8) (.t 7))])
 (.seq (.cond (.t 9) (.skip)
 (.exit 0))
 (.seq (.block 1 (.seq (.region 0 [oP 10 (.move (.t 8)),
 oP 5 (.move (.t 10))])
 (.seq (.region 0 [oP 11 (.move (.t 1)),
 oP 12 (.move (.t 0)),
 oP 13 (.move (.t 5)),
 oP 14 (.idxSl 4 (.t 12) (.t 13)),
 oQ 15 (.load true 4 (.t 14)),
 oQ 16 (.callv true (.t 11) [(.t 15)])])
 (.cond (.t 16) (.seq (.region 0 [oP 17 (.move (.t 5)),
 oP 4 (.move (.t 17))])
 (.ret))
 (.skip)))))
 (.region 0 [oP 18 (.bin .add (.t 8) (.c (.int .i64 1))),
 oP 8 (.move (.t 18))])))))))
 (.seq (.region 0 [oP 4 (.move (.c (.int .i64 (-1))))])
 (.ret)))⟩
/-- slices.IndexFunc[[]almadraba/api.MeshPair,almadraba/api.MeshPair] -/
def f86 : AFn := ⟨19, [.tmp 4],
 .seq (.region 0 [oP 4 (.move (.c (.int .i64 0)))])
 (.seq (.seq (.region 0 [oP 6 (.move (.t 0)),
 oP 7 (.lenS (.t 6)),
 oP 8 (.move (.c (.int .i64 0)))])
 (.block 0 (.loop (.seq (.region 0 [oP 9 (.bin .lss (.t 8) (.t 7))])
 (.seq (.cond (.t 9) (.skip)
 (.exit 0))
 (.seq (.block 1 (.seq (.region 0 [oP 10 (.move (.t 8)),
 oP 5 (.move (.t 10))])
 (.seq (.region 0 [oP 11 (.move (.t 1)),
 oP 12 (.move (.t 0)),
 oP 13 (.move (.t 5)),
 oP 14 (.idxSl 2 (.t 12) (.t 13)),
 oQ 15 (.load true 2 (.t 14)),
 oQ 16 (.callv true (.t 11) [(.t 15)])])
 (.cond (.t 16) (.seq (.region 0 [oP 17 (.move (.t 5)),
 oP 4 (.move (.t 17))])
 (.ret))
 (.skip)))))
 (.region 0 [oP 18 (.bin .add (.t 8) (.c (.int .i64 1))),
 oP 8 (.move (.t 18))])))))))
 (.seq (.region 0 [oP 4 (.move (.c (.int .i64 (-1))))])
 (.ret)))⟩
/-- (almadraba/mesh.plan).next$1 -/
def f87 : AFn := ⟨16, [.tmp 4],
 .seq (.region 0 [oQ 3 (.box (.t 0)),
 oP 4 (.move (.c (.bool false)))])
 (.seq (.region 0 [oP 5 (.fieldAddr 1 (.t 3)),
 oQ 6 (.load false 1 (.t 5)),
 oQ 7 (.load false 1 (.t 1)),
 oP 8 (.bin .eql (.t 6) (.t 7)),
 oP 9 (.move (.t 8)),
 ⟨(some 10), .load false 1 (.t 2), (some (9, true)), none, []⟩,
 oG 11 9 true (.fieldAddr 0 (.t 3)),
 ⟨(some 12), .load false 1 (.t 11), (some (9, true)), none, []⟩,
 ⟨(some 13), .call 1 88 [(.t 10), (.t 12)], (some (9, true)), none, []⟩,
 oG 14 9 true (.un .not (.t 13)),
 oP 15 (.pick (.t 9) (.t 14) (.c (.bool false))),
 oP 4 (.move (.t 15))])
 (.ret))⟩
/-- slices.Contains[[]int,int] -/
def f88 : AFn := ⟨9, [.tmp 4],
 .seq (.region 0 [oP 4 (.move (.c (.bool false)))])
 (.seq (.region 0 [oP 5 (.move (.t 0)),
 oP 6 (.move (.t 1)),
 oQ 7 (.call 1 89 [(.t 5), (.t 6)]),
 oP 8 (.bin .geq (.t 7) (.c (.int .i64 0))),
 oP 4 (.move (.t 8))])
 (.ret))⟩
/-- slices.Index[[]int,int] -/
def f89 : AFn := ⟨19, [.tmp 4],
 .seq (.region 0 [oP 4 (.move (.c (.int .i64 0)))])
 (.seq (.seq (.region 0 [oP 6 (.move (.t 0)),
 oP 7 (.lenS (.t 6)),
 oP 8 (.move (.c (.int .i64 0)))])
 (.block 0 (.loop (.seq (.region 0 [oP 9 (.bin .lss (.t 8) (.t 7))])
 (.seq (.cond (.t 9) (.skip)
 (.exit 0))
 (.seq (.block 1 (.seq (.region 0 [oP 10 (.move (.t 8)),
 oP 5 (.move (.t 10))])
 (.seq (.region 0 [oP 11 (.move (.t 1)),
 oP 12 (.move (.t 0)),
 oP 13 (.move (.t 5)),
 oP 14 (.idxSl 1 (.t 12) (.t 13)),
 oQ 15 (.load false 1 (.t 14)),
 oP 16 (.bin .eql (.t 11) (.t 15))])
 (.cond (.t 16) (.seq (.region 0 [oP 17 (.move (.t 5)),
 oP 4 (.move (.t 17))])
 (.ret))
 (.skip)))))
 (.region 0 [oP 18 (.bin .add (.t 8) (.c (.int .i64 1))),
 oP 8 (.move (.t 18))])))))))
 (.seq (.region 0 [oP 4 (.move (.c (.int .i64 (-1))))])
 (.ret)))⟩
end Go.Proofs.Ytmldjpeiokciiaa.T
