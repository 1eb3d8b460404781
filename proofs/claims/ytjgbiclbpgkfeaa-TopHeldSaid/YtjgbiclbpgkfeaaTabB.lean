/-
The code of functions of the seat, as the abstract machine has it (printed by a tool of ours off the dump).
-/
import Derived.Test.YtjgbiclbpgkfeaaTabA
namespace Go.Proofs.Ytjgbiclbpgkfeaa.T
open Go Go.Am
/-- (*almadraba/counts.trap).fish -/
def f38 : AFn := ⟨22, [.cell true 2 4],
 .seq (.region 0 [oQ 3 (.box (.t 1)),
 oQ 4 (.alloc [.int .i64 0, .int .i64 0])])
 (.seq (.region 0 [oP 5 (.move (.t 0)),
 oP 6 (.nilCheck (.t 5)),
 oP 7 (.fieldAddr 4 (.t 6)),
 oP 8 (.move (.t 0)),
 oP 9 (.fieldAddr 0 (.t 3)),
 oQ 10 (.load false 1 (.t 9)),
 oP 11 (.fieldAddr 1 (.t 3)),
 oQ 12 (.load false 1 (.t 11)),
 oQ 13 (.call 3 48 [(.t 8), (.t 10), (.t 12)]),
 oP 14 (.move (.t 0)),
 oP 15 (.fieldAddr 0 (.t 3)),
 oQ 16 (.load false 1 (.t 15)),
 oP 17 (.fieldAddr 1 (.t 3)),
 oQ 18 (.load false 1 (.t 17)),
 oP 19 (.bin .add (.t 18) (.c (.int .i64 1))),
 oQ 20 (.call 3 48 [(.t 14), (.t 16), (.t 19)]),
 oQ 21 (.call 3 47 [(.t 7), (.t 13), (.t 20)]),
 ⟨none, .store 2 (.t 4) (.t 21), none, none, []⟩])
 (.ret))⟩
/-- almadraba/anchors.fit -/
def f39 : AFn := ⟨13, [.tmp 4],
 .seq (.region 0 [oQ 2 (.box (.t 0)),
 oP 4 (.move (.c (.int .i64 0)))])
 (.seq (.seq (.region 0 [oQ 6 (.load true 7 (.t 2)),
 oQ 7 (.call 1 49 [(.t 6)]),
 oP 5 (.move (.t 7))])
 (.seq (.region 0 [oP 8 (.move (.t 5)),
 oP 9 (.bin .neq (.t 8) (.c (.int .i64 0)))])
 (.cond (.t 9) (.seq (.region 0 [oP 10 (.move (.t 5)),
 oP 4 (.move (.t 10))])
 (.ret))
 (.skip))))
 (.seq (.seq (.region 0 [oP 11 (.move (.t 1)),
 oP 12 (.un .not (.t 11))])
 (.cond (.t 12) (.seq (.region 0 [oP 4 (.move (.c (.int .i64 1)))])
 (.ret))
 (.skip)))
 (.seq (.region 0 [oP 4 (.move (.c (.int .i64 0)))])
 (.ret))))⟩
/-- almadraba/anchors.isTruth -/
def f40 : AFn := ⟨47, [.tmp 4],
 .seq (.region 0 [oQ 2 (.box (.t 0)),
 oQ 3 (.box (.t 1)),
 oP 4 (.move (.c (.bool false)))])
 (.seq (.seq (.region 0 [oP 7 (.fieldAddr 0 (.t 2)),
 oQ 8 (.load true 2 (.t 7)),
 oP 9 (.fieldAddr 0 (.t 3)),
 oQ 10 (.load false 1 (.t 9)),
 oQ 11 (.call 1 50 [(.t 8), (.t 10)]),
 oP 12 (.un .not (.t 11)),
 oP 13 (.move (.t 12)),
 oG 14 13 false (.fieldAddr 2 (.t 2)),
 ⟨(some 15), .load true 2 (.t 14), (some (13, false)), none, []⟩,
 oG 16 13 false (.fieldAddr 1 (.t 3)),
 ⟨(some 17), .load false 1 (.t 16), (some (13, false)), none, []⟩,
 ⟨(some 18), .call 1 50 [(.t 15), (.t 17)], (some (13, false)), none, []⟩,
 oG 19 13 false (.un .not (.t 18)),
 oP 20 (.pick (.t 13) (.c (.bool true)) (.t 19)),
 oP 21 (.move (.t 20)),
 oG 22 21 false (.fieldAddr 2 (.t 3)),
 ⟨(some 23), .load false 1 (.t 22), (some (21, false)), none, []⟩,
 oG 24 21 false (.lenS (.t 23)),
 oG 25 21 false (.fieldAddr 4 (.t 2)),
 ⟨(some 26), .load false 1 (.t 25), (some (21, false)), none, []⟩,
 oG 27 21 false (.lenS (.t 26)),
 oG 28 21 false (.bin .neq (.t 24) (.t 27)),
 oP 29 (.pick (.t 21) (.c (.bool true)) (.t 28))])
 (.cond (.t 29) (.seq (.region 0 [oP 4 (.move (.c (.bool false)))])
 (.ret))
 (.skip)))
 (.seq (.seq (.region 0 [oP 30 (.fieldAddr 2 (.t 3)),
 oQ 31 (.load false 1 (.t 30)),
 oP 32 (.lenS (.t 31)),
 oP 33 (.move (.c (.int .i64 0)))])
 (.block 0 (.loop (.seq (.region 0 [oP 34 (.bin .lss (.t 33) (.t 32))])
 (.seq (.cond (.t 34) (.skip)
 (.exit 0))
 (.seq (.block 1 (.seq (.region 0 [oP 35 (.move (.t 33)),
 oP 36 (.idxSl 1 (.t 31) (.t 33)),
 oQ 37 (.load false 1 (.t 36)),
 oP 5 (.move (.t 35)),
 oP 6 (.move (.t 37))])
 (.seq (.region 0 [oP 38 (.fieldAddr 4 (.t 2)),
 oQ 39 (.load false 1 (.t 38)),
 oP 40 (.move (.t 5)),
 oP 41 (.idxSl 2 (.t 39) (.t 40)),
 oQ 42 (.load true 2 (.t 41)),
 oP 43 (.move (.t 6)),
 oQ 44 (.call 1 50 [(.t 42), (.t 43)]),
 oP 45 (.un .not (.t 44))])
 (.cond (.t 45) (.seq (.region 0 [oP 4 (.move (.c (.bool false)))])
 (.ret))
 (.skip)))))
 (.region 0 [oP 46 (.bin .add (.t 33) (.c (.int .i64 1))),
 oP 33 (.move (.t 46))])))))))
 (.seq (.region 0 [oP 4 (.move (.c (.bool true)))])
 (.ret))))⟩
/-- (almadraba/anchors.net).drags -/
def f41 : AFn := ⟨33, [.cell true 6 4],
 .seq (.region 0 [oQ 2 (.box (.t 0)),
 oQ 3 (.box (.t 1)),
 oQ 4 (.alloc [.bool false, .bool false, .bool false, .bool false, .bool false, .bool false])])
 (.seq (.seq (.region 0 [oP 6 (.fieldAddr 0 (.t 2)),
 oP 7 (.fieldAddr 5 (.t 6)),
 oQ 8 (.load false 1 (.t 7)),
 oP 9 (.lenS (.t 8)),
 oP 10 (.move (.c (.int .i64 0)))])
 (.block 0 (.loop (.seq (.region 0 [oP 11 (.bin .lss (.t 10) (.t 9))])
 (.seq (.cond (.t 11) (.skip)
 (.exit 0))
 (.seq (.block 1 (.seq (.region 0 [oP 12 (.fieldAddr 0 (.t 2)),
 oP 13 (.fieldAddr 5 (.t 12)),
 oQ 14 (.load false 1 (.t 13)),
 oP 15 (.lenS (.t 14)),
 oP 16 (.move (.c (.int .i64 0)))])
 (.block 2 (.loop (.seq (.region 0 [oP 17 (.bin .lss (.t 16) (.t 15))])
 (.seq (.cond (.t 17) (.skip)
 (.exit 2))
 (.seq (.block 3 (.seq (.region 0 [oP 18 (.move (.t 16)),
 oP 5 (.move (.t 18))])
 (.seq (.region 0 [oP 19 (.move (.t 5)),
 oP 20 (.idxArr 6 1 (.t 3) (.t 19)),
 oQ 21 (.load false 1 (.t 20)),
 oP 22 (.un .not (.t 21))])
 (.cond (.t 22) (.region 0 [oP 23 (.move (.t 5)),
 oQ 24 (.load true 10 (.t 2)),
 oP 25 (.move (.t 5)),
 oQ 26 (.load true 6 (.t 3)),
 oQ 27 (.call 1 51 [(.t 24), (.t 25), (.t 26)]),
 oP 28 (.bin .lss (.t 27) (.c (.int .i64 0))),
 oP 29 (.idxArr 6 1 (.t 3) (.t 23)),
 ⟨none, .store 1 (.t 29) (.t 28), none, none, []⟩])
 (.skip)))))
 (.region 0 [oP 30 (.bin .add (.t 16) (.c (.int .i64 1))),
 oP 16 (.move (.t 30))]))))))))
 (.region 0 [oP 31 (.bin .add (.t 10) (.c (.int .i64 1))),
 oP 10 (.move (.t 31))])))))))
 (.seq (.region 0 [oQ 32 (.load true 6 (.t 3)),
 ⟨none, .store 6 (.t 4) (.t 32), none, none, []⟩])
 (.ret)))⟩
/-- (almadraba/anchors.moved).list -/
def f42 : AFn := ⟨18, [.tmp 2],
 .seq (.region 0 [oQ 1 (.box (.t 0)),
 oP 2 (.move (.c (.nils)))])
 (.seq (.region 0 [oP 3 (.move (.c (.nils)))])
 (.seq (.seq (.region 0 [oQ 6 (.load true 6 (.t 1)),
 oP 7 (.move (.c (.int .i64 0)))])
 (.block 0 (.loop (.seq (.region 0 [oP 8 (.bin .lss (.t 7) (.c (.int .i64 6)))])
 (.seq (.cond (.t 8) (.skip)
 (.exit 0))
 (.seq (.block 1 (.seq (.region 0 [oP 9 (.move (.t 7)),
 oP 10 (.idx false 6 1 (.t 6) (.t 7)),
 oP 4 (.move (.t 9)),
 oP 5 (.move (.t 10))])
 (.seq (.region 0 [oP 11 (.move (.t 5))])
 (.cond (.t 11) (.region 0 [oP 12 (.move (.t 3)),
 oP 13 (.move (.t 4)),
 oQ 14 (.litS 1 1 [.int .i64 0] [(0, (.t 13))]),
 oQ 15 (.append false 1 8 (.t 12) (.t 14)),
 oP 3 (.move (.t 15))])
 (.skip)))))
 (.region 0 [oP 16 (.bin .add (.t 7) (.c (.int .i64 1))),
 oP 7 (.move (.t 16))])))))))
 (.seq (.region 0 [oP 17 (.move (.t 3)),
 oP 2 (.move (.t 17))])
 (.ret))))⟩
/-- almadraba/almadrabaref02.Copy -/
def f43 : AFn := ⟨21, [.cell true 7 2],
 .seq (.region 0 [oQ 1 (.box (.t 0)),
 oQ 2 (.alloc [.int .i64 0, .int .i64 0, .int .i64 0, .int .i64 0, .nils, .nils, .nils])])
 (.seq (.region 0 [oQ 4 (.load true 7 (.t 1)),
 oQ 3 (.alloc [.int .i64 0, .int .i64 0, .int .i64 0, .int .i64 0, .nils, .nils, .nils]),
 ⟨none, .store 7 (.t 3) (.t 4), none, none, []⟩])
 (.seq (.region 0 [oQ 5 (.buildSlice 2 0 [.int .i64 0, .int .i64 0] []),
 oP 6 (.fieldAddr 4 (.t 1)),
 oQ 7 (.load false 1 (.t 6)),
 oQ 8 (.append false 2 16 (.t 5) (.t 7)),
 oP 9 (.fieldAddr 4 (.t 3)),
 ⟨none, .store 1 (.t 9) (.t 8), none, none, []⟩])
 (.seq (.region 0 [oQ 10 (.buildSlice 2 0 [.int .i64 0, .int .i64 0] []),
 oP 11 (.fieldAddr 5 (.t 1)),
 oQ 12 (.load false 1 (.t 11)),
 oQ 13 (.append false 2 16 (.t 10) (.t 12)),
 oP 14 (.fieldAddr 5 (.t 3)),
 ⟨none, .store 1 (.t 14) (.t 13), none, none, []⟩])
 (.seq (.region 0 [oQ 15 (.buildSlice 5 0 [.int .i64 0, .int .i64 0, .int .i64 0, .int .i64 0, .int .i64 0] []),
 oP 16 (.fieldAddr 6 (.t 1)),
 oQ 17 (.load false 1 (.t 16)),
 oQ 18 (.append false 5 40 (.t 15) (.t 17)),
 oP 19 (.fieldAddr 6 (.t 3)),
 ⟨none, .store 1 (.t 19) (.t 18), none, none, []⟩])
 (.seq (.region 0 [oQ 20 (.load true 7 (.t 3)),
 ⟨none, .store 7 (.t 2) (.t 20), none, none, []⟩])
 (.ret))))))⟩
/-- almadraba/counts.Check -/
def f44 : AFn := ⟨6, [.tmp 2],
 .seq (.region 0 [oQ 1 (.box (.t 0)),
 oP 2 (.move (.c (.int .i64 0)))])
 (.seq (.seq (.region 0 [oQ 3 (.load true 4 (.t 1)),
 oQ 4 (.call 1 52 [(.t 3)]),
 oP 5 (.un .not (.t 4))])
 (.cond (.t 5) (.seq (.region 0 [oP 2 (.move (.c (.int .i64 10)))])
 (.ret))
 (.skip)))
 (.seq (.region 0 [oP 2 (.move (.c (.int .i64 0)))])
 (.ret)))⟩
/-- almadraba/counts.build -/
def f45 : AFn := ⟨20, [.tmp 2, .tmp 3],
 .seq (.region 0 [oQ 1 (.box (.t 0)),
 oP 2 (.move (.c (.nilp))),
 oP 3 (.move (.c (.bool false)))])
 (.seq (.region 1 [⟨(some 5), .load true 4 (.t 1), none, none, [0]⟩,
 ⟨(some 6), .call 1 53 [], none, none, [0]⟩,
 oP 7 (.build [.int .i64 0, .int .i64 0, .nils, .nils, .int .i64 0, .int .i64 0, .int .i64 0, .int .i64 0, .int .i64 0, .int .i64 0, .int .i64 0, .int .i64 0, .int .i64 0, .int .i64 0, .int .i64 0, .int .i64 0, .int .i64 0, .int .i64 0, .int .i64 0, .int .i64 0, .int .i64 0, .int .i64 0, .int .i64 0, .int .i64 0, .int .i64 0, .int .i64 0, .int .i64 0, .int .i64 0, .int .i64 0, .int .i64 0, .int .i64 0, .int .i64 0, .int .i64 0, .int .i64 0, .int .i64 0, .int .i64 0, .int .i64 0, .int .i64 0, .int .i64 0, .int .i64 0, .int .i64 0, .int .i64 0, .int .i64 0, .int .i64 0, .int .i64 0, .int .i64 0, .int .i64 0, .int .i64 0, .int .i64 0, .int .i64 0, .int .i64 0, .int .i64 0, .int .i64 0, .int .i64 0, .int .i64 0, .int .i64 0, .int .i64 0, .int .i64 0, .int .i64 0, .int .i64 0, .int .i64 0, .int .i64 0, .int .i64 0, .int .i64 0, .int .i64 0, .int .i64 0, .int .i64 0, .int .i64 0, .int .i64 0, .int .i64 0, .int .i64 0, .int .i64 0, .int .i64 0, .int .i64 0, .int .i64 0, .int .i64 0, .int .i64 0, .int .i64 0, .int .i64 0, .int .i64 0, .int .i64 0, .int .i64 0, .int .i64 0, .int .i64 0, .int .i64 0, .int .i64 0, .int .i64 0, .int .i64 0, .int .i64 0, .int .i64 0, .int .i64 0, .int .i64 0, .int .i64 0, .int .i64 0, .int .i64 0, .int .i64 0, .int .i64 0, .int .i64 0, .int .i64 0, .int .i64 0, .int .i64 0, .int .i64 0, .int .i64 0, .int .i64 0, .int .i64 0, .int .i64 0, .int .i64 0, .int .i64 0, .int .i64 0, .int .i64 0, .int .i64 0, .int .i64 0, .int .i64 0, .int .i64 0, .int .i64 0, .int .i64 0, .int .i64 0, .int .i64 0, .int .i64 0, .int .i64 0, .int .i64 0, .int .i64 0, .int .i64 0, .int .i64 0, .int .i64 0, .int .i64 0, .int .i64 0, .int .i64 0, .int .i64 0, .int .i64 0, .int .i64 0, .int .i64 0, .int .i64 0, .int .i64 0, .int .i64 0, .int .i64 0, .int .i64 0, .int .i64 0, .int .i64 0, .int .i64 0, .int .i64 0, .int .i64 0, .int .i64 0, .int .i64 0, .int .i64 0, .int .i64 0, .int .i64 0, .int .i64 0, .int .i64 0, .int .i64 0, .int .i64 0, .int .i64 0, .int .i64 0, .int .i64 0, .int .i64 0, .int .i64 0, .int .i64 0, .int .i64 0, .int .i64 0, .int .i64 0, .int .i64 0, .int .i64 0, .int .i64 0, .int .i64 0, .int .i64 0, .int .i64 0, .int .i64 0, .int .i64 0, .int .i64 0, .int .i64 0, .int .i64 0, .int .i64 0, .int .i64 0, .int .i64 0, .int .i64 0, .int .i64 0, .int .i64 0, .int .i64 0, .int .i64 0, .int .i64 0, .int .i64 0, .int .i64 0, .int .i64 0, .int .i64 0, .int .i64 0, .int .i64 0, .int .i64 0, .int .i64 0, .int .i64 0, .int .i64 0, .int .i64 0, .int .i64 0, .int .i64 0, .int .i64 0, .int .i64 0, .int .i64 0, .int .i64 0, .int .i64 0, .int .i64 0, .int .i64 0, .int .i64 0, .int .i64 0, .int .i64 0, .int .i64 0, .int .i64 0, .int .i64 0, .int .i64 0, .int .i64 0, .int .i64 0, .int .i64 0, .int .i64 0, .int .i64 0, .int .i64 0, .int .i64 0, .int .i64 0, .int .i64 0, .int .i64 0, .int .i64 0, .int .i64 0, .int .i64 0, .int .i64 0, .int .i64 0, .int .i64 0, .int .i64 0, .int .i64 0, .int .i64 0, .int .i64 0, .int .i64 0, .int .i64 0, .int .i64 0, .int .i64 0, .int .i64 0, .int .i64 0, .int .i64 0, .int .i64 0, .int .i64 0, .int .i64 0, .int .i64 0, .int .i64 0, .int .i64 0, .int .i64 0, .int .i64 0, .int .i64 0, .int .i64 0, .int .i64 0, .int .i64 0, .int .i64 0, .int .i64 0, .int .i64 0, .int .i64 0, .int .i64 0, .int .i64 0, .int .i64 0, .int .i64 0, .int .i64 0, .int .i64 0, .int .i64 0, .int .i64 0, .int .i64 0, .int .i64 0, .int .i64 0, .int .i64 0, .int .i64 0, .int .i64 0, .int .i64 0, .int .i64 0, .int .i64 0, .int .i64 0, .int .i64 0, .int .i64 0, .int .i64 0, .int .i64 0, .int .i64 0, .int .i64 0, .int .i64 0, .int .i64 0, .int .i64 0, .int .i64 0, .int .i64 0, .int .i64 0, .int .i64 0, .int .i64 0, .int .i64 0, .int .i64 0, .int .i64 0, .int .i64 0, .int .i64 0, .int .i64 0, .int .i64 0, .int .i64 0, .int .i64 0, .int .i64 0, .int .i64 0, .int .i64 0, .int .i64 0, .int .i64 0, .int .i64 0, .int .i64 0, .int .i64 0, .int .i64 0, .int .i64 0, .int .i64 0, .int .i64 0, .int .i64 0, .int .i64 0, .int .i64 0, .int .i64 0, .int .i64 0, .int .i64 0, .int .i64 0, .int .i64 0, .int .i64 0, .int .i64 0, .int .i64 0, .int .i64 0, .int .i64 0, .int .i64 0, .int .i64 0, .int .i64 0, .int .i64 0, .int .i64 0, .int .i64 0, .int .i64 0, .int .i64 0, .int .i64 0, .int .i64 0, .int .i64 0, .int .i64 0, .int .i64 0, .int .i64 0, .int .i64 0, .int .i64 0, .int .i64 0, .int .i64 0, .int .i64 0, .int .i64 0, .int .i64 0, .int .i64 0, .int .i64 0, .int .i64 0, .int .i64 0, .int .i64 0, .int .i64 0, .int .i64 0, .int .i64 0, .int .i64 0, .int .i64 0, .int .i64 0, .int .i64 0, .int .i64 0, .int .i64 0, .int .i64 0, .int .i64 0, .int .i64 0, .int .i64 0, .int .i64 0, .int .i64 0, .int .i64 0, .int .i64 0, .int .i64 0, .int .i64 0, .int .i64 0, .int .i64 0, .int .i64 0, .int .i64 0, .int .i64 0, .int .i64 0, .int .i64 0, .int .i64 0, .int .i64 0, .int .i64 0, .int .i64 0, .int .i64 0, .int .i64 0, .int .i64 0, .int .i64 0, .int .i64 0, .int .i64 0, .int .i64 0, .int .i64 0, .int .i64 0, .int .i64 0, .int .i64 0, .int .i64 0, .int .i64 0, .int .i64 0, .int .i64 0, .int .i64 0, .int .i64 0, .int .i64 0, .int .i64 0, .int .i64 0, .int .i64 0, .int .i64 0, .int .i64 0, .int .i64 0, .int .i64 0, .int .i64 0, .int .i64 0, .int .i64 0, .int .i64 0, .int .i64 0, .int .i64 0, .int .i64 0, .int .i64 0, .int .i64 0, .int .i64 0, .int .i64 0, .int .i64 0, .int .i64 0, .int .i64 0, .int .i64 0, .int .i64 0, .int .i64 0, .int .i64 0, .int .i64 0, .int .i64 0, .int .i64 0, .int .i64 0, .int .i64 0, .int .i64 0, .int .i64 0, .int .i64 0, .int .i64 0, .int .i64 0, .int .i64 0, .int .i64 0, .int .i64 0, .int .i64 0, .int .i64 0, .int .i64 0, .int .i64 0, .int .i64 0, .int .i64 0, .int .i64 0, .int .i64 0, .int .i64 0, .int .i64 0, .int .i64 0, .int .i64 0, .int .i64 0, .int .i64 0, .int .i64 0, .int .i64 0, .int .i64 0] [(0, 4, (.t 5)), (4, 441, (.t 6))]),
 ⟨(some 8), .box (.t 7), none, (some 0), []⟩,
 oP 4 (.move (.t 8))])
 (.seq (.region 0 [oP 9 (.move (.t 4)),
 oP 10 (.move (.t 4)),
 oQ 11 (.call 0 54 [(.t 10)]),
 oP 12 (.move (.t 11)),
 oG 13 12 true (.move (.t 4)),
 ⟨(some 14), .call 0 55 [(.t 13)], (some (12, true)), none, []⟩,
 oP 15 (.pick (.t 12) (.t 14) (.c (.bool false))),
 oP 16 (.move (.t 15)),
 oG 17 16 true (.move (.t 4)),
 ⟨(some 18), .call 0 56 [(.t 17)], (some (16, true)), none, []⟩,
 oP 19 (.pick (.t 16) (.t 18) (.c (.bool false))),
 oP 2 (.move (.t 9)),
 oP 3 (.move (.t 19))])
 (.ret)))⟩
/-- almadraba/counts.isTime -/
def f46 : AFn := ⟨13, [.tmp 4],
 .seq (.region 0 [oQ 2 (.box (.t 0)),
 oP 4 (.move (.c (.bool false)))])
 (.seq (.region 0 [oP 5 (.move (.t 1)),
 oP 6 (.bin .leq (.c (.int .i64 0)) (.t 5)),
 oP 7 (.move (.t 6)),
 oG 8 7 true (.move (.t 1)),
 oG 9 7 true (.fieldAddr 1 (.t 2)),
 ⟨(some 10), .load false 1 (.t 9), (some (7, true)), none, []⟩,
 oG 11 7 true (.bin .lss (.t 8) (.t 10)),
 oP 12 (.pick (.t 7) (.t 11) (.c (.bool false))),
 oP 4 (.move (.t 12))])
 (.ret))⟩
/-- (*almadraba/counts.bounds).between -/
def f47 : AFn := ⟨23, [.cell true 2 6],
 .seq (.region 0 [oQ 6 (.alloc [.int .i64 0, .int .i64 0])])
 (.seq (.region 0 [oP 7 (.move (.t 0)),
 oP 8 (.move (.t 2)),
 oP 9 (.move (.t 1)),
 oP 10 (.nilCheck (.t 7)),
 oP 11 (.idxArr 21 21 (.t 10) (.t 8)),
 oP 12 (.idxArr 21 1 (.t 11) (.t 9)),
 oQ 13 (.load false 1 (.t 12)),
 oP 14 (.un .neg (.t 13)),
 oP 15 (.move (.t 0)),
 oP 16 (.move (.t 1)),
 oP 17 (.move (.t 2)),
 oP 18 (.nilCheck (.t 15)),
 oP 19 (.idxArr 21 21 (.t 18) (.t 16)),
 oP 20 (.idxArr 21 1 (.t 19) (.t 17)),
 oQ 21 (.load false 1 (.t 20)),
 oP 22 (.build [.int .i64 0, .int .i64 0] [(0, 1, (.t 14)), (1, 1, (.t 21))]),
 ⟨none, .store 2 (.t 6) (.t 22), none, none, []⟩])
 (.ret))⟩
/-- (*almadraba/counts.trap).sum -/
def f48 : AFn := ⟨19, [.tmp 6],
 .seq (.region 0 [oP 6 (.move (.c (.int .i64 0)))])
 (.seq (.seq (.region 0 [oP 7 (.move (.t 2)),
 oP 8 (.move (.t 0)),
 oP 9 (.nilCheck (.t 8)),
 oP 10 (.fieldAddr 0 (.t 9)),
 oP 11 (.fieldAddr 0 (.t 10)),
 oQ 12 (.load false 1 (.t 11)),
 oP 13 (.bin .eql (.t 7) (.t 12))])
 (.cond (.t 13) (.seq (.region 0 [oP 6 (.move (.c (.int .i64 0)))])
 (.ret))
 (.skip)))
 (.seq (.region 0 [oP 14 (.move (.t 1)),
 oP 15 (.bin .mul (.t 14) (.c (.int .i64 4))),
 oP 16 (.bin .add (.c (.int .i64 1)) (.t 15)),
 oP 17 (.move (.t 2)),
 oP 18 (.bin .add (.t 16) (.t 17)),
 oP 6 (.move (.t 18))])
 (.ret)))⟩
/-- almadraba/anchors.Check -/
def f49 : AFn := ⟨6, [.tmp 2],
 .seq (.region 0 [oQ 1 (.box (.t 0)),
 oP 2 (.move (.c (.int .i64 0)))])
 (.seq (.seq (.region 0 [oQ 3 (.load true 7 (.t 1)),
 oQ 4 (.call 1 57 [(.t 3)]),
 oP 5 (.un .not (.t 4))])
 (.cond (.t 5) (.seq (.region 0 [oP 2 (.move (.c (.int .i64 20)))])
 (.ret))
 (.skip)))
 (.seq (.region 0 [oP 2 (.move (.c (.int .i64 0)))])
 (.ret)))⟩
/-- almadraba/anchors.within -/
def f50 : AFn := ⟨15, [.tmp 4],
 .seq (.region 0 [oQ 2 (.box (.t 0)),
 oP 4 (.move (.c (.bool false)))])
 (.seq (.region 0 [oP 5 (.fieldAddr 0 (.t 2)),
 oQ 6 (.load false 1 (.t 5)),
 oP 7 (.move (.t 1)),
 oP 8 (.bin .leq (.t 6) (.t 7)),
 oP 9 (.move (.t 8)),
 oG 10 9 true (.move (.t 1)),
 oG 11 9 true (.fieldAddr 1 (.t 2)),
 ⟨(some 12), .load false 1 (.t 11), (some (9, true)), none, []⟩,
 oG 13 9 true (.bin .leq (.t 10) (.t 12)),
 oP 14 (.pick (.t 9) (.t 13) (.c (.bool false))),
 oP 4 (.move (.t 14))])
 (.ret))⟩
/-- (almadraba/anchors.net).spare -/
def f51 : AFn := ⟨30, [.tmp 6],
 .seq (.region 0 [oQ 3 (.box (.t 0)),
 oQ 5 (.box (.t 2)),
 oP 6 (.move (.c (.int .i64 0)))])
 (.seq (.region 0 [oP 8 (.fieldAddr 0 (.t 3)),
 oP 9 (.fieldAddr 5 (.t 8)),
 oQ 10 (.load false 1 (.t 9)),
 oP 11 (.move (.t 1)),
 oP 12 (.idxSl 2 (.t 10) (.t 11)),
 oQ 13 (.load true 2 (.t 12)),
 oQ 7 (.alloc [.int .i64 0, .int .i64 0]),
 ⟨none, .store 2 (.t 7) (.t 13), none, none, []⟩])
 (.seq (.region 0 [oP 14 (.fieldAddr 0 (.t 7)),
 oQ 15 (.load false 1 (.t 14)),
 oP 16 (.bin .mul (.c (.int .i64 2)) (.t 15)),
 oP 17 (.fieldAddr 7 (.t 3)),
 oP 18 (.fieldAddr 2 (.t 17)),
 oQ 19 (.load false 1 (.t 18)),
 oP 20 (.fieldAddr 1 (.t 7)),
 oQ 21 (.load false 1 (.t 20)),
 oP 22 (.idxSl 1 (.t 19) (.t 21)),
 oQ 23 (.load false 1 (.t 22)),
 oP 24 (.bin .mul (.t 16) (.t 23)),
 oQ 25 (.load true 10 (.t 3)),
 oP 26 (.move (.t 1)),
 oQ 27 (.load true 6 (.t 5)),
 oQ 28 (.call 1 58 [(.t 25), (.t 26), (.t 27)]),
 oP 29 (.bin .sub (.t 24) (.t 28)),
 oP 6 (.move (.t 29))])
 (.ret)))⟩
/-- almadraba/counts.valid -/
def f52 : AFn := ⟨63, [.tmp 2],
 .seq (.region 0 [oQ 1 (.box (.t 0)),
 oP 2 (.move (.c (.bool false)))])
 (.seq (.seq (.region 0 [oP 7 (.fieldAddr 0 (.t 1)),
 oQ 8 (.load false 1 (.t 7)),
 oP 9 (.bin .lss (.t 8) (.c (.int .i64 1))),
 oP 10 (.move (.t 9)),
 oG 11 10 false (.fieldAddr 0 (.t 1)),
 ⟨(some 12), .load false 1 (.t 11), (some (10, false)), none, []⟩,
 oG 13 10 false (.bin .gtr (.t 12) (.c (.int .i64 4))),
 oP 14 (.pick (.t 10) (.c (.bool true)) (.t 13)),
 oP 15 (.move (.t 14)),
 oG 16 15 false (.fieldAddr 1 (.t 1)),
 ⟨(some 17), .load false 1 (.t 16), (some (15, false)), none, []⟩,
 oG 18 15 false (.bin .lss (.t 17) (.c (.int .i64 1))),
 oP 19 (.pick (.t 15) (.c (.bool true)) (.t 18)),
 oP 20 (.move (.t 19)),
 oG 21 20 false (.fieldAddr 1 (.t 1)),
 ⟨(some 22), .load false 1 (.t 21), (some (20, false)), none, []⟩,
 oG 23 20 false (.bin .gtr (.t 22) (.c (.int .i64 5))),
 oP 24 (.pick (.t 20) (.c (.bool true)) (.t 23))])
 (.cond (.t 24) (.seq (.region 0 [oP 2 (.move (.c (.bool false)))])
 (.ret))
 (.skip)))
 (.seq (.seq (.region 0 [oP 25 (.fieldAddr 2 (.t 1)),
 oQ 26 (.load false 1 (.t 25)),
 oP 27 (.lenS (.t 26)),
 oP 28 (.fieldAddr 1 (.t 1)),
 oQ 29 (.load false 1 (.t 28)),
 oP 30 (.bin .sub (.t 29) (.c (.int .i64 1))),
 oP 31 (.bin .neq (.t 27) (.t 30)),
 oP 32 (.move (.t 31)),
 oG 33 32 false (.fieldAddr 3 (.t 1)),
 ⟨(some 34), .load false 1 (.t 33), (some (32, false)), none, []⟩,
 oG 35 32 false (.lenS (.t 34)),
 oG 36 32 false (.bin .gtr (.t 35) (.c (.int .i64 8))),
 oP 37 (.pick (.t 32) (.c (.bool true)) (.t 36))])
 (.cond (.t 37) (.seq (.region 0 [oP 2 (.move (.c (.bool false)))])
 (.ret))
 (.skip)))
 (.seq (.seq (.region 0 [oP 38 (.fieldAddr 2 (.t 1)),
 oQ 39 (.load false 1 (.t 38)),
 oP 40 (.lenS (.t 39)),
 oP 41 (.move (.c (.int .i64 0)))])
 (.block 0 (.loop (.seq (.region 0 [oP 42 (.bin .lss (.t 41) (.t 40))])
 (.seq (.cond (.t 42) (.skip)
 (.exit 0))
 (.seq (.block 1 (.seq (.region 0 [oP 43 (.idxSl 1 (.t 39) (.t 41)),
 oQ 44 (.load false 1 (.t 43)),
 oP 4 (.move (.t 44))])
 (.seq (.region 0 [oP 45 (.move (.t 4)),
 oP 46 (.fieldAddr 0 (.t 1)),
 oQ 47 (.load false 1 (.t 46)),
 oQ 48 (.call 1 59 [(.t 45), (.t 47)]),
 oP 49 (.un .not (.t 48))])
 (.cond (.t 49) (.seq (.region 0 [oP 2 (.move (.c (.bool false)))])
 (.ret))
 (.skip)))))
 (.region 0 [oP 50 (.bin .add (.t 41) (.c (.int .i64 1))),
 oP 41 (.move (.t 50))])))))))
 (.seq (.seq (.region 0 [oP 51 (.fieldAddr 3 (.t 1)),
 oQ 52 (.load false 1 (.t 51)),
 oP 53 (.lenS (.t 52)),
 oP 54 (.move (.c (.int .i64 0)))])
 (.block 2 (.loop (.seq (.region 0 [oP 55 (.bin .lss (.t 54) (.t 53))])
 (.seq (.cond (.t 55) (.skip)
 (.exit 2))
 (.seq (.block 3 (.seq (.region 0 [oP 56 (.idxSl 4 (.t 52) (.t 54)),
 oQ 57 (.load true 4 (.t 56)),
 oQ 6 (.alloc [.int .i64 0, .int .i64 0, .int .i64 0, .int .i64 0]),
 ⟨none, .store 4 (.t 6) (.t 57), none, none, []⟩])
 (.seq (.region 0 [oQ 58 (.load true 4 (.t 1)),
 oQ 59 (.load true 4 (.t 6)),
 oQ 60 (.call 1 60 [(.t 58), (.t 59)]),
 oP 61 (.un .not (.t 60))])
 (.cond (.t 61) (.seq (.region 0 [oP 2 (.move (.c (.bool false)))])
 (.ret))
 (.skip)))))
 (.region 0 [oP 62 (.bin .add (.t 54) (.c (.int .i64 1))),
 oP 54 (.move (.t 62))])))))))
 (.seq (.region 0 [oP 2 (.move (.c (.bool true)))])
 (.ret))))))⟩
/-- almadraba/counts.widest -/
def f53 : AFn := ⟨24, [.cell true 441 0],
 .seq (.region 0 [oQ 0 (.alloc [.int .i64 0, .int .i64 0, .int .i64 0, .int .i64 0, .int .i64 0, .int .i64 0, .int .i64 0, .int .i64 0, .int .i64 0, .int .i64 0, .int .i64 0, .int .i64 0, .int .i64 0, .int .i64 0, .int .i64 0, .int .i64 0, .int .i64 0, .int .i64 0, .int .i64 0, .int .i64 0, .int .i64 0, .int .i64 0, .int .i64 0, .int .i64 0, .int .i64 0, .int .i64 0, .int .i64 0, .int .i64 0, .int .i64 0, .int .i64 0, .int .i64 0, .int .i64 0, .int .i64 0, .int .i64 0, .int .i64 0, .int .i64 0, .int .i64 0, .int .i64 0, .int .i64 0, .int .i64 0, .int .i64 0, .int .i64 0, .int .i64 0, .int .i64 0, .int .i64 0, .int .i64 0, .int .i64 0, .int .i64 0, .int .i64 0, .int .i64 0, .int .i64 0, .int .i64 0, .int .i64 0, .int .i64 0, .int .i64 0, .int .i64 0, .int .i64 0, .int .i64 0, .int .i64 0, .int .i64 0, .int .i64 0, .int .i64 0, .int .i64 0, .int .i64 0, .int .i64 0, .int .i64 0, .int .i64 0, .int .i64 0, .int .i64 0, .int .i64 0, .int .i64 0, .int .i64 0, .int .i64 0, .int .i64 0, .int .i64 0, .int .i64 0, .int .i64 0, .int .i64 0, .int .i64 0, .int .i64 0, .int .i64 0, .int .i64 0, .int .i64 0, .int .i64 0, .int .i64 0, .int .i64 0, .int .i64 0, .int .i64 0, .int .i64 0, .int .i64 0, .int .i64 0, .int .i64 0, .int .i64 0, .int .i64 0, .int .i64 0, .int .i64 0, .int .i64 0, .int .i64 0, .int .i64 0, .int .i64 0, .int .i64 0, .int .i64 0, .int .i64 0, .int .i64 0, .int .i64 0, .int .i64 0, .int .i64 0, .int .i64 0, .int .i64 0, .int .i64 0, .int .i64 0, .int .i64 0, .int .i64 0, .int .i64 0, .int .i64 0, .int .i64 0, .int .i64 0, .int .i64 0, .int .i64 0, .int .i64 0, .int .i64 0, .int .i64 0, .int .i64 0, .int .i64 0, .int .i64 0, .int .i64 0, .int .i64 0, .int .i64 0, .int .i64 0, .int .i64 0, .int .i64 0, .int .i64 0, .int .i64 0, .int .i64 0, .int .i64 0, .int .i64 0, .int .i64 0, .int .i64 0, .int .i64 0, .int .i64 0, .int .i64 0, .int .i64 0, .int .i64 0, .int .i64 0, .int .i64 0, .int .i64 0, .int .i64 0, .int .i64 0, .int .i64 0, .int .i64 0, .int .i64 0, .int .i64 0, .int .i64 0, .int .i64 0, .int .i64 0, .int .i64 0, .int .i64 0, .int .i64 0, .int .i64 0, .int .i64 0, .int .i64 0, .int .i64 0, .int .i64 0, .int .i64 0, .int .i64 0, .int .i64 0, .int .i64 0, .int .i64 0, .int .i64 0, .int .i64 0, .int .i64 0, .int .i64 0, .int .i64 0, .int .i64 0, .int .i64 0, .int .i64 0, .int .i64 0, .int .i64 0, .int .i64 0, .int .i64 0, .int .i64 0, .int .i64 0, .int .i64 0, .int .i64 0, .int .i64 0, .int .i64 0, .int .i64 0, .int .i64 0, .int .i64 0, .int .i64 0, .int .i64 0, .int .i64 0, .int .i64 0, .int .i64 0, .int .i64 0, .int .i64 0, .int .i64 0, .int .i64 0, .int .i64 0, .int .i64 0, .int .i64 0, .int .i64 0, .int .i64 0, .int .i64 0, .int .i64 0, .int .i64 0, .int .i64 0, .int .i64 0, .int .i64 0, .int .i64 0, .int .i64 0, .int .i64 0, .int .i64 0, .int .i64 0, .int .i64 0, .int .i64 0, .int .i64 0, .int .i64 0, .int .i64 0, .int .i64 0, .int .i64 0, .int .i64 0, .int .i64 0, .int .i64 0, .int .i64 0, .int .i64 0, .int .i64 0, .int .i64 0, .int .i64 0, .int .i64 0, .int .i64 0, .int .i64 0, .int .i64 0, .int .i64 0, .int .i64 0, .int .i64 0, .int .i64 0, .int .i64 0, .int .i64 0, .int .i64 0, .int .i64 0, .int .i64 0, .int .i64 0, .int .i64 0, .int .i64 0, .int .i64 0, .int .i64 0, .int .i64 0, .int .i64 0, .int .i64 0, .int .i64 0, .int .i64 0, .int .i64 0, .int .i64 0, .int .i64 0, .int .i64 0, .int .i64 0, .int .i64 0, .int .i64 0, .int .i64 0, .int .i64 0, .int .i64 0, .int .i64 0, .int .i64 0, .int .i64 0, .int .i64 0, .int .i64 0, .int .i64 0, .int .i64 0, .int .i64 0, .int .i64 0, .int .i64 0, .int .i64 0, .int .i64 0, .int .i64 0, .int .i64 0, .int .i64 0, .int .i64 0, .int .i64 0, .int .i64 0, .int .i64 0, .int .i64 0, .int .i64 0, .int .i64 0, .int .i64 0, .int .i64 0, .int .i64 0, .int .i64 0, .int .i64 0, .int .i64 0, .int .i64 0, .int .i64 0, .int .i64 0, .int .i64 0, .int .i64 0, .int .i64 0, .int .i64 0, .int .i64 0, .int .i64 0, .int .i64 0, .int .i64 0, .int .i64 0, .int .i64 0, .int .i64 0, .int .i64 0, .int .i64 0, .int .i64 0, .int .i64 0, .int .i64 0, .int .i64 0, .int .i64 0, .int .i64 0, .int .i64 0, .int .i64 0, .int .i64 0, .int .i64 0, .int .i64 0, .int .i64 0, .int .i64 0, .int .i64 0, .int .i64 0, .int .i64 0, .int .i64 0, .int .i64 0, .int .i64 0, .int .i64 0, .int .i64 0, .int .i64 0, .int .i64 0, .int .i64 0, .int .i64 0, .int .i64 0, .int .i64 0, .int .i64 0, .int .i64 0, .int .i64 0, .int .i64 0, .int .i64 0, .int .i64 0, .int .i64 0, .int .i64 0, .int .i64 0, .int .i64 0, .int .i64 0, .int .i64 0, .int .i64 0, .int .i64 0, .int .i64 0, .int .i64 0, .int .i64 0, .int .i64 0, .int .i64 0, .int .i64 0, .int .i64 0, .int .i64 0, .int .i64 0, .int .i64 0, .int .i64 0, .int .i64 0, .int .i64 0, .int .i64 0, .int .i64 0, .int .i64 0, .int .i64 0, .int .i64 0, .int .i64 0, .int .i64 0, .int .i64 0, .int .i64 0, .int .i64 0, .int .i64 0, .int .i64 0, .int .i64 0, .int .i64 0, .int .i64 0, .int .i64 0, .int .i64 0, .int .i64 0, .int .i64 0, .int .i64 0, .int .i64 0, .int .i64 0, .int .i64 0, .int .i64 0, .int .i64 0, .int .i64 0, .int .i64 0, .int .i64 0, .int .i64 0, .int .i64 0, .int .i64 0, .int .i64 0, .int .i64 0, .int .i64 0, .int .i64 0, .int .i64 0, .int .i64 0, .int .i64 0, .int .i64 0, .int .i64 0, .int .i64 0, .int .i64 0, .int .i64 0, .int .i64 0, .int .i64 0, .int .i64 0, .int .i64 0, .int .i64 0, .int .i64 0, .int .i64 0, .int .i64 0, .int .i64 0, .int .i64 0, .int .i64 0, .int .i64 0, .int .i64 0, .int .i64 0, .int .i64 0, .int .i64 0, .int .i64 0, .int .i64 0, .int .i64 0, .int .i64 0, .int .i64 0, .int .i64 0, .int .i64 0, .int .i64 0, .int .i64 0, .int .i64 0, .int .i64 0, .int .i64 0, .int .i64 0, .int .i64 0, .int .i64 0, .int .i64 0, .int .i64 0, .int .i64 0, .int .i64 0, .int .i64 0, .int .i64 0, .int .i64 0])])
 (.seq (.region 0 [oQ 1 (.alloc [.int .i64 0, .int .i64 0, .int .i64 0, .int .i64 0, .int .i64 0, .int .i64 0, .int .i64 0, .int .i64 0, .int .i64 0, .int .i64 0, .int .i64 0, .int .i64 0, .int .i64 0, .int .i64 0, .int .i64 0, .int .i64 0, .int .i64 0, .int .i64 0, .int .i64 0, .int .i64 0, .int .i64 0, .int .i64 0, .int .i64 0, .int .i64 0, .int .i64 0, .int .i64 0, .int .i64 0, .int .i64 0, .int .i64 0, .int .i64 0, .int .i64 0, .int .i64 0, .int .i64 0, .int .i64 0, .int .i64 0, .int .i64 0, .int .i64 0, .int .i64 0, .int .i64 0, .int .i64 0, .int .i64 0, .int .i64 0, .int .i64 0, .int .i64 0, .int .i64 0, .int .i64 0, .int .i64 0, .int .i64 0, .int .i64 0, .int .i64 0, .int .i64 0, .int .i64 0, .int .i64 0, .int .i64 0, .int .i64 0, .int .i64 0, .int .i64 0, .int .i64 0, .int .i64 0, .int .i64 0, .int .i64 0, .int .i64 0, .int .i64 0, .int .i64 0, .int .i64 0, .int .i64 0, .int .i64 0, .int .i64 0, .int .i64 0, .int .i64 0, .int .i64 0, .int .i64 0, .int .i64 0, .int .i64 0, .int .i64 0, .int .i64 0, .int .i64 0, .int .i64 0, .int .i64 0, .int .i64 0, .int .i64 0, .int .i64 0, .int .i64 0, .int .i64 0, .int .i64 0, .int .i64 0, .int .i64 0, .int .i64 0, .int .i64 0, .int .i64 0, .int .i64 0, .int .i64 0, .int .i64 0, .int .i64 0, .int .i64 0, .int .i64 0, .int .i64 0, .int .i64 0, .int .i64 0, .int .i64 0, .int .i64 0, .int .i64 0, .int .i64 0, .int .i64 0, .int .i64 0, .int .i64 0, .int .i64 0, .int .i64 0, .int .i64 0, .int .i64 0, .int .i64 0, .int .i64 0, .int .i64 0, .int .i64 0, .int .i64 0, .int .i64 0, .int .i64 0, .int .i64 0, .int .i64 0, .int .i64 0, .int .i64 0, .int .i64 0, .int .i64 0, .int .i64 0, .int .i64 0, .int .i64 0, .int .i64 0, .int .i64 0, .int .i64 0, .int .i64 0, .int .i64 0, .int .i64 0, .int .i64 0, .int .i64 0, .int .i64 0, .int .i64 0, .int .i64 0, .int .i64 0, .int .i64 0, .int .i64 0, .int .i64 0, .int .i64 0, .int .i64 0, .int .i64 0, .int .i64 0, .int .i64 0, .int .i64 0, .int .i64 0, .int .i64 0, .int .i64 0, .int .i64 0, .int .i64 0, .int .i64 0, .int .i64 0, .int .i64 0, .int .i64 0, .int .i64 0, .int .i64 0, .int .i64 0, .int .i64 0, .int .i64 0, .int .i64 0, .int .i64 0, .int .i64 0, .int .i64 0, .int .i64 0, .int .i64 0, .int .i64 0, .int .i64 0, .int .i64 0, .int .i64 0, .int .i64 0, .int .i64 0, .int .i64 0, .int .i64 0, .int .i64 0, .int .i64 0, .int .i64 0, .int .i64 0, .int .i64 0, .int .i64 0, .int .i64 0, .int .i64 0, .int .i64 0, .int .i64 0, .int .i64 0, .int .i64 0, .int .i64 0, .int .i64 0, .int .i64 0, .int .i64 0, .int .i64 0, .int .i64 0, .int .i64 0, .int .i64 0, .int .i64 0, .int .i64 0, .int .i64 0, .int .i64 0, .int .i64 0, .int .i64 0, .int .i64 0, .int .i64 0, .int .i64 0, .int .i64 0, .int .i64 0, .int .i64 0, .int .i64 0, .int .i64 0, .int .i64 0, .int .i64 0, .int .i64 0, .int .i64 0, .int .i64 0, .int .i64 0, .int .i64 0, .int .i64 0, .int .i64 0, .int .i64 0, .int .i64 0, .int .i64 0, .int .i64 0, .int .i64 0, .int .i64 0, .int .i64 0, .int .i64 0, .int .i64 0, .int .i64 0, .int .i64 0, .int .i64 0, .int .i64 0, .int .i64 0, .int .i64 0, .int .i64 0, .int .i64 0, .int .i64 0, .int .i64 0, .int .i64 0, .int .i64 0, .int .i64 0, .int .i64 0, .int .i64 0, .int .i64 0, .int .i64 0, .int .i64 0, .int .i64 0, .int .i64 0, .int .i64 0, .int .i64 0, .int .i64 0, .int .i64 0, .int .i64 0, .int .i64 0, .int .i64 0, .int .i64 0, .int .i64 0, .int .i64 0, .int .i64 0, .int .i64 0, .int .i64 0, .int .i64 0, .int .i64 0, .int .i64 0, .int .i64 0, .int .i64 0, .int .i64 0, .int .i64 0, .int .i64 0, .int .i64 0, .int .i64 0, .int .i64 0, .int .i64 0, .int .i64 0, .int .i64 0, .int .i64 0, .int .i64 0, .int .i64 0, .int .i64 0, .int .i64 0, .int .i64 0, .int .i64 0, .int .i64 0, .int .i64 0, .int .i64 0, .int .i64 0, .int .i64 0, .int .i64 0, .int .i64 0, .int .i64 0, .int .i64 0, .int .i64 0, .int .i64 0, .int .i64 0, .int .i64 0, .int .i64 0, .int .i64 0, .int .i64 0, .int .i64 0, .int .i64 0, .int .i64 0, .int .i64 0, .int .i64 0, .int .i64 0, .int .i64 0, .int .i64 0, .int .i64 0, .int .i64 0, .int .i64 0, .int .i64 0, .int .i64 0, .int .i64 0, .int .i64 0, .int .i64 0, .int .i64 0, .int .i64 0, .int .i64 0, .int .i64 0, .int .i64 0, .int .i64 0, .int .i64 0, .int .i64 0, .int .i64 0, .int .i64 0, .int .i64 0, .int .i64 0, .int .i64 0, .int .i64 0, .int .i64 0, .int .i64 0, .int .i64 0, .int .i64 0, .int .i64 0, .int .i64 0, .int .i64 0, .int .i64 0, .int .i64 0, .int .i64 0, .int .i64 0, .int .i64 0, .int .i64 0, .int .i64 0, .int .i64 0, .int .i64 0, .int .i64 0, .int .i64 0, .int .i64 0, .int .i64 0, .int .i64 0, .int .i64 0, .int .i64 0, .int .i64 0, .int .i64 0, .int .i64 0, .int .i64 0, .int .i64 0, .int .i64 0, .int .i64 0, .int .i64 0, .int .i64 0, .int .i64 0, .int .i64 0, .int .i64 0, .int .i64 0, .int .i64 0, .int .i64 0, .int .i64 0, .int .i64 0, .int .i64 0, .int .i64 0, .int .i64 0, .int .i64 0, .int .i64 0, .int .i64 0, .int .i64 0, .int .i64 0, .int .i64 0, .int .i64 0, .int .i64 0, .int .i64 0, .int .i64 0, .int .i64 0, .int .i64 0, .int .i64 0, .int .i64 0, .int .i64 0, .int .i64 0, .int .i64 0, .int .i64 0, .int .i64 0, .int .i64 0, .int .i64 0, .int .i64 0, .int .i64 0, .int .i64 0, .int .i64 0, .int .i64 0, .int .i64 0, .int .i64 0, .int .i64 0, .int .i64 0, .int .i64 0, .int .i64 0, .int .i64 0, .int .i64 0, .int .i64 0, .int .i64 0, .int .i64 0, .int .i64 0, .int .i64 0, .int .i64 0, .int .i64 0, .int .i64 0, .int .i64 0, .int .i64 0, .int .i64 0, .int .i64 0, .int .i64 0, .int .i64 0, .int .i64 0, .int .i64 0, .int .i64 0, .int .i64 0, .int .i64 0, .int .i64 0, .int .i64 0, .int .i64 0, .int .i64 0, .int .i64 0, .int .i64 0, .int .i64 0, .int .i64 0, .int .i64 0, .int .i64 0, .int .i64 0, .int .i64 0, .int .i64 0, .int .i64 0, .int .i64 0, .int .i64 0, .int .i64 0, .int .i64 0])])
 (.seq (.seq (.region 0 [oP 4 (.move (.c (.int .i64 0)))])
 (.block 0 (.loop (.seq (.region 0 [oP 5 (.bin .lss (.t 4) (.c (.int .i64 21)))])
 (.seq (.cond (.t 5) (.skip)
 (.exit 0))
 (.seq (.block 1 (.seq (.region 0 [oP 6 (.move (.t 4)),
 oP 2 (.move (.t 6))])
 (.seq (.region 0 [oP 7 (.move (.c (.int .i64 0)))])
 (.block 2 (.loop (.seq (.region 0 [oP 8 (.bin .lss (.t 7) (.c (.int .i64 21)))])
 (.seq (.cond (.t 8) (.skip)
 (.exit 2))
 (.seq (.block 3 (.seq (.region 0 [oP 9 (.move (.t 7)),
 oP 3 (.move (.t 9))])
 (.seq (.region 0 [oP 10 (.move (.t 2)),
 oP 11 (.move (.t 3)),
 oP 12 (.bin .neq (.t 10) (.t 11)),
 oP 13 (.move (.t 12)),
 oG 14 13 true (.move (.t 2)),
 oG 15 13 true (.bin .neq (.t 14) (.c (.int .i64 0))),
 oP 16 (.pick (.t 13) (.t 15) (.c (.bool false)))])
 (.cond (.t 16) (.region 0 [oP 17 (.move (.t 2)),
 oP 18 (.move (.t 3)),
 oP 19 (.idxArr 21 21 (.t 1) (.t 17)),
 oP 20 (.idxArr 21 1 (.t 19) (.t 18)),
 ⟨none, .store 1 (.t 20) (.c (.int .i64 40)), none, none, []⟩])
 (.skip)))))
 (.region 0 [oP 21 (.bin .add (.t 7) (.c (.int .i64 1))),
 oP 7 (.move (.t 21))])))))))))
 (.region 0 [oP 22 (.bin .add (.t 4) (.c (.int .i64 1))),
 oP 4 (.move (.t 22))])))))))
 (.seq (.region 0 [oQ 23 (.load true 441 (.t 1)),
 ⟨none, .store 441 (.t 0) (.t 23), none, none, []⟩])
 (.ret))))⟩
/-- (*almadraba/counts.trap).fill -/
def f54 : AFn := ⟨12, [.cell false 1 2],
 .seq (.region 0 [oQ 1 (.box (.t 0)),
 oQ 2 (.alloc [.bool false])])
 (.seq (.seq (.region 0 [oQ 4 (.load false 1 (.t 1)),
 oP 5 (.mkFn 61 [(.t 4)] [])])
 (.block 0 (.rangeFunc (.t 5) [6] (.region 0 [oQ 3 (.alloc [.int .i64 0, .int .i64 0]),
 ⟨none, .store 2 (.t 3) (.t 6), none, none, []⟩])
 (.block 1 (.seq (.region 0 [oQ 7 (.load false 1 (.t 1)),
 oQ 8 (.load true 2 (.t 3)),
 oP 9 (.build [.int .i64 0, .int .i64 0] [(1, 1, (.c (.int .i64 40)))]),
 oQ 10 (.call 0 62 [(.t 7), (.t 8), (.t 9)]),
 oP 11 (.un .not (.t 10))])
 (.cond (.t 11) (.seq (.region 0 [⟨none, .store 1 (.t 2) (.c (.bool false)), none, none, []⟩])
 (.ret))
 (.skip)))))))
 (.seq (.region 0 [⟨none, .store 1 (.t 2) (.c (.bool true)), none, none, []⟩])
 (.ret)))⟩
/-- (*almadraba/counts.trap).move -/
def f55 : AFn := ⟨48, [.tmp 2],
 .seq (.region 0 [oP 2 (.move (.c (.bool false)))])
 (.seq (.seq (.region 0 [oP 7 (.move (.t 0)),
 oP 8 (.nilCheck (.t 7)),
 oP 9 (.fieldAddr 0 (.t 8)),
 oP 10 (.fieldAddr 2 (.t 9)),
 oQ 11 (.load false 1 (.t 10)),
 oP 12 (.lenS (.t 11)),
 oP 13 (.move (.c (.int .i64 0)))])
 (.block 0 (.loop (.seq (.region 0 [oP 14 (.bin .lss (.t 13) (.t 12))])
 (.seq (.cond (.t 14) (.skip)
 (.exit 0))
 (.seq (.block 1 (.seq (.region 0 [oP 15 (.move (.t 13)),
 oP 16 (.idxSl 1 (.t 11) (.t 13)),
 oQ 17 (.load false 1 (.t 16)),
 oP 3 (.move (.t 15)),
 oP 4 (.move (.t 17))])
 (.seq (.region 0 [oP 18 (.move (.t 0)),
 oP 19 (.nilCheck (.t 18)),
 oP 20 (.fieldAddr 0 (.t 19)),
 oP 21 (.fieldAddr 0 (.t 20)),
 oQ 22 (.load false 1 (.t 21)),
 oP 23 (.move (.c (.int .i64 0)))])
 (.block 2 (.loop (.seq (.region 0 [oP 24 (.bin .lss (.t 23) (.t 22))])
 (.seq (.cond (.t 24) (.skip)
 (.exit 2))
 (.seq (.block 3 (.seq (.region 0 [oP 25 (.move (.t 23)),
 oP 5 (.move (.t 25))])
 (.seq (.region 0 [oP 26 (.build [.int .i64 0, .int .i64 0] []),
 oQ 6 (.alloc [.int .i64 0, .int .i64 0]),
 ⟨none, .store 2 (.t 6) (.t 26), none, none, []⟩])
 (.seq (.seq (.region 0 [oP 27 (.move (.t 4)),
 oP 28 (.move (.t 5)),
 oQ 29 (.call 1 63 [(.t 27), (.t 28)])])
 (.cond (.t 29) (.region 0 [oP 30 (.fieldAddr 1 (.t 6)),
 ⟨none, .store 1 (.t 30) (.c (.int .i64 40)), none, none, []⟩])
 (.skip)))
 (.seq (.region 0 [oP 31 (.move (.t 0)),
 oP 32 (.nilCheck (.t 31)),
 oP 33 (.fieldAddr 4 (.t 32)),
 oP 34 (.move (.t 0)),
 oP 35 (.move (.t 3)),
 oP 36 (.bin .add (.t 35) (.c (.int .i64 1))),
 oP 37 (.move (.t 5)),
 oQ 38 (.call 3 48 [(.t 34), (.t 36), (.t 37)]),
 oP 39 (.move (.t 0)),
 oP 40 (.move (.t 3)),
 oP 41 (.move (.t 5)),
 oQ 42 (.call 3 48 [(.t 39), (.t 40), (.t 41)]),
 oQ 43 (.load true 2 (.t 6)),
 oQ 44 (.call 0 64 [(.t 33), (.t 38), (.t 42), (.t 43)]),
 oP 45 (.un .not (.t 44))])
 (.cond (.t 45) (.seq (.region 0 [oP 2 (.move (.c (.bool false)))])
 (.ret))
 (.skip)))))))
 (.region 0 [oP 46 (.bin .add (.t 23) (.c (.int .i64 1))),
 oP 23 (.move (.t 46))])))))))))
 (.region 0 [oP 47 (.bin .add (.t 13) (.c (.int .i64 1))),
 oP 13 (.move (.t 47))])))))))
 (.seq (.region 0 [oP 2 (.move (.c (.bool true)))])
 (.ret)))⟩
/-- (*almadraba/counts.trap).hear -/
def f56 : AFn := ⟨31, [.tmp 2],
 .seq (.region 0 [oP 2 (.move (.c (.bool false)))])
 (.seq (.seq (.region 0 [oP 6 (.move (.t 0)),
 oP 7 (.nilCheck (.t 6)),
 oP 8 (.fieldAddr 0 (.t 7)),
 oP 9 (.fieldAddr 3 (.t 8)),
 oQ 10 (.load false 1 (.t 9)),
 oP 11 (.lenS (.t 10)),
 oP 12 (.move (.c (.int .i64 0)))])
 (.block 0 (.loop (.seq (.region 0 [oP 13 (.bin .lss (.t 12) (.t 11))])
 (.seq (.cond (.t 13) (.skip)
 (.exit 0))
 (.seq (.block 1 (.seq (.region 0 [oP 14 (.idxSl 4 (.t 10) (.t 12)),
 oQ 15 (.load true 4 (.t 14)),
 oQ 4 (.alloc [.int .i64 0, .int .i64 0, .int .i64 0, .int .i64 0]),
 ⟨none, .store 4 (.t 4) (.t 15), none, none, []⟩])
 (.seq (.region 0 [oP 16 (.fieldAddr 0 (.t 4)),
 oQ 17 (.load false 1 (.t 16)),
 oP 18 (.fieldAddr 1 (.t 4)),
 oQ 19 (.load false 1 (.t 18)),
 oP 20 (.build [.int .i64 0, .int .i64 0] [(0, 1, (.t 17)), (1, 1, (.t 19))]),
 oQ 5 (.alloc [.int .i64 0, .int .i64 0]),
 ⟨none, .store 2 (.t 5) (.t 20), none, none, []⟩])
 (.seq (.region 0 [oP 21 (.move (.t 0)),
 oQ 22 (.load true 2 (.t 5)),
 oP 23 (.fieldAddr 2 (.t 4)),
 oQ 24 (.load false 1 (.t 23)),
 oP 25 (.fieldAddr 3 (.t 4)),
 oQ 26 (.load false 1 (.t 25)),
 oP 27 (.build [.int .i64 0, .int .i64 0] [(0, 1, (.t 24)), (1, 1, (.t 26))]),
 oQ 28 (.call 0 62 [(.t 21), (.t 22), (.t 27)]),
 oP 29 (.un .not (.t 28))])
 (.cond (.t 29) (.seq (.region 0 [oP 2 (.move (.c (.bool false)))])
 (.ret))
 (.skip))))))
 (.region 0 [oP 30 (.bin .add (.t 12) (.c (.int .i64 1))),
 oP 12 (.move (.t 30))])))))))
 (.seq (.region 0 [oP 2 (.move (.c (.bool true)))])
 (.ret)))⟩
/-- almadraba/anchors.valid -/
def f57 : AFn := ⟨54, [.tmp 2],
 .seq (.region 0 [oQ 1 (.box (.t 0)),
 oP 2 (.move (.c (.bool false)))])
 (.seq (.region 0 [oP 3 (.move (.c (.fn 65 [] [])))])
 (.seq (.region 0 [oP 5 (.mkFn 67 [] [(.t 1)]),
 oP 4 (.move (.t 5))])
 (.seq (.region 0 [oP 6 (.fieldAddr 0 (.t 1)),
 oQ 7 (.load true 2 (.t 6)),
 oQ 8 (.call 1 66 [(.t 7), (.c (.int .i64 20))]),
 oP 9 (.move (.t 8)),
 oG 10 9 true (.fieldAddr 2 (.t 1)),
 ⟨(some 11), .load true 2 (.t 10), (some (9, true)), none, []⟩,
 ⟨(some 12), .call 1 66 [(.t 11), (.c (.int .i64 20))], (some (9, true)), none, []⟩,
 oP 13 (.pick (.t 9) (.t 12) (.c (.bool false))),
 oP 14 (.move (.t 13)),
 oG 15 14 true (.fieldAddr 4 (.t 1)),
 ⟨(some 16), .load false 1 (.t 15), (some (14, true)), none, []⟩,
 oG 17 14 true (.lenS (.t 16)),
 oG 18 14 true (.bin .leq (.t 17) (.c (.int .i64 3))),
 oP 19 (.pick (.t 14) (.t 18) (.c (.bool false))),
 oP 20 (.move (.t 19)),
 oG 21 20 true (.fieldAddr 4 (.t 1)),
 ⟨(some 22), .load false 1 (.t 21), (some (20, true)), none, []⟩,
 oG 23 20 true (.move (.t 3)),
 ⟨(some 24), .call 3 69 [(.t 22), (.t 23)], (some (20, true)), none, []⟩,
 oP 25 (.pick (.t 20) (.t 24) (.c (.bool false))),
 oP 26 (.move (.t 25)),
 oG 27 26 true (.fieldAddr 5 (.t 1)),
 ⟨(some 28), .load false 1 (.t 27), (some (26, true)), none, []⟩,
 oG 29 26 true (.lenS (.t 28)),
 oG 30 26 true (.bin .leq (.t 29) (.c (.int .i64 6))),
 oP 31 (.pick (.t 26) (.t 30) (.c (.bool false))),
 oP 32 (.move (.t 31)),
 oG 33 32 true (.fieldAddr 5 (.t 1)),
 ⟨(some 34), .load false 1 (.t 33), (some (32, true)), none, []⟩,
 oG 35 32 true (.move (.t 4)),
 ⟨(some 36), .call 3 70 [(.t 34), (.t 35)], (some (32, true)), none, []⟩,
 oP 37 (.pick (.t 32) (.t 36) (.c (.bool false))),
 oP 38 (.move (.t 37)),
 oG 39 38 true (.fieldAddr 6 (.t 1)),
 ⟨(some 40), .load false 1 (.t 39), (some (38, true)), none, []⟩,
 oG 41 38 true (.lenS (.t 40)),
 oG 42 38 true (.fieldAddr 5 (.t 1)),
 ⟨(some 43), .load false 1 (.t 42), (some (38, true)), none, []⟩,
 oG 44 38 true (.lenS (.t 43)),
 oG 45 38 true (.bin .sub (.t 44) (.c (.int .i64 1))),
 oG 46 38 true (.minmax true (.c (.int .i64 0)) [(.t 45)]),
 oG 47 38 true (.bin .eql (.t 41) (.t 46)),
 oP 48 (.pick (.t 38) (.t 47) (.c (.bool false))),
 oP 49 (.move (.t 48)),
 oG 50 49 true (.fieldAddr 6 (.t 1)),
 ⟨(some 51), .load false 1 (.t 50), (some (49, true)), none, []⟩,
 ⟨(some 52), .call 3 71 [(.t 51), (.c (.fn 72 [] []))], (some (49, true)), none, []⟩,
 oP 53 (.pick (.t 49) (.t 52) (.c (.bool false))),
 oP 2 (.move (.t 53))])
 (.ret))))⟩
/-- (almadraba/anchors.net).bears -/
def f58 : AFn := ⟨22, [.tmp 6],
 .seq (.region 0 [oQ 3 (.box (.t 0)),
 oQ 5 (.box (.t 2)),
 oP 6 (.move (.c (.int .i64 0)))])
 (.seq (.region 0 [oQ 7 (.alloc [.int .i64 0]),
 ⟨none, .store 1 (.t 7) (.c (.int .i64 0)), none, none, []⟩])
 (.seq (.region 0 [oP 9 (.mkFn 73 [] [(.t 3), (.t 7), (.t 5)]),
 oP 8 (.move (.t 9))])
 (.seq (.region 0 [oP 10 (.move (.t 8)),
 oP 11 (.move (.t 1)),
 oP 12 (.bin .sub (.t 11) (.c (.int .i64 1))),
 oP 13 (.move (.t 1)),
 oP 14 (.bin .sub (.t 13) (.c (.int .i64 1))),
 oQ 15 (.callv false (.t 10) [(.t 12), (.t 14)])])
 (.seq (.region 0 [oP 16 (.move (.t 8)),
 oP 17 (.move (.t 1)),
 oP 18 (.move (.t 1)),
 oP 19 (.bin .add (.t 18) (.c (.int .i64 1))),
 oQ 20 (.callv false (.t 16) [(.t 17), (.t 19)])])
 (.seq (.region 0 [oQ 21 (.load false 1 (.t 7)),
 oP 6 (.move (.t 21))])
 (.ret))))))⟩
/-- almadraba/counts.ascending -/
def f59 : AFn := ⟨24, [.tmp 4],
 .seq (.region 0 [oP 4 (.move (.c (.bool false)))])
 (.seq (.region 0 [oP 5 (.move (.c (.int .i64 (-1))))])
 (.seq (.seq (.region 0 [oP 8 (.move (.t 0)),
 oP 9 (.lenS (.t 8)),
 oP 10 (.move (.c (.int .i64 0)))])
 (.block 0 (.loop (.seq (.region 0 [oP 11 (.bin .lss (.t 10) (.t 9))])
 (.seq (.cond (.t 11) (.skip)
 (.exit 0))
 (.seq (.block 1 (.seq (.region 0 [oP 12 (.idxSl 1 (.t 8) (.t 10)),
 oQ 13 (.load false 1 (.t 12)),
 oP 7 (.move (.t 13))])
 (.seq (.seq (.region 0 [oP 14 (.move (.t 7)),
 oP 15 (.move (.t 5)),
 oP 16 (.bin .leq (.t 14) (.t 15)),
 oP 17 (.move (.t 16)),
 oG 18 17 false (.move (.t 7)),
 oG 19 17 false (.move (.t 1)),
 oG 20 17 false (.bin .geq (.t 18) (.t 19)),
 oP 21 (.pick (.t 17) (.c (.bool true)) (.t 20))])
 (.cond (.t 21) (.seq (.region 0 [oP 4 (.move (.c (.bool false)))])
 (.ret))
 (.skip)))
 (.region 0 [oP 22 (.move (.t 7)),
 oP 5 (.move (.t 22))]))))
 (.region 0 [oP 23 (.bin .add (.t 10) (.c (.int .i64 1))),
 oP 10 (.move (.t 23))])))))))
 (.seq (.region 0 [oP 4 (.move (.c (.bool true)))])
 (.ret))))⟩
/-- almadraba/counts.fits -/
def f60 : AFn := ⟨28, [.tmp 4],
 .seq (.region 0 [oQ 2 (.box (.t 0)),
 oQ 3 (.box (.t 1)),
 oP 4 (.move (.c (.bool false)))])
 (.seq (.region 0 [oQ 5 (.load true 4 (.t 2)),
 oP 6 (.fieldAddr 0 (.t 3)),
 oQ 7 (.load false 1 (.t 6)),
 oP 8 (.fieldAddr 1 (.t 3)),
 oQ 9 (.load false 1 (.t 8)),
 oQ 10 (.call 1 37 [(.t 5), (.t 7), (.t 9)]),
 oP 11 (.move (.t 10)),
 oG 12 11 true (.fieldAddr 2 (.t 3)),
 ⟨(some 13), .load false 1 (.t 12), (some (11, true)), none, []⟩,
 oG 14 11 true (.bin .leq (.c (.int .i64 0)) (.t 13)),
 oP 15 (.pick (.t 11) (.t 14) (.c (.bool false))),
 oP 16 (.move (.t 15)),
 oG 17 16 true (.fieldAddr 2 (.t 3)),
 ⟨(some 18), .load false 1 (.t 17), (some (16, true)), none, []⟩,
 oG 19 16 true (.fieldAddr 3 (.t 3)),
 ⟨(some 20), .load false 1 (.t 19), (some (16, true)), none, []⟩,
 oG 21 16 true (.bin .leq (.t 18) (.t 20)),
 oP 22 (.pick (.t 16) (.t 21) (.c (.bool false))),
 oP 23 (.move (.t 22)),
 oG 24 23 true (.fieldAddr 3 (.t 3)),
 ⟨(some 25), .load false 1 (.t 24), (some (23, true)), none, []⟩,
 oG 26 23 true (.bin .leq (.t 25) (.c (.int .i64 40))),
 oP 27 (.pick (.t 23) (.t 26) (.c (.bool false))),
 oP 4 (.move (.t 27))])
 (.ret))⟩
/-- (*almadraba/counts.trap).places -/
def f61 : AFn := ⟨30, [],
 .seq (.region 0 [oP 6 (.move (.t 0)),
 oP 7 (.nilCheck (.t 6)),
 oP 8 (.fieldAddr 0 (.t 7)),
 oP 9 (.fieldAddr 1 (.t 8)),
 oQ 10 (.load false 1 (.t 9)),
 oP 11 (.move (.c (.int .i64 0)))])
 (.block 0 (.loop (.seq (.region 0 [oP 12 (.bin .lss (.t 11) (.t 10))])
 (.seq (.cond (.t 12) (.skip)
 (.exit 0))
 (.seq (.block 1 (.seq (.region 0 [oP 13 (.move (.t 11)),
 oP 4 (.move (.t 13))])
 (.seq (.region 0 [oP 14 (.move (.t 0)),
 oP 15 (.nilCheck (.t 14)),
 oP 16 (.fieldAddr 0 (.t 15)),
 oP 17 (.fieldAddr 0 (.t 16)),
 oQ 18 (.load false 1 (.t 17)),
 oP 19 (.move (.c (.int .i64 0)))])
 (.block 2 (.loop (.seq (.region 0 [oP 20 (.bin .lss (.t 19) (.t 18))])
 (.seq (.cond (.t 20) (.skip)
 (.exit 2))
 (.seq (.block 3 (.seq (.region 0 [oP 21 (.move (.t 19)),
 oP 5 (.move (.t 21))])
 (.seq (.region 0 [oP 22 (.move (.t 1)),
 oP 23 (.move (.t 4)),
 oP 24 (.move (.t 5)),
 oP 25 (.build [.int .i64 0, .int .i64 0] [(0, 1, (.t 23)), (1, 1, (.t 24))]),
 oQ 26 (.callv false (.t 22) [(.t 25)]),
 oP 27 (.un .not (.t 26))])
 (.cond (.t 27) (.ret)
 (.skip)))))
 (.region 0 [oP 28 (.bin .add (.t 19) (.c (.int .i64 1))),
 oP 19 (.move (.t 28))])))))))))
 (.region 0 [oP 29 (.bin .add (.t 11) (.c (.int .i64 1))),
 oP 11 (.move (.t 29))]))))))⟩
/-- (*almadraba/counts.trap).say -/
def f62 : AFn := ⟨25, [.tmp 6],
 .seq (.region 0 [oQ 4 (.box (.t 1)),
 oQ 5 (.box (.t 2)),
 oP 6 (.move (.c (.bool false)))])
 (.seq (.region 0 [oP 7 (.move (.t 0)),
 oP 8 (.nilCheck (.t 7)),
 oP 9 (.fieldAddr 4 (.t 8)),
 oP 10 (.move (.t 0)),
 oP 11 (.fieldAddr 0 (.t 4)),
 oQ 12 (.load false 1 (.t 11)),
 oP 13 (.fieldAddr 1 (.t 4)),
 oQ 14 (.load false 1 (.t 13)),
 oQ 15 (.call 3 48 [(.t 10), (.t 12), (.t 14)]),
 oP 16 (.move (.t 0)),
 oP 17 (.fieldAddr 0 (.t 4)),
 oQ 18 (.load false 1 (.t 17)),
 oP 19 (.fieldAddr 1 (.t 4)),
 oQ 20 (.load false 1 (.t 19)),
 oP 21 (.bin .add (.t 20) (.c (.int .i64 1))),
 oQ 22 (.call 3 48 [(.t 16), (.t 18), (.t 21)]),
 oQ 23 (.load true 2 (.t 5)),
 oQ 24 (.call 0 64 [(.t 9), (.t 15), (.t 22), (.t 23)]),
 oP 6 (.move (.t 24))])
 (.ret))⟩
/-- slices.Contains[[]int,int] -/
def f63 : AFn := ⟨9, [.tmp 4],
 .seq (.region 0 [oP 4 (.move (.c (.bool false)))])
 (.seq (.region 0 [oP 5 (.move (.t 0)),
 oP 6 (.move (.t 1)),
 oQ 7 (.call 1 76 [(.t 5), (.t 6)]),
 oP 8 (.bin .geq (.t 7) (.c (.int .i64 0))),
 oP 4 (.move (.t 8))])
 (.ret))⟩
/-- (*almadraba/counts.bounds).within -/
def f64 : AFn := ⟨24, [.tmp 8],
 .seq (.region 0 [oQ 7 (.box (.t 3)),
 oP 8 (.move (.c (.bool false)))])
 (.seq (.region 0 [oP 9 (.move (.t 0)),
 oP 10 (.move (.t 1)),
 oP 11 (.move (.t 2)),
 oP 12 (.fieldAddr 1 (.t 7)),
 oQ 13 (.load false 1 (.t 12)),
 oQ 14 (.call 0 77 [(.t 9), (.t 10), (.t 11), (.t 13)]),
 oP 15 (.move (.t 14)),
 oG 16 15 true (.move (.t 0)),
 oG 17 15 true (.move (.t 2)),
 oG 18 15 true (.move (.t 1)),
 oG 19 15 true (.fieldAddr 0 (.t 7)),
 ⟨(some 20), .load false 1 (.t 19), (some (15, true)), none, []⟩,
 oG 21 15 true (.un .neg (.t 20)),
 ⟨(some 22), .call 0 77 [(.t 16), (.t 17), (.t 18), (.t 21)], (some (15, true)), none, []⟩,
 oP 23 (.pick (.t 15) (.t 22) (.c (.bool false))),
 oP 8 (.move (.t 23))])
 (.ret))⟩
/-- almadraba/anchors.valid$1 -/
def f65 : AFn := ⟨5, [.tmp 2],
 .seq (.region 0 [oQ 1 (.box (.t 0)),
 oP 2 (.move (.c (.bool false)))])
 (.seq (.region 0 [oQ 3 (.load true 2 (.t 1)),
 oQ 4 (.call 1 66 [(.t 3), (.c (.int .i64 9))]),
 oP 2 (.move (.t 4))])
 (.ret))⟩
/-- almadraba/anchors.isSpan -/
def f66 : AFn := ⟨19, [.tmp 4],
 .seq (.region 0 [oQ 2 (.box (.t 0)),
 oP 4 (.move (.c (.bool false)))])
 (.seq (.region 0 [oP 5 (.move (.t 1)),
 oP 6 (.fieldAddr 0 (.t 2)),
 oQ 7 (.load false 1 (.t 6)),
 oP 8 (.fieldAddr 1 (.t 2)),
 oQ 9 (.load false 1 (.t 8)),
 oQ 10 (.litS 1 2 [.int .i64 0] [(0, (.t 7)), (1, (.t 9))]),
 oQ 11 (.call 1 68 [(.t 5), (.t 10)]),
 oP 12 (.move (.t 11)),
 oG 13 12 true (.fieldAddr 0 (.t 2)),
 ⟨(some 14), .load false 1 (.t 13), (some (12, true)), none, []⟩,
 oG 15 12 true (.fieldAddr 1 (.t 2)),
 ⟨(some 16), .load false 1 (.t 15), (some (12, true)), none, []⟩,
 oG 17 12 true (.bin .leq (.t 14) (.t 16)),
 oP 18 (.pick (.t 12) (.t 17) (.c (.bool false))),
 oP 4 (.move (.t 18))])
 (.ret))⟩
/-- almadraba/anchors.valid$2 -/
def f67 : AFn := ⟨18, [.tmp 3],
 .seq (.region 0 [oQ 2 (.box (.t 0)),
 oP 3 (.move (.c (.bool false)))])
 (.seq (.region 0 [oP 4 (.fieldAddr 0 (.t 2)),
 oQ 5 (.load false 1 (.t 4)),
 oQ 6 (.litS 1 1 [.int .i64 0] [(0, (.t 5))]),
 oQ 7 (.call 1 68 [(.c (.int .i64 20)), (.t 6)]),
 oP 8 (.move (.t 7)),
 oG 9 8 true (.fieldAddr 4 (.t 1)),
 ⟨(some 10), .load false 1 (.t 9), (some (8, true)), none, []⟩,
 oG 11 8 true (.lenS (.t 10)),
 oG 12 8 true (.bin .sub (.t 11) (.c (.int .i64 1))),
 oG 13 8 true (.fieldAddr 1 (.t 2)),
 ⟨(some 14), .load false 1 (.t 13), (some (8, true)), none, []⟩,
 ⟨(some 15), .litS 1 1 [.int .i64 0] [(0, (.t 14))], (some (8, true)), none, []⟩,
 ⟨(some 16), .call 1 68 [(.t 12), (.t 15)], (some (8, true)), none, []⟩,
 oP 17 (.pick (.t 8) (.t 16) (.c (.bool false))),
 oP 3 (.move (.t 17))])
 (.ret))⟩
/-- almadraba/anchors.upTo -/
def f68 : AFn := ⟨8, [.tmp 4],
 .seq (.region 0 [oQ 2 (.box (.t 0)),
 oP 4 (.move (.c (.bool false)))])
 (.seq (.region 0 [oP 5 (.move (.t 1)),
 oP 6 (.mkFn 79 [] [(.t 2)]),
 oQ 7 (.call 3 78 [(.t 5), (.t 6)]),
 oP 4 (.move (.t 7))])
 (.ret))⟩
/-- almadraba/anchors.all[almadraba/api.Span] -/
def f69 : AFn := ⟨18, [.tmp 4],
 .seq (.region 0 [oP 4 (.move (.c (.bool false)))])
 (.seq (.seq (.region 0 [oP 7 (.move (.t 0)),
 oP 8 (.lenS (.t 7)),
 oP 9 (.move (.c (.int .i64 0)))])
 (.block 0 (.loop (.seq (.region 0 [oP 10 (.bin .lss (.t 9) (.t 8))])
 (.seq (.cond (.t 10) (.skip)
 (.exit 0))
 (.seq (.block 1 (.seq (.region 0 [oP 11 (.idxSl 2 (.t 7) (.t 9)),
 oQ 12 (.load true 2 (.t 11)),
 oQ 6 (.alloc [.int .i64 0, .int .i64 0]),
 ⟨none, .store 2 (.t 6) (.t 12), none, none, []⟩])
 (.seq (.region 0 [oP 13 (.move (.t 1)),
 oQ 14 (.load true 2 (.t 6)),
 oQ 15 (.callv true (.t 13) [(.t 14)]),
 oP 16 (.un .not (.t 15))])
 (.cond (.t 16) (.seq (.region 0 [oP 4 (.move (.c (.bool false)))])
 (.ret))
 (.skip)))))
 (.region 0 [oP 17 (.bin .add (.t 9) (.c (.int .i64 1))),
 oP 9 (.move (.t 17))])))))))
 (.seq (.region 0 [oP 4 (.move (.c (.bool true)))])
 (.ret)))⟩
/-- almadraba/anchors.all[almadraba/api.Anchor] -/
def f70 : AFn := ⟨18, [.tmp 4],
 .seq (.region 0 [oP 4 (.move (.c (.bool false)))])
 (.seq (.seq (.region 0 [oP 7 (.move (.t 0)),
 oP 8 (.lenS (.t 7)),
 oP 9 (.move (.c (.int .i64 0)))])
 (.block 0 (.loop (.seq (.region 0 [oP 10 (.bin .lss (.t 9) (.t 8))])
 (.seq (.cond (.t 10) (.skip)
 (.exit 0))
 (.seq (.block 1 (.seq (.region 0 [oP 11 (.idxSl 2 (.t 7) (.t 9)),
 oQ 12 (.load true 2 (.t 11)),
 oQ 6 (.alloc [.int .i64 0, .int .i64 0]),
 ⟨none, .store 2 (.t 6) (.t 12), none, none, []⟩])
 (.seq (.region 0 [oP 13 (.move (.t 1)),
 oQ 14 (.load true 2 (.t 6)),
 oQ 15 (.callv true (.t 13) [(.t 14)]),
 oP 16 (.un .not (.t 15))])
 (.cond (.t 16) (.seq (.region 0 [oP 4 (.move (.c (.bool false)))])
 (.ret))
 (.skip)))))
 (.region 0 [oP 17 (.bin .add (.t 9) (.c (.int .i64 1))),
 oP 9 (.move (.t 17))])))))))
 (.seq (.region 0 [oP 4 (.move (.c (.bool true)))])
 (.ret)))⟩
/-- almadraba/anchors.all[almadraba/api.AnchorWall] -/
def f71 : AFn := ⟨18, [.tmp 4],
 .seq (.region 0 [oP 4 (.move (.c (.bool false)))])
 (.seq (.seq (.region 0 [oP 7 (.move (.t 0)),
 oP 8 (.lenS (.t 7)),
 oP 9 (.move (.c (.int .i64 0)))])
 (.block 0 (.loop (.seq (.region 0 [oP 10 (.bin .lss (.t 9) (.t 8))])
 (.seq (.cond (.t 10) (.skip)
 (.exit 0))
 (.seq (.block 1 (.seq (.region 0 [oP 11 (.idxSl 5 (.t 7) (.t 9)),
 oQ 12 (.load true 5 (.t 11)),
 oQ 6 (.alloc [.int .i64 0, .int .i64 0, .int .i64 0, .int .i64 0, .int .i64 0]),
 ⟨none, .store 5 (.t 6) (.t 12), none, none, []⟩])
 (.seq (.region 0 [oP 13 (.move (.t 1)),
 oQ 14 (.load true 5 (.t 6)),
 oQ 15 (.callv true (.t 13) [(.t 14)]),
 oP 16 (.un .not (.t 15))])
 (.cond (.t 16) (.seq (.region 0 [oP 4 (.move (.c (.bool false)))])
 (.ret))
 (.skip)))))
 (.region 0 [oP 17 (.bin .add (.t 9) (.c (.int .i64 1))),
 oP 9 (.move (.t 17))])))))))
 (.seq (.region 0 [oP 4 (.move (.c (.bool true)))])
 (.ret)))⟩
/-- almadraba/anchors.isWall -/
def f72 : AFn := ⟨19, [.tmp 2],
 .seq (.region 0 [oQ 1 (.box (.t 0)),
 oP 2 (.move (.c (.bool false)))])
 (.seq (.region 0 [oP 3 (.fieldAddr 0 (.t 1)),
 oQ 4 (.load false 1 (.t 3)),
 oP 5 (.fieldAddr 1 (.t 1)),
 oQ 6 (.load false 1 (.t 5)),
 oP 7 (.fieldAddr 2 (.t 1)),
 oQ 8 (.load false 1 (.t 7)),
 oQ 9 (.litS 1 3 [.int .i64 0] [(0, (.t 4)), (1, (.t 6)), (2, (.t 8))]),
 oQ 10 (.call 1 68 [(.c (.int .i64 9)), (.t 9)]),
 oP 11 (.move (.t 10)),
 oG 12 11 true (.fieldAddr 3 (.t 1)),
 ⟨(some 13), .load false 1 (.t 12), (some (11, true)), none, []⟩,
 oG 14 11 true (.fieldAddr 4 (.t 1)),
 ⟨(some 15), .load false 1 (.t 14), (some (11, true)), none, []⟩,
 ⟨(some 16), .litS 1 2 [.int .i64 0] [(0, (.t 13)), (1, (.t 15))], (some (11, true)), none, []⟩,
 ⟨(some 17), .call 1 68 [(.c (.int .i64 99)), (.t 16)], (some (11, true)), none, []⟩,
 oP 18 (.pick (.t 11) (.t 17) (.c (.bool false))),
 oP 2 (.move (.t 18))])
 (.ret))⟩
/-- (almadraba/anchors.net).bears$1 -/
def f73 : AFn := ⟨35, [],
 .seq (.seq (.region 0 [oP 8 (.fieldAddr 0 (.t 2)),
 oQ 9 (.load true 7 (.t 8)),
 oP 10 (.move (.t 0)),
 oQ 11 (.call 1 74 [(.t 9), (.t 10)]),
 oP 12 (.un .not (.t 11))])
 (.cond (.t 12) (.ret)
 (.skip)))
 (.seq (.region 0 [oP 13 (.fieldAddr 0 (.t 2)),
 oP 14 (.fieldAddr 6 (.t 13)),
 oQ 15 (.load false 1 (.t 14)),
 oP 16 (.move (.t 0)),
 oP 17 (.idxSl 5 (.t 15) (.t 16)),
 oQ 18 (.load true 5 (.t 17)),
 oP 19 (.fieldAddr 7 (.t 2)),
 oP 20 (.fieldAddr 0 (.t 19)),
 oQ 21 (.load false 1 (.t 20)),
 oP 22 (.fieldAddr 7 (.t 2)),
 oP 23 (.fieldAddr 1 (.t 22)),
 oQ 24 (.load false 1 (.t 23)),
 oQ 25 (.call 1 75 [(.t 18), (.t 21), (.t 24)]),
 oP 7 (.move (.t 25))])
 (.seq (.region 0 [oQ 26 (.load false 1 (.t 3)),
 oP 27 (.move (.t 7)),
 oP 28 (.bin .add (.t 26) (.t 27)),
 ⟨none, .store 1 (.t 3) (.t 28), none, none, []⟩])
 (.seq (.region 0 [oP 29 (.move (.t 1)),
 oP 30 (.idxArr 6 1 (.t 4) (.t 29)),
 oQ 31 (.load false 1 (.t 30))])
 (.cond (.t 31) (.region 0 [oQ 32 (.load false 1 (.t 3)),
 oP 33 (.move (.t 7)),
 oP 34 (.bin .add (.t 32) (.t 33)),
 ⟨none, .store 1 (.t 3) (.t 34), none, none, []⟩])
 (.skip)))))⟩
/-- almadraba/anchors.hasWall -/
def f74 : AFn := ⟨12, [.tmp 4],
 .seq (.region 0 [oQ 2 (.box (.t 0)),
 oP 4 (.move (.c (.bool false)))])
 (.seq (.region 0 [oP 5 (.fieldAddr 6 (.t 2)),
 oQ 6 (.load false 1 (.t 5)),
 oP 7 (.lenS (.t 6)),
 oP 8 (.bin .sub (.t 7) (.c (.int .i64 1))),
 oP 9 (.move (.t 1)),
 oQ 10 (.litS 1 1 [.int .i64 0] [(0, (.t 9))]),
 oQ 11 (.call 1 68 [(.t 8), (.t 10)]),
 oP 4 (.move (.t 11))])
 (.ret))⟩
/-- almadraba/anchors.load -/
def f75 : AFn := ⟨16, [.tmp 6],
 .seq (.region 0 [oQ 3 (.box (.t 0)),
 oP 6 (.move (.c (.int .i64 0)))])
 (.seq (.region 0 [oP 7 (.fieldAddr 0 (.t 3)),
 oQ 8 (.load false 1 (.t 7)),
 oP 9 (.move (.t 1)),
 oP 10 (.bin .mul (.t 8) (.t 9)),
 oP 11 (.fieldAddr 1 (.t 3)),
 oQ 12 (.load false 1 (.t 11)),
 oP 13 (.move (.t 2)),
 oP 14 (.bin .mul (.t 12) (.t 13)),
 oP 15 (.bin .add (.t 10) (.t 14)),
 oP 6 (.move (.t 15))])
 (.ret))⟩
/-- slices.Index[[]int,int] -/
def f76 : AFn := ⟨19, [.tmp 4],
 .seq (.region 0 [oP 4 (.move (.c (.int .i64 0)))])
 (.seq (.seq (.region 0 [oP 6 (.move (.t 0)),
 oP 7 (.lenS (.t 6)),
 oP 8 (.move (.c (.int .i64 0)))])
 (.block 0 (.loop (.seq (.region 0 [oP 9 (.bin .lss (.t 8) (.t 7))])
 (.seq (.cond (.t 9) (.skip)
 (.exit 0))
 (.seq (.block 1 (.seq (.region 0 [oP 10 (.move (.t 8)),
 oP 5 (.move (.t 10))])
 (.seq (.region 0 [oP 11 (.move (.t 1)),
 oP 12 (.move (.t 0)),
 oP 13 (.move (.t 5)),
 oP 14 (.idxSl 1 (.t 12) (.t 13)),
 oQ 15 (.load false 1 (.t 14)),
 oP 16 (.bin .eql (.t 11) (.t 15))])
 (.cond (.t 16) (.seq (.region 0 [oP 17 (.move (.t 5)),
 oP 4 (.move (.t 17))])
 (.ret))
 (.skip)))))
 (.region 0 [oP 18 (.bin .add (.t 8) (.c (.int .i64 1))),
 oP 8 (.move (.t 18))])))))))
 (.seq (.region 0 [oP 4 (.move (.c (.int .i64 (-1))))])
 (.ret)))⟩
/-- (*almadraba/counts.bounds).atMost -/
def f77 : AFn := ⟨69, [.tmp 8],
 .seq (.region 0 [oP 8 (.move (.c (.bool false)))])
 (.seq (.seq (.region 0 [oP 11 (.move (.t 0)),
 oP 12 (.move (.t 2)),
 oP 13 (.move (.t 1)),
 oP 14 (.nilCheck (.t 11)),
 oP 15 (.idxArr 21 21 (.t 14) (.t 12)),
 oP 16 (.idxArr 21 1 (.t 15) (.t 13)),
 oQ 17 (.load false 1 (.t 16)),
 oP 18 (.move (.t 3)),
 oP 19 (.bin .add (.t 17) (.t 18)),
 oP 20 (.bin .lss (.t 19) (.c (.int .i64 0)))])
 (.cond (.t 20) (.seq (.region 0 [oP 8 (.move (.c (.bool false)))])
 (.ret))
 (.skip)))
 (.seq (.seq (.region 0 [oP 21 (.move (.t 0)),
 oP 22 (.move (.t 1)),
 oP 23 (.move (.t 2)),
 oP 24 (.nilCheck (.t 21)),
 oP 25 (.idxArr 21 21 (.t 24) (.t 22)),
 oP 26 (.idxArr 21 1 (.t 25) (.t 23)),
 oQ 27 (.load false 1 (.t 26)),
 oP 28 (.move (.t 3)),
 oP 29 (.bin .leq (.t 27) (.t 28))])
 (.cond (.t 29) (.seq (.region 0 [oP 8 (.move (.c (.bool true)))])
 (.ret))
 (.skip)))
 (.seq (.seq (.region 0 [oP 30 (.move (.c (.int .i64 0)))])
 (.block 0 (.loop (.seq (.region 0 [oP 31 (.bin .lss (.t 30) (.c (.int .i64 21)))])
 (.seq (.cond (.t 31) (.skip)
 (.exit 0))
 (.seq (.block 1 (.seq (.region 0 [oP 32 (.move (.t 30)),
 oP 9 (.move (.t 32))])
 (.seq (.region 0 [oP 33 (.move (.c (.int .i64 0)))])
 (.block 2 (.loop (.seq (.region 0 [oP 34 (.bin .lss (.t 33) (.c (.int .i64 21)))])
 (.seq (.cond (.t 34) (.skip)
 (.exit 2))
 (.seq (.block 3 (.seq (.region 0 [oP 35 (.move (.t 33)),
 oP 10 (.move (.t 35))])
 (.region 0 [oP 36 (.move (.t 0)),
 oP 37 (.move (.t 9)),
 oP 38 (.move (.t 10)),
 oP 39 (.move (.t 0)),
 oP 40 (.move (.t 9)),
 oP 41 (.move (.t 10)),
 oP 42 (.nilCheck (.t 39)),
 oP 43 (.idxArr 21 21 (.t 42) (.t 40)),
 oP 44 (.idxArr 21 1 (.t 43) (.t 41)),
 oQ 45 (.load false 1 (.t 44)),
 oP 46 (.move (.t 0)),
 oP 47 (.move (.t 9)),
 oP 48 (.move (.t 1)),
 oP 49 (.nilCheck (.t 46)),
 oP 50 (.idxArr 21 21 (.t 49) (.t 47)),
 oP 51 (.idxArr 21 1 (.t 50) (.t 48)),
 oQ 52 (.load false 1 (.t 51)),
 oP 53 (.move (.t 3)),
 oP 54 (.bin .add (.t 52) (.t 53)),
 oP 55 (.move (.t 0)),
 oP 56 (.move (.t 2)),
 oP 57 (.move (.t 10)),
 oP 58 (.nilCheck (.t 55)),
 oP 59 (.idxArr 21 21 (.t 58) (.t 56)),
 oP 60 (.idxArr 21 1 (.t 59) (.t 57)),
 oQ 61 (.load false 1 (.t 60)),
 oP 62 (.bin .add (.t 54) (.t 61)),
 oP 63 (.minmax false (.t 45) [(.t 62)]),
 oP 64 (.nilCheck (.t 36)),
 oP 65 (.idxArr 21 21 (.t 64) (.t 37)),
 oP 66 (.idxArr 21 1 (.t 65) (.t 38)),
 ⟨none, .store 1 (.t 66) (.t 63), none, none, []⟩])))
 (.region 0 [oP 67 (.bin .add (.t 33) (.c (.int .i64 1))),
 oP 33 (.move (.t 67))])))))))))
 (.region 0 [oP 68 (.bin .add (.t 30) (.c (.int .i64 1))),
 oP 30 (.move (.t 68))])))))))
 (.seq (.region 0 [oP 8 (.move (.c (.bool true)))])
 (.ret)))))⟩
/-- almadraba/anchors.all[int] -/
def f78 : AFn := ⟨18, [.tmp 4],
 .seq (.region 0 [oP 4 (.move (.c (.bool false)))])
 (.seq (.seq (.region 0 [oP 7 (.move (.t 0)),
 oP 8 (.lenS (.t 7)),
 oP 9 (.move (.c (.int .i64 0)))])
 (.block 0 (.loop (.seq (.region 0 [oP 10 (.bin .lss (.t 9) (.t 8))])
 (.seq (.cond (.t 10) (.skip)
 (.exit 0))
 (.seq (.block 1 (.seq (.region 0 [oP 11 (.idxSl 1 (.t 7) (.t 9)),
 oQ 12 (.load false 1 (.t 11)),
 oP 6 (.move (.t 12))])
 (.seq (.region 0 [oP 13 (.move (.t 1)),
 oP 14 (.move (.t 6)),
 oQ 15 (.callv true (.t 13) [(.t 14)]),
 oP 16 (.un .not (.t 15))])
 (.cond (.t 16) (.seq (.region 0 [oP 4 (.move (.c (.bool false)))])
 (.ret))
 (.skip)))))
 (.region 0 [oP 17 (.bin .add (.t 9) (.c (.int .i64 1))),
 oP 9 (.move (.t 17))])))))))
 (.seq (.region 0 [oP 4 (.move (.c (.bool true)))])
 (.ret)))⟩
/-- almadraba/anchors.upTo$1 -/
def f79 : AFn := ⟨11, [.tmp 3],
 .seq (.region 0 [oP 3 (.move (.c (.bool false)))])
 (.seq (.region 0 [oP 4 (.move (.t 0)),
 oP 5 (.bin .leq (.c (.int .i64 0)) (.t 4)),
 oP 6 (.move (.t 5)),
 oG 7 6 true (.move (.t 0)),
 ⟨(some 8), .load false 1 (.t 1), (some (6, true)), none, []⟩,
 oG 9 6 true (.bin .leq (.t 7) (.t 8)),
 oP 10 (.pick (.t 6) (.t 9) (.c (.bool false))),
 oP 3 (.move (.t 10))])
 (.ret))⟩
end Go.Proofs.Ytjgbiclbpgkfeaa.T
