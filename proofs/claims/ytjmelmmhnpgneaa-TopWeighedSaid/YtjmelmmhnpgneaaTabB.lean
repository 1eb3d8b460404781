/-
The code of functions of the seat, as the abstract machine has it (printed by a tool of ours off the dump).
-/
import Derived.Test.YtjmelmmhnpgneaaTabA
namespace Go.Proofs.Ytjmelmmhnpgneaa.T
open Go Go.Am
/-- (almadraba/lifts.sea).can -/
def f42 : AFn := ⟨57, [.tmp 4],
 .seq (.region 0 [oQ 2 (.box (.t 0)),
 oP 4 (.move (.c (.bool false)))])
 (.seq (.region 0 [oP 5 (.move (.c (.int .i64 0)))])
 (.seq (.seq (.region 0 [oP 10 (.move (.t 1)),
 oP 11 (.lenS (.t 10)),
 oP 12 (.move (.c (.int .i64 0)))])
 (.block 0 (.loop (.seq (.region 0 [oP 13 (.bin .lss (.t 12) (.t 11))])
 (.seq (.cond (.t 13) (.skip)
 (.exit 0))
 (.seq (.block 1 (.seq (.region 0 [oP 14 (.move (.t 12)),
 oP 15 (.idxSl 1 (.t 10) (.t 12)),
 oQ 16 (.load false 1 (.t 15)),
 oP 6 (.move (.t 14)),
 oP 7 (.move (.t 16))])
 (.seq (.region 0 [oP 17 (.fieldAddr 0 (.t 2)),
 oP 18 (.fieldAddr 2 (.t 17)),
 oQ 19 (.load false 1 (.t 18)),
 oP 20 (.move (.t 6)),
 oP 21 (.idxSl 2 (.t 19) (.t 20)),
 oP 22 (.fieldAddr 1 (.t 21)),
 oQ 23 (.load false 1 (.t 22)),
 oP 8 (.move (.t 23))])
 (.seq (.seq (.region 0 [oP 24 (.fieldAddr 0 (.t 2)),
 oP 25 (.fieldAddr 0 (.t 24)),
 oP 26 (.fieldAddr 0 (.t 25)),
 oQ 27 (.load false 1 (.t 26)),
 oP 9 (.move (.t 27))])
 (.seq (.region 0 [oP 28 (.move (.t 9)),
 oP 29 (.bin .gtr (.t 28) (.c (.int .i64 0)))])
 (.cond (.t 29) (.region 0 [oP 30 (.move (.t 8)),
 oP 31 (.fieldAddr 0 (.t 2)),
 oP 32 (.fieldAddr 3 (.t 31)),
 oQ 33 (.load false 1 (.t 32)),
 oP 34 (.move (.t 7)),
 oP 35 (.idxSl 2 (.t 33) (.t 34)),
 oP 36 (.fieldAddr 0 (.t 35)),
 oQ 37 (.load false 1 (.t 36)),
 oP 38 (.bin .mul (.c (.int .i64 12)) (.t 37)),
 oP 39 (.move (.t 9)),
 oP 40 (.bin .quo (.t 38) (.t 39)),
 oP 41 (.minmax false (.t 30) [(.t 40)]),
 oP 8 (.move (.t 41))])
 (.skip))))
 (.seq (.seq (.region 0 [oP 42 (.move (.t 8)),
 oP 43 (.fieldAddr 0 (.t 2)),
 oP 44 (.fieldAddr 2 (.t 43)),
 oQ 45 (.load false 1 (.t 44)),
 oP 46 (.move (.t 6)),
 oP 47 (.idxSl 2 (.t 45) (.t 46)),
 oP 48 (.fieldAddr 0 (.t 47)),
 oQ 49 (.load false 1 (.t 48)),
 oP 50 (.bin .lss (.t 42) (.t 49))])
 (.cond (.t 50) (.seq (.region 0 [oP 4 (.move (.c (.bool false)))])
 (.ret))
 (.skip)))
 (.region 0 [oP 51 (.move (.t 5)),
 oP 52 (.move (.t 8)),
 oP 53 (.bin .add (.t 51) (.t 52)),
 oP 5 (.move (.t 53))]))))))
 (.region 0 [oP 54 (.bin .add (.t 12) (.c (.int .i64 1))),
 oP 12 (.move (.t 54))])))))))
 (.seq (.region 0 [oP 55 (.move (.t 5)),
 oP 56 (.bin .geq (.t 55) (.c (.int .i64 12))),
 oP 4 (.move (.t 56))])
 (.ret))))⟩
/-- almadraba/counts.Check -/
def f43 : AFn := ⟨6, [.tmp 2],
 .seq (.region 0 [oQ 1 (.box (.t 0)),
 oP 2 (.move (.c (.int .i64 0)))])
 (.seq (.seq (.region 0 [oQ 3 (.load true 4 (.t 1)),
 oQ 4 (.call 1 52 [(.t 3)]),
 oP 5 (.un .not (.t 4))])
 (.cond (.t 5) (.seq (.region 0 [oP 2 (.move (.c (.int .i64 10)))])
 (.ret))
 (.skip)))
 (.seq (.region 0 [oP 2 (.move (.c (.int .i64 0)))])
 (.ret)))⟩
/-- almadraba/counts.build -/
def f44 : AFn := ⟨20, [.tmp 2, .tmp 3],
 .seq (.region 0 [oQ 1 (.box (.t 0)),
 oP 2 (.move (.c (.nilp))),
 oP 3 (.move (.c (.bool false)))])
 (.seq (.region 1 [⟨(some 5), .load true 4 (.t 1), none, none, [0]⟩,
 ⟨(some 6), .call 1 53 [], none, none, [0]⟩,
 oP 7 (.build [.int .i64 0, .int .i64 0, .nils, .nils, .int .i64 0, .int .i64 0, .int .i64 0, .int .i64 0, .int .i64 0, .int .i64 0, .int .i64 0, .int .i64 0, .int .i64 0, .int .i64 0, .int .i64 0, .int .i64 0, .int .i64 0, .int .i64 0, .int .i64 0, .int .i64 0, .int .i64 0, .int .i64 0, .int .i64 0, .int .i64 0, .int .i64 0, .int .i64 0, .int .i64 0, .int .i64 0, .int .i64 0, .int .i64 0, .int .i64 0, .int .i64 0, .int .i64 0, .int .i64 0, .int .i64 0, .int .i64 0, .int .i64 0, .int .i64 0, .int .i64 0, .int .i64 0, .int .i64 0, .int .i64 0, .int .i64 0, .int .i64 0, .int .i64 0, .int .i64 0, .int .i64 0, .int .i64 0, .int .i64 0, .int .i64 0, .int .i64 0, .int .i64 0, .int .i64 0, .int .i64 0, .int .i64 0, .int .i64 0, .int .i64 0, .int .i64 0, .int .i64 0, .int .i64 0, .int .i64 0, .int .i64 0, .int .i64 0, .int .i64 0, .int .i64 0, .int .i64 0, .int .i64 0, .int .i64 0, .int .i64 0, .int .i64 0, .int .i64 0, .int .i64 0, .int .i64 0, .int .i64 0, .int .i64 0, .int .i64 0, .int .i64 0, .int .i64 0, .int .i64 0, .int .i64 0, .int .i64 0, .int .i64 0, .int .i64 0, .int .i64 0, .int .i64 0, .int .i64 0, .int .i64 0, .int .i64 0, .int .i64 0, .int .i64 0, .int .i64 0, .int .i64 0, .int .i64 0, .int .i64 0, .int .i64 0, .int .i64 0, .int .i64 0, .int .i64 0, .int .i64 0, .int .i64 0, .int .i64 0, .int .i64 0, .int .i64 0, .int .i64 0, .int .i64 0, .int .i64 0, .int .i64 0, .int .i64 0, .int .i64 0, .int .i64 0, .int .i64 0, .int .i64 0, .int .i64 0, .int .i64 0, .int .i64 0, .int .i64 0, .int .i64 0, .int .i64 0, .int .i64 0, .int .i64 0, .int .i64 0, .int .i64 0, .int .i64 0, .int .i64 0, .int .i64 0, .int .i64 0, .int .i64 0, .int .i64 0, .int .i64 0, .int .i64 0, .int .i64 0, .int .i64 0, .int .i64 0, .int .i64 0, .int .i64 0, .int .i64 0, .int .i64 0, .int .i64 0, .int .i64 0, .int .i64 0, .int .i64 0, .int .i64 0, .int .i64 0, .int .i64 0, .int .i64 0, .int .i64 0, .int .i64 0, .int .i64 0, .int .i64 0, .int .i64 0, .int .i64 0, .int .i64 0, .int .i64 0, .int .i64 0, .int .i64 0, .int .i64 0, .int .i64 0, .int .i64 0, .int .i64 0, .int .i64 0, .int .i64 0, .int .i64 0, .int .i64 0, .int .i64 0, .int .i64 0, .int .i64 0, .int .i64 0, .int .i64 0, .int .i64 0, .int .i64 0, .int .i64 0, .int .i64 0, .int .i64 0, .int .i64 0, .int .i64 0, .int .i64 0, .int .i64 0, .int .i64 0, .int .i64 0, .int .i64 0, .int .i64 0, .int .i64 0, .int .i64 0, .int .i64 0, .int .i64 0, .int .i64 0, .int .i64 0, .int .i64 0, .int .i64 0, .int .i64 0, .int .i64 0, .int .i64 0, .int .i64 0, .int .i64 0, .int .i64 0, .int .i64 0, .int .i64 0, .int .i64 0, .int .i64 0, .int .i64 0, .int .i64 0, .int .i64 0, .int .i64 0, .int .i64 0, .int .i64 0, .int .i64 0, .int .i64 0, .int .i64 0, .int .i64 0, .int .i64 0, .int .i64 0, .int .i64 0, .int .i64 0, .int .i64 0, .int .i64 0, .int .i64 0, .int .i64 0, .int .i64 0, .int .i64 0, .int .i64 0, .int .i64 0, .int .i64 0, .int .i64 0, .int .i64 0, .int .i64 0, .int .i64 0, .int .i64 0, .int .i64 0, .int .i64 0, .int .i64 0, .int .i64 0, .int .i64 0, .int .i64 0, .int .i64 0, .int .i64 0, .int .i64 0, .int .i64 0, .int .i64 0, .int .i64 0, .int .i64 0, .int .i64 0, .int .i64 0, .int .i64 0, .int .i64 0, .int .i64 0, .int .i64 0, .int .i64 0, .int .i64 0, .int .i64 0, .int .i64 0, .int .i64 0, .int .i64 0, .int .i64 0, .int .i64 0, .int .i64 0, .int .i64 0, .int .i64 0, .int .i64 0, .int .i64 0, .int .i64 0, .int .i64 0, .int .i64 0, .int .i64 0, .int .i64 0, .int .i64 0, .int .i64 0, .int .i64 0, .int .i64 0, .int .i64 0, .int .i64 0, .int .i64 0, .int .i64 0, .int .i64 0, .int .i64 0, .int .i64 0, .int .i64 0, .int .i64 0, .int .i64 0, .int .i64 0, .int .i64 0, .int .i64 0, .int .i64 0, .int .i64 0, .int .i64 0, .int .i64 0, .int .i64 0, .int .i64 0, .int .i64 0, .int .i64 0, .int .i64 0, .int .i64 0, .int .i64 0, .int .i64 0, .int .i64 0, .int .i64 0, .int .i64 0, .int .i64 0, .int .i64 0, .int .i64 0, .int .i64 0, .int .i64 0, .int .i64 0, .int .i64 0, .int .i64 0, .int .i64 0, .int .i64 0, .int .i64 0, .int .i64 0, .int .i64 0, .int .i64 0, .int .i64 0, .int .i64 0, .int .i64 0, .int .i64 0, .int .i64 0, .int .i64 0, .int .i64 0, .int .i64 0, .int .i64 0, .int .i64 0, .int .i64 0, .int .i64 0, .int .i64 0, .int .i64 0, .int .i64 0, .int .i64 0, .int .i64 0, .int .i64 0, .int .i64 0, .int .i64 0, .int .i64 0, .int .i64 0, .int .i64 0, .int .i64 0, .int .i64 0, .int .i64 0, .int .i64 0, .int .i64 0, .int .i64 0, .int .i64 0, .int .i64 0, .int .i64 0, .int .i64 0, .int .i64 0, .int .i64 0, .int .i64 0, .int .i64 0, .int .i64 0, .int .i64 0, .int .i64 0, .int .i64 0, .int .i64 0, .int .i64 0, .int .i64 0, .int .i64 0, .int .i64 0, .int .i64 0, .int .i64 0, .int .i64 0, .int .i64 0, .int .i64 0, .int .i64 0, .int .i64 0, .int .i64 0, .int .i64 0, .int .i64 0, .int .i64 0, .int .i64 0, .int .i64 0, .int .i64 0, .int .i64 0, .int .i64 0, .int .i64 0, .int .i64 0, .int .i64 0, .int .i64 0, .int .i64 0, .int .i64 0, .int .i64 0, .int .i64 0, .int .i64 0, .int .i64 0, .int .i64 0, .int .i64 0, .int .i64 0, .int .i64 0, .int .i64 0, .int .i64 0, .int .i64 0, .int .i64 0, .int .i64 0, .int .i64 0, .int .i64 0, .int .i64 0, .int .i64 0, .int .i64 0, .int .i64 0, .int .i64 0, .int .i64 0, .int .i64 0, .int .i64 0, .int .i64 0, .int .i64 0, .int .i64 0, .int .i64 0, .int .i64 0, .int .i64 0, .int .i64 0, .int .i64 0, .int .i64 0, .int .i64 0, .int .i64 0, .int .i64 0, .int .i64 0, .int .i64 0, .int .i64 0, .int .i64 0, .int .i64 0, .int .i64 0, .int .i64 0, .int .i64 0, .int .i64 0, .int .i64 0, .int .i64 0, .int .i64 0, .int .i64 0, .int .i64 0, .int .i64 0, .int .i64 0, .int .i64 0, .int .i64 0, .int .i64 0, .int .i64 0, .int .i64 0, .int .i64 0, .int .i64 0, .int .i64 0, .int .i64 0, .int .i64 0, .int .i64 0, .int .i64 0, .int .i64 0, .int .i64 0, .int .i64 0, .int .i64 0] [(0, 4, (.t 5)), (4, 441, (.t 6))]),
 ⟨(some 8), .box (.t 7), none, (some 0), []⟩,
 oP 4 (.move (.t 8))])
 (.seq (.region 0 [oP 9 (.move (.t 4)),
 oP 10 (.move (.t 4)),
 oQ 11 (.call 0 54 [(.t 10)]),
 oP 12 (.move (.t 11)),
 oG 13 12 true (.move (.t 4)),
 ⟨(some 14), .call 0 55 [(.t 13)], (some (12, true)), none, []⟩,
 oP 15 (.pick (.t 12) (.t 14) (.c (.bool false))),
 oP 16 (.move (.t 15)),
 oG 17 16 true (.move (.t 4)),
 ⟨(some 18), .call 0 56 [(.t 17)], (some (16, true)), none, []⟩,
 oP 19 (.pick (.t 16) (.t 18) (.c (.bool false))),
 oP 2 (.move (.t 9)),
 oP 3 (.move (.t 19))])
 (.ret)))⟩
/-- almadraba/counts.isTime -/
def f45 : AFn := ⟨13, [.tmp 4],
 .seq (.region 0 [oQ 2 (.box (.t 0)),
 oP 4 (.move (.c (.bool false)))])
 (.seq (.region 0 [oP 5 (.move (.t 1)),
 oP 6 (.bin .leq (.c (.int .i64 0)) (.t 5)),
 oP 7 (.move (.t 6)),
 oG 8 7 true (.move (.t 1)),
 oG 9 7 true (.fieldAddr 1 (.t 2)),
 ⟨(some 10), .load false 1 (.t 9), (some (7, true)), none, []⟩,
 oG 11 7 true (.bin .lss (.t 8) (.t 10)),
 oP 12 (.pick (.t 7) (.t 11) (.c (.bool false))),
 oP 4 (.move (.t 12))])
 (.ret))⟩
/-- (*almadraba/counts.bounds).between -/
def f46 : AFn := ⟨23, [.cell true 2 6],
 .seq (.region 0 [oQ 6 (.alloc [.int .i64 0, .int .i64 0])])
 (.seq (.region 0 [oP 7 (.move (.t 0)),
 oP 8 (.move (.t 2)),
 oP 9 (.move (.t 1)),
 oP 10 (.nilCheck (.t 7)),
 oP 11 (.idxArr 21 21 (.t 10) (.t 8)),
 oP 12 (.idxArr 21 1 (.t 11) (.t 9)),
 oQ 13 (.load false 1 (.t 12)),
 oP 14 (.un .neg (.t 13)),
 oP 15 (.move (.t 0)),
 oP 16 (.move (.t 1)),
 oP 17 (.move (.t 2)),
 oP 18 (.nilCheck (.t 15)),
 oP 19 (.idxArr 21 21 (.t 18) (.t 16)),
 oP 20 (.idxArr 21 1 (.t 19) (.t 17)),
 oQ 21 (.load false 1 (.t 20)),
 oP 22 (.build [.int .i64 0, .int .i64 0] [(0, 1, (.t 14)), (1, 1, (.t 21))]),
 ⟨none, .store 2 (.t 6) (.t 22), none, none, []⟩])
 (.ret))⟩
/-- (*almadraba/counts.trap).sum -/
def f47 : AFn := ⟨19, [.tmp 6],
 .seq (.region 0 [oP 6 (.move (.c (.int .i64 0)))])
 (.seq (.seq (.region 0 [oP 7 (.move (.t 2)),
 oP 8 (.move (.t 0)),
 oP 9 (.nilCheck (.t 8)),
 oP 10 (.fieldAddr 0 (.t 9)),
 oP 11 (.fieldAddr 0 (.t 10)),
 oQ 12 (.load false 1 (.t 11)),
 oP 13 (.bin .eql (.t 7) (.t 12))])
 (.cond (.t 13) (.seq (.region 0 [oP 6 (.move (.c (.int .i64 0)))])
 (.ret))
 (.skip)))
 (.seq (.region 0 [oP 14 (.move (.t 1)),
 oP 15 (.bin .mul (.t 14) (.c (.int .i64 4))),
 oP 16 (.bin .add (.c (.int .i64 1)) (.t 15)),
 oP 17 (.move (.t 2)),
 oP 18 (.bin .add (.t 16) (.t 17)),
 oP 6 (.move (.t 18))])
 (.ret)))⟩
/-- almadraba/lifts.Check -/
def f48 : AFn := ⟨6, [.tmp 2],
 .seq (.region 0 [oQ 1 (.box (.t 0)),
 oP 2 (.move (.c (.int .i64 0)))])
 (.seq (.seq (.region 0 [oQ 3 (.load true 4 (.t 1)),
 oQ 4 (.call 1 57 [(.t 3)]),
 oP 5 (.un .not (.t 4))])
 (.cond (.t 5) (.seq (.region 0 [oP 2 (.move (.c (.int .i64 50)))])
 (.ret))
 (.skip)))
 (.seq (.region 0 [oP 2 (.move (.c (.int .i64 0)))])
 (.ret)))⟩
/-- (almadraba/lifts.sea).cheapest -/
def f49 : AFn := ⟨29, [.tmp 2, .tmp 3],
 .seq (.region 0 [oQ 1 (.box (.t 0)),
 oP 2 (.move (.c (.nils))),
 oP 3 (.move (.c (.int .i64 0)))])
 (.seq (.region 0 [oQ 4 (.alloc [.nils])])
 (.seq (.region 0 [oQ 5 (.alloc [.int .i64 0]),
 ⟨none, .store 1 (.t 5) (.c (.int .i64 0)), none, none, []⟩])
 (.seq (.seq (.region 0 [oQ 8 (.load true 4 (.t 1)),
 oP 9 (.mkFn 58 [(.t 8)] [])])
 (.block 0 (.rangeFunc (.t 9) [10] (.region 0 [oP 6 (.move (.t 10))])
 (.block 1 (.seq (.seq (.region 0 [oQ 11 (.load true 4 (.t 1)),
 oP 12 (.move (.t 6)),
 oQ 13 (.call 1 41 [(.t 11), (.t 12)]),
 oP 14 (.un .not (.t 13))])
 (.cond (.t 14) (.exit 1)
 (.skip)))
 (.seq (.region 0 [oQ 15 (.load true 4 (.t 1)),
 oP 16 (.move (.t 6)),
 oQ 17 (.call 1 59 [(.t 15), (.t 16)]),
 oP 7 (.move (.t 17))])
 (.seq (.region 0 [oQ 18 (.load false 1 (.t 4)),
 oP 19 (.isNil (.t 18) (.c (.nils))),
 oP 20 (.move (.t 19)),
 oG 21 20 false (.move (.t 7)),
 ⟨(some 22), .load false 1 (.t 5), (some (20, false)), none, []⟩,
 oG 23 20 false (.bin .lss (.t 21) (.t 22)),
 oP 24 (.pick (.t 20) (.c (.bool true)) (.t 23))])
 (.cond (.t 24) (.region 0 [oP 25 (.move (.t 6)),
 oP 26 (.move (.t 7)),
 ⟨none, .store 1 (.t 4) (.t 25), none, none, []⟩,
 ⟨none, .store 1 (.t 5) (.t 26), none, none, []⟩])
 (.skip)))))))))
 (.seq (.region 0 [oQ 27 (.load false 1 (.t 4)),
 oQ 28 (.load false 1 (.t 5)),
 oP 2 (.move (.t 27)),
 oP 3 (.move (.t 28))])
 (.ret)))))⟩
/-- almadraba/lifts.isCrew -/
def f50 : AFn := ⟨35, [.tmp 4],
 .seq (.region 0 [oQ 2 (.box (.t 0)),
 oP 4 (.move (.c (.bool false)))])
 (.seq (.seq (.region 0 [oP 7 (.move (.t 1)),
 oP 8 (.lenS (.t 7)),
 oP 9 (.fieldAddr 2 (.t 2)),
 oQ 10 (.load false 1 (.t 9)),
 oP 11 (.lenS (.t 10)),
 oP 12 (.bin .neq (.t 8) (.t 11))])
 (.cond (.t 12) (.seq (.region 0 [oP 4 (.move (.c (.bool false)))])
 (.ret))
 (.skip)))
 (.seq (.seq (.region 0 [oP 13 (.move (.t 1)),
 oP 14 (.lenS (.t 13)),
 oP 15 (.move (.c (.int .i64 0)))])
 (.block 0 (.loop (.seq (.region 0 [oP 16 (.bin .lss (.t 15) (.t 14))])
 (.seq (.cond (.t 16) (.skip)
 (.exit 0))
 (.seq (.block 1 (.seq (.region 0 [oP 17 (.move (.t 15)),
 oP 18 (.idxSl 1 (.t 13) (.t 15)),
 oQ 19 (.load false 1 (.t 18)),
 oP 5 (.move (.t 17)),
 oP 6 (.move (.t 19))])
 (.seq (.region 0 [oP 20 (.move (.t 6)),
 oP 21 (.fieldAddr 3 (.t 2)),
 oQ 22 (.load false 1 (.t 21)),
 oP 23 (.lenS (.t 22)),
 oP 24 (.bin .sub (.t 23) (.c (.int .i64 1))),
 oQ 25 (.call 1 60 [(.t 20), (.t 24)]),
 oP 26 (.un .not (.t 25)),
 oP 27 (.move (.t 26)),
 oG 28 27 false (.move (.t 1)),
 oG 29 27 false (.move (.t 5)),
 oG 30 27 false (.slice 1 (.t 28) none (some (.t 29))),
 oG 31 27 false (.move (.t 6)),
 ⟨(some 32), .call 1 61 [(.t 30), (.t 31)], (some (27, false)), none, []⟩,
 oP 33 (.pick (.t 27) (.c (.bool true)) (.t 32))])
 (.cond (.t 33) (.seq (.region 0 [oP 4 (.move (.c (.bool false)))])
 (.ret))
 (.skip)))))
 (.region 0 [oP 34 (.bin .add (.t 15) (.c (.int .i64 1))),
 oP 15 (.move (.t 34))])))))))
 (.seq (.region 0 [oP 4 (.move (.c (.bool true)))])
 (.ret))))⟩
/-- (almadraba/lifts.sea).lifts -/
def f51 : AFn := ⟨23, [.tmp 4],
 .seq (.region 0 [oQ 2 (.box (.t 0)),
 oP 4 (.move (.c (.int .i64 0)))])
 (.seq (.region 0 [oP 5 (.move (.c (.int .i64 2000)))])
 (.seq (.seq (.region 0 [oP 8 (.move (.t 1)),
 oP 9 (.lenS (.t 8)),
 oP 10 (.move (.c (.int .i64 0)))])
 (.block 0 (.loop (.seq (.region 0 [oP 11 (.bin .lss (.t 10) (.t 9))])
 (.seq (.cond (.t 11) (.skip)
 (.exit 0))
 (.seq (.block 1 (.seq (.region 0 [oP 12 (.move (.t 10)),
 oP 13 (.idxSl 1 (.t 8) (.t 10)),
 oQ 14 (.load false 1 (.t 13)),
 oP 6 (.move (.t 12)),
 oP 7 (.move (.t 14))])
 (.region 0 [oP 15 (.move (.t 5)),
 oQ 16 (.load true 4 (.t 2)),
 oP 17 (.move (.t 6)),
 oP 18 (.move (.t 7)),
 oQ 19 (.call 1 62 [(.t 16), (.t 17), (.t 18)]),
 oP 20 (.minmax false (.t 15) [(.t 19)]),
 oP 5 (.move (.t 20))])))
 (.region 0 [oP 21 (.bin .add (.t 10) (.c (.int .i64 1))),
 oP 10 (.move (.t 21))])))))))
 (.seq (.region 0 [oP 22 (.move (.t 5)),
 oP 4 (.move (.t 22))])
 (.ret))))⟩
/-- almadraba/counts.valid -/
def f52 : AFn := ⟨63, [.tmp 2],
 .seq (.region 0 [oQ 1 (.box (.t 0)),
 oP 2 (.move (.c (.bool false)))])
 (.seq (.seq (.region 0 [oP 7 (.fieldAddr 0 (.t 1)),
 oQ 8 (.load false 1 (.t 7)),
 oP 9 (.bin .lss (.t 8) (.c (.int .i64 1))),
 oP 10 (.move (.t 9)),
 oG 11 10 false (.fieldAddr 0 (.t 1)),
 ⟨(some 12), .load false 1 (.t 11), (some (10, false)), none, []⟩,
 oG 13 10 false (.bin .gtr (.t 12) (.c (.int .i64 4))),
 oP 14 (.pick (.t 10) (.c (.bool true)) (.t 13)),
 oP 15 (.move (.t 14)),
 oG 16 15 false (.fieldAddr 1 (.t 1)),
 ⟨(some 17), .load false 1 (.t 16), (some (15, false)), none, []⟩,
 oG 18 15 false (.bin .lss (.t 17) (.c (.int .i64 1))),
 oP 19 (.pick (.t 15) (.c (.bool true)) (.t 18)),
 oP 20 (.move (.t 19)),
 oG 21 20 false (.fieldAddr 1 (.t 1)),
 ⟨(some 22), .load false 1 (.t 21), (some (20, false)), none, []⟩,
 oG 23 20 false (.bin .gtr (.t 22) (.c (.int .i64 5))),
 oP 24 (.pick (.t 20) (.c (.bool true)) (.t 23))])
 (.cond (.t 24) (.seq (.region 0 [oP 2 (.move (.c (.bool false)))])
 (.ret))
 (.skip)))
 (.seq (.seq (.region 0 [oP 25 (.fieldAddr 2 (.t 1)),
 oQ 26 (.load false 1 (.t 25)),
 oP 27 (.lenS (.t 26)),
 oP 28 (.fieldAddr 1 (.t 1)),
 oQ 29 (.load false 1 (.t 28)),
 oP 30 (.bin .sub (.t 29) (.c (.int .i64 1))),
 oP 31 (.bin .neq (.t 27) (.t 30)),
 oP 32 (.move (.t 31)),
 oG 33 32 false (.fieldAddr 3 (.t 1)),
 ⟨(some 34), .load false 1 (.t 33), (some (32, false)), none, []⟩,
 oG 35 32 false (.lenS (.t 34)),
 oG 36 32 false (.bin .gtr (.t 35) (.c (.int .i64 8))),
 oP 37 (.pick (.t 32) (.c (.bool true)) (.t 36))])
 (.cond (.t 37) (.seq (.region 0 [oP 2 (.move (.c (.bool false)))])
 (.ret))
 (.skip)))
 (.seq (.seq (.region 0 [oP 38 (.fieldAddr 2 (.t 1)),
 oQ 39 (.load false 1 (.t 38)),
 oP 40 (.lenS (.t 39)),
 oP 41 (.move (.c (.int .i64 0)))])
 (.block 0 (.loop (.seq (.region 0 [oP 42 (.bin .lss (.t 41) (.t 40))])
 (.seq (.cond (.t 42) (.skip)
 (.exit 0))
 (.seq (.block 1 (.seq (.region 0 [oP 43 (.idxSl 1 (.t 39) (.t 41)),
 oQ 44 (.load false 1 (.t 43)),
 oP 4 (.move (.t 44))])
 (.seq (.region 0 [oP 45 (.move (.t 4)),
 oP 46 (.fieldAddr 0 (.t 1)),
 oQ 47 (.load false 1 (.t 46)),
 oQ 48 (.call 1 63 [(.t 45), (.t 47)]),
 oP 49 (.un .not (.t 48))])
 (.cond (.t 49) (.seq (.region 0 [oP 2 (.move (.c (.bool false)))])
 (.ret))
 (.skip)))))
 (.region 0 [oP 50 (.bin .add (.t 41) (.c (.int .i64 1))),
 oP 41 (.move (.t 50))])))))))
 (.seq (.seq (.region 0 [oP 51 (.fieldAddr 3 (.t 1)),
 oQ 52 (.load false 1 (.t 51)),
 oP 53 (.lenS (.t 52)),
 oP 54 (.move (.c (.int .i64 0)))])
 (.block 2 (.loop (.seq (.region 0 [oP 55 (.bin .lss (.t 54) (.t 53))])
 (.seq (.cond (.t 55) (.skip)
 (.exit 2))
 (.seq (.block 3 (.seq (.region 0 [oP 56 (.idxSl 4 (.t 52) (.t 54)),
 oQ 57 (.load true 4 (.t 56)),
 oQ 6 (.alloc [.int .i64 0, .int .i64 0, .int .i64 0, .int .i64 0]),
 ⟨none, .store 4 (.t 6) (.t 57), none, none, []⟩])
 (.seq (.region 0 [oQ 58 (.load true 4 (.t 1)),
 oQ 59 (.load true 4 (.t 6)),
 oQ 60 (.call 1 64 [(.t 58), (.t 59)]),
 oP 61 (.un .not (.t 60))])
 (.cond (.t 61) (.seq (.region 0 [oP 2 (.move (.c (.bool false)))])
 (.ret))
 (.skip)))))
 (.region 0 [oP 62 (.bin .add (.t 54) (.c (.int .i64 1))),
 oP 54 (.move (.t 62))])))))))
 (.seq (.region 0 [oP 2 (.move (.c (.bool true)))])
 (.ret))))))⟩
/-- almadraba/counts.widest -/
def f53 : AFn := ⟨24, [.cell true 441 0],
 .seq (.region 0 [oQ 0 (.alloc [.int .i64 0, .int .i64 0, .int .i64 0, .int .i64 0, .int .i64 0, .int .i64 0, .int .i64 0, .int .i64 0, .int .i64 0, .int .i64 0, .int .i64 0, .int .i64 0, .int .i64 0, .int .i64 0, .int .i64 0, .int .i64 0, .int .i64 0, .int .i64 0, .int .i64 0, .int .i64 0, .int .i64 0, .int .i64 0, .int .i64 0, .int .i64 0, .int .i64 0, .int .i64 0, .int .i64 0, .int .i64 0, .int .i64 0, .int .i64 0, .int .i64 0, .int .i64 0, .int .i64 0, .int .i64 0, .int .i64 0, .int .i64 0, .int .i64 0, .int .i64 0, .int .i64 0, .int .i64 0, .int .i64 0, .int .i64 0, .int .i64 0, .int .i64 0, .int .i64 0, .int .i64 0, .int .i64 0, .int .i64 0, .int .i64 0, .int .i64 0, .int .i64 0, .int .i64 0, .int .i64 0, .int .i64 0, .int .i64 0, .int .i64 0, .int .i64 0, .int .i64 0, .int .i64 0, .int .i64 0, .int .i64 0, .int .i64 0, .int .i64 0, .int .i64 0, .int .i64 0, .int .i64 0, .int .i64 0, .int .i64 0, .int .i64 0, .int .i64 0, .int .i64 0, .int .i64 0, .int .i64 0, .int .i64 0, .int .i64 0, .int .i64 0, .int .i64 0, .int .i64 0, .int .i64 0, .int .i64 0, .int .i64 0, .int .i64 0, .int .i64 0, .int .i64 0, .int .i64 0, .int .i64 0, .int .i64 0, .int .i64 0, .int .i64 0, .int .i64 0, .int .i64 0, .int .i64 0, .int .i64 0, .int .i64 0, .int .i64 0, .int .i64 0, .int .i64 0, .int .i64 0, .int .i64 0, .int .i64 0, .int .i64 0, .int .i64 0, .int .i64 0, .int .i64 0, .int .i64 0, .int .i64 0, .int .i64 0, .int .i64 0, .int .i64 0, .int .i64 0, .int .i64 0, .int .i64 0, .int .i64 0, .int .i64 0, .int .i64 0, .int .i64 0, .int .i64 0, .int .i64 0, .int .i64 0, .int .i64 0, .int .i64 0, .int .i64 0, .int .i64 0, .int .i64 0, .int .i64 0, .int .i64 0, .int .i64 0, .int .i64 0, .int .i64 0, .int .i64 0, .int .i64 0, .int .i64 0, .int .i64 0, .int .i64 0, .int .i64 0, .int .i64 0, .int .i64 0, .int .i64 0, .int .i64 0, .int .i64 0, .int .i64 0, .int .i64 0, .int .i64 0, .int .i64 0, .int .i64 0, .int .i64 0, .int .i64 0, .int .i64 0, .int .i64 0, .int .i64 0, .int .i64 0, .int .i64 0, .int .i64 0, .int .i64 0, .int .i64 0, .int .i64 0, .int .i64 0, .int .i64 0, .int .i64 0, .int .i64 0, .int .i64 0, .int .i64 0, .int .i64 0, .int .i64 0, .int .i64 0, .int .i64 0, .int .i64 0, .int .i64 0, .int .i64 0, .int .i64 0, .int .i64 0, .int .i64 0, .int .i64 0, .int .i64 0, .int .i64 0, .int .i64 0, .int .i64 0, .int .i64 0, .int .i64 0, .int .i64 0, .int .i64 0, .int .i64 0, .int .i64 0, .int .i64 0, .int .i64 0, .int .i64 0, .int .i64 0, .int .i64 0, .int .i64 0, .int .i64 0, .int .i64 0, .int .i64 0, .int .i64 0, .int .i64 0, .int .i64 0, .int .i64 0, .int .i64 0, .int .i64 0, .int .i64 0, .int .i64 0, .int .i64 0, .int .i64 0, .int .i64 0, .int .i64 0, .int .i64 0, .int .i64 0, .int .i64 0, .int .i64 0, .int .i64 0, .int .i64 0, .int .i64 0, .int .i64 0, .int .i64 0, .int .i64 0, .int .i64 0, .int .i64 0, .int .i64 0, .int .i64 0, .int .i64 0, .int .i64 0, .int .i64 0, .int .i64 0, .int .i64 0, .int .i64 0, .int .i64 0, .int .i64 0, .int .i64 0, .int .i64 0, .int .i64 0, .int .i64 0, .int .i64 0, .int .i64 0, .int .i64 0, .int .i64 0, .int .i64 0, .int .i64 0, .int .i64 0, .int .i64 0, .int .i64 0, .int .i64 0, .int .i64 0, .int .i64 0, .int .i64 0, .int .i64 0, .int .i64 0, .int .i64 0, .int .i64 0, .int .i64 0, .int .i64 0, .int .i64 0, .int .i64 0, .int .i64 0, .int .i64 0, .int .i64 0, .int .i64 0, .int .i64 0, .int .i64 0, .int .i64 0, .int .i64 0, .int .i64 0, .int .i64 0, .int .i64 0, .int .i64 0, .int .i64 0, .int .i64 0, .int .i64 0, .int .i64 0, .int .i64 0, .int .i64 0, .int .i64 0, .int .i64 0, .int .i64 0, .int .i64 0, .int .i64 0, .int .i64 0, .int .i64 0, .int .i64 0, .int .i64 0, .int .i64 0, .int .i64 0, .int .i64 0, .int .i64 0, .int .i64 0, .int .i64 0, .int .i64 0, .int .i64 0, .int .i64 0, .int .i64 0, .int .i64 0, .int .i64 0, .int .i64 0, .int .i64 0, .int .i64 0, .int .i64 0, .int .i64 0, .int .i64 0, .int .i64 0, .int .i64 0, .int .i64 0, .int .i64 0, .int .i64 0, .int .i64 0, .int .i64 0, .int .i64 0, .int .i64 0, .int .i64 0, .int .i64 0, .int .i64 0, .int .i64 0, .int .i64 0, .int .i64 0, .int .i64 0, .int .i64 0, .int .i64 0, .int .i64 0, .int .i64 0, .int .i64 0, .int .i64 0, .int .i64 0, .int .i64 0, .int .i64 0, .int .i64 0, .int .i64 0, .int .i64 0, .int .i64 0, .int .i64 0, .int .i64 0, .int .i64 0, .int .i64 0, .int .i64 0, .int .i64 0, .int .i64 0, .int .i64 0, .int .i64 0, .int .i64 0, .int .i64 0, .int .i64 0, .int .i64 0, .int .i64 0, .int .i64 0, .int .i64 0, .int .i64 0, .int .i64 0, .int .i64 0, .int .i64 0, .int .i64 0, .int .i64 0, .int .i64 0, .int .i64 0, .int .i64 0, .int .i64 0, .int .i64 0, .int .i64 0, .int .i64 0, .int .i64 0, .int .i64 0, .int .i64 0, .int .i64 0, .int .i64 0, .int .i64 0, .int .i64 0, .int .i64 0, .int .i64 0, .int .i64 0, .int .i64 0, .int .i64 0, .int .i64 0, .int .i64 0, .int .i64 0, .int .i64 0, .int .i64 0, .int .i64 0, .int .i64 0, .int .i64 0, .int .i64 0, .int .i64 0, .int .i64 0, .int .i64 0, .int .i64 0, .int .i64 0, .int .i64 0, .int .i64 0, .int .i64 0, .int .i64 0, .int .i64 0, .int .i64 0, .int .i64 0, .int .i64 0, .int .i64 0, .int .i64 0, .int .i64 0, .int .i64 0, .int .i64 0, .int .i64 0, .int .i64 0, .int .i64 0, .int .i64 0, .int .i64 0, .int .i64 0, .int .i64 0, .int .i64 0, .int .i64 0, .int .i64 0, .int .i64 0, .int .i64 0, .int .i64 0, .int .i64 0, .int .i64 0, .int .i64 0, .int .i64 0, .int .i64 0, .int .i64 0, .int .i64 0, .int .i64 0, .int .i64 0, .int .i64 0, .int .i64 0, .int .i64 0, .int .i64 0, .int .i64 0, .int .i64 0, .int .i64 0, .int .i64 0, .int .i64 0, .int .i64 0, .int .i64 0, .int .i64 0, .int .i64 0, .int .i64 0, .int .i64 0, .int .i64 0, .int .i64 0, .int .i64 0, .int .i64 0, .int .i64 0, .int .i64 0, .int .i64 0, .int .i64 0, .int .i64 0, .int .i64 0, .int .i64 0])])
 (.seq (.region 0 [oQ 1 (.alloc [.int .i64 0, .int .i64 0, .int .i64 0, .int .i64 0, .int .i64 0, .int .i64 0, .int .i64 0, .int .i64 0, .int .i64 0, .int .i64 0, .int .i64 0, .int .i64 0, .int .i64 0, .int .i64 0, .int .i64 0, .int .i64 0, .int .i64 0, .int .i64 0, .int .i64 0, .int .i64 0, .int .i64 0, .int .i64 0, .int .i64 0, .int .i64 0, .int .i64 0, .int .i64 0, .int .i64 0, .int .i64 0, .int .i64 0, .int .i64 0, .int .i64 0, .int .i64 0, .int .i64 0, .int .i64 0, .int .i64 0, .int .i64 0, .int .i64 0, .int .i64 0, .int .i64 0, .int .i64 0, .int .i64 0, .int .i64 0, .int .i64 0, .int .i64 0, .int .i64 0, .int .i64 0, .int .i64 0, .int .i64 0, .int .i64 0, .int .i64 0, .int .i64 0, .int .i64 0, .int .i64 0, .int .i64 0, .int .i64 0, .int .i64 0, .int .i64 0, .int .i64 0, .int .i64 0, .int .i64 0, .int .i64 0, .int .i64 0, .int .i64 0, .int .i64 0, .int .i64 0, .int .i64 0, .int .i64 0, .int .i64 0, .int .i64 0, .int .i64 0, .int .i64 0, .int .i64 0, .int .i64 0, .int .i64 0, .int .i64 0, .int .i64 0, .int .i64 0, .int .i64 0, .int .i64 0, .int .i64 0, .int .i64 0, .int .i64 0, .int .i64 0, .int .i64 0, .int .i64 0, .int .i64 0, .int .i64 0, .int .i64 0, .int .i64 0, .int .i64 0, .int .i64 0, .int .i64 0, .int .i64 0, .int .i64 0, .int .i64 0, .int .i64 0, .int .i64 0, .int .i64 0, .int .i64 0, .int .i64 0, .int .i64 0, .int .i64 0, .int .i64 0, .int .i64 0, .int .i64 0, .int .i64 0, .int .i64 0, .int .i64 0, .int .i64 0, .int .i64 0, .int .i64 0, .int .i64 0, .int .i64 0, .int .i64 0, .int .i64 0, .int .i64 0, .int .i64 0, .int .i64 0, .int .i64 0, .int .i64 0, .int .i64 0, .int .i64 0, .int .i64 0, .int .i64 0, .int .i64 0, .int .i64 0, .int .i64 0, .int .i64 0, .int .i64 0, .int .i64 0, .int .i64 0, .int .i64 0, .int .i64 0, .int .i64 0, .int .i64 0, .int .i64 0, .int .i64 0, .int .i64 0, .int .i64 0, .int .i64 0, .int .i64 0, .int .i64 0, .int .i64 0, .int .i64 0, .int .i64 0, .int .i64 0, .int .i64 0, .int .i64 0, .int .i64 0, .int .i64 0, .int .i64 0, .int .i64 0, .int .i64 0, .int .i64 0, .int .i64 0, .int .i64 0, .int .i64 0, .int .i64 0, .int .i64 0, .int .i64 0, .int .i64 0, .int .i64 0, .int .i64 0, .int .i64 0, .int .i64 0, .int .i64 0, .int .i64 0, .int .i64 0, .int .i64 0, .int .i64 0, .int .i64 0, .int .i64 0, .int .i64 0, .int .i64 0, .int .i64 0, .int .i64 0, .int .i64 0, .int .i64 0, .int .i64 0, .int .i64 0, .int .i64 0, .int .i64 0, .int .i64 0, .int .i64 0, .int .i64 0, .int .i64 0, .int .i64 0, .int .i64 0, .int .i64 0, .int .i64 0, .int .i64 0, .int .i64 0, .int .i64 0, .int .i64 0, .int .i64 0, .int .i64 0, .int .i64 0, .int .i64 0, .int .i64 0, .int .i64 0, .int .i64 0, .int .i64 0, .int .i64 0, .int .i64 0, .int .i64 0, .int .i64 0, .int .i64 0, .int .i64 0, .int .i64 0, .int .i64 0, .int .i64 0, .int .i64 0, .int .i64 0, .int .i64 0, .int .i64 0, .int .i64 0, .int .i64 0, .int .i64 0, .int .i64 0, .int .i64 0, .int .i64 0, .int .i64 0, .int .i64 0, .int .i64 0, .int .i64 0, .int .i64 0, .int .i64 0, .int .i64 0, .int .i64 0, .int .i64 0, .int .i64 0, .int .i64 0, .int .i64 0, .int .i64 0, .int .i64 0, .int .i64 0, .int .i64 0, .int .i64 0, .int .i64 0, .int .i64 0, .int .i64 0, .int .i64 0, .int .i64 0, .int .i64 0, .int .i64 0, .int .i64 0, .int .i64 0, .int .i64 0, .int .i64 0, .int .i64 0, .int .i64 0, .int .i64 0, .int .i64 0, .int .i64 0, .int .i64 0, .int .i64 0, .int .i64 0, .int .i64 0, .int .i64 0, .int .i64 0, .int .i64 0, .int .i64 0, .int .i64 0, .int .i64 0, .int .i64 0, .int .i64 0, .int .i64 0, .int .i64 0, .int .i64 0, .int .i64 0, .int .i64 0, .int .i64 0, .int .i64 0, .int .i64 0, .int .i64 0, .int .i64 0, .int .i64 0, .int .i64 0, .int .i64 0, .int .i64 0, .int .i64 0, .int .i64 0, .int .i64 0, .int .i64 0, .int .i64 0, .int .i64 0, .int .i64 0, .int .i64 0, .int .i64 0, .int .i64 0, .int .i64 0, .int .i64 0, .int .i64 0, .int .i64 0, .int .i64 0, .int .i64 0, .int .i64 0, .int .i64 0, .int .i64 0, .int .i64 0, .int .i64 0, .int .i64 0, .int .i64 0, .int .i64 0, .int .i64 0, .int .i64 0, .int .i64 0, .int .i64 0, .int .i64 0, .int .i64 0, .int .i64 0, .int .i64 0, .int .i64 0, .int .i64 0, .int .i64 0, .int .i64 0, .int .i64 0, .int .i64 0, .int .i64 0, .int .i64 0, .int .i64 0, .int .i64 0, .int .i64 0, .int .i64 0, .int .i64 0, .int .i64 0, .int .i64 0, .int .i64 0, .int .i64 0, .int .i64 0, .int .i64 0, .int .i64 0, .int .i64 0, .int .i64 0, .int .i64 0, .int .i64 0, .int .i64 0, .int .i64 0, .int .i64 0, .int .i64 0, .int .i64 0, .int .i64 0, .int .i64 0, .int .i64 0, .int .i64 0, .int .i64 0, .int .i64 0, .int .i64 0, .int .i64 0, .int .i64 0, .int .i64 0, .int .i64 0, .int .i64 0, .int .i64 0, .int .i64 0, .int .i64 0, .int .i64 0, .int .i64 0, .int .i64 0, .int .i64 0, .int .i64 0, .int .i64 0, .int .i64 0, .int .i64 0, .int .i64 0, .int .i64 0, .int .i64 0, .int .i64 0, .int .i64 0, .int .i64 0, .int .i64 0, .int .i64 0, .int .i64 0, .int .i64 0, .int .i64 0, .int .i64 0, .int .i64 0, .int .i64 0, .int .i64 0, .int .i64 0, .int .i64 0, .int .i64 0, .int .i64 0, .int .i64 0, .int .i64 0, .int .i64 0, .int .i64 0, .int .i64 0, .int .i64 0, .int .i64 0, .int .i64 0, .int .i64 0, .int .i64 0, .int .i64 0, .int .i64 0, .int .i64 0, .int .i64 0, .int .i64 0, .int .i64 0, .int .i64 0, .int .i64 0, .int .i64 0, .int .i64 0, .int .i64 0, .int .i64 0, .int .i64 0, .int .i64 0, .int .i64 0, .int .i64 0, .int .i64 0, .int .i64 0, .int .i64 0, .int .i64 0, .int .i64 0, .int .i64 0, .int .i64 0, .int .i64 0, .int .i64 0, .int .i64 0, .int .i64 0, .int .i64 0, .int .i64 0, .int .i64 0, .int .i64 0, .int .i64 0, .int .i64 0, .int .i64 0, .int .i64 0, .int .i64 0, .int .i64 0, .int .i64 0, .int .i64 0, .int .i64 0, .int .i64 0, .int .i64 0, .int .i64 0, .int .i64 0, .int .i64 0, .int .i64 0, .int .i64 0, .int .i64 0])])
 (.seq (.seq (.region 0 [oP 4 (.move (.c (.int .i64 0)))])
 (.block 0 (.loop (.seq (.region 0 [oP 5 (.bin .lss (.t 4) (.c (.int .i64 21)))])
 (.seq (.cond (.t 5) (.skip)
 (.exit 0))
 (.seq (.block 1 (.seq (.region 0 [oP 6 (.move (.t 4)),
 oP 2 (.move (.t 6))])
 (.seq (.region 0 [oP 7 (.move (.c (.int .i64 0)))])
 (.block 2 (.loop (.seq (.region 0 [oP 8 (.bin .lss (.t 7) (.c (.int .i64 21)))])
 (.seq (.cond (.t 8) (.skip)
 (.exit 2))
 (.seq (.block 3 (.seq (.region 0 [oP 9 (.move (.t 7)),
 oP 3 (.move (.t 9))])
 (.seq (.region 0 [oP 10 (.move (.t 2)),
 oP 11 (.move (.t 3)),
 oP 12 (.bin .neq (.t 10) (.t 11)),
 oP 13 (.move (.t 12)),
 oG 14 13 true (.move (.t 2)),
 oG 15 13 true (.bin .neq (.t 14) (.c (.int .i64 0))),
 oP 16 (.pick (.t 13) (.t 15) (.c (.bool false)))])
 (.cond (.t 16) (.region 0 [oP 17 (.move (.t 2)),
 oP 18 (.move (.t 3)),
 oP 19 (.idxArr 21 21 (.t 1) (.t 17)),
 oP 20 (.idxArr 21 1 (.t 19) (.t 18)),
 ⟨none, .store 1 (.t 20) (.c (.int .i64 40)), none, none, []⟩])
 (.skip)))))
 (.region 0 [oP 21 (.bin .add (.t 7) (.c (.int .i64 1))),
 oP 7 (.move (.t 21))])))))))))
 (.region 0 [oP 22 (.bin .add (.t 4) (.c (.int .i64 1))),
 oP 4 (.move (.t 22))])))))))
 (.seq (.region 0 [oQ 23 (.load true 441 (.t 1)),
 ⟨none, .store 441 (.t 0) (.t 23), none, none, []⟩])
 (.ret))))⟩
/-- (*almadraba/counts.trap).fill -/
def f54 : AFn := ⟨12, [.cell false 1 2],
 .seq (.region 0 [oQ 1 (.box (.t 0)),
 oQ 2 (.alloc [.bool false])])
 (.seq (.seq (.region 0 [oQ 4 (.load false 1 (.t 1)),
 oP 5 (.mkFn 65 [(.t 4)] [])])
 (.block 0 (.rangeFunc (.t 5) [6] (.region 0 [oQ 3 (.alloc [.int .i64 0, .int .i64 0]),
 ⟨none, .store 2 (.t 3) (.t 6), none, none, []⟩])
 (.block 1 (.seq (.region 0 [oQ 7 (.load false 1 (.t 1)),
 oQ 8 (.load true 2 (.t 3)),
 oP 9 (.build [.int .i64 0, .int .i64 0] [(1, 1, (.c (.int .i64 40)))]),
 oQ 10 (.call 0 66 [(.t 7), (.t 8), (.t 9)]),
 oP 11 (.un .not (.t 10))])
 (.cond (.t 11) (.seq (.region 0 [⟨none, .store 1 (.t 2) (.c (.bool false)), none, none, []⟩])
 (.ret))
 (.skip)))))))
 (.seq (.region 0 [⟨none, .store 1 (.t 2) (.c (.bool true)), none, none, []⟩])
 (.ret)))⟩
/-- (*almadraba/counts.trap).move -/
def f55 : AFn := ⟨48, [.tmp 2],
 .seq (.region 0 [oP 2 (.move (.c (.bool false)))])
 (.seq (.seq (.region 0 [oP 7 (.move (.t 0)),
 oP 8 (.nilCheck (.t 7)),
 oP 9 (.fieldAddr 0 (.t 8)),
 oP 10 (.fieldAddr 2 (.t 9)),
 oQ 11 (.load false 1 (.t 10)),
 oP 12 (.lenS (.t 11)),
 oP 13 (.move (.c (.int .i64 0)))])
 (.block 0 (.loop (.seq (.region 0 [oP 14 (.bin .lss (.t 13) (.t 12))])
 (.seq (.cond (.t 14) (.skip)
 (.exit 0))
 (.seq (.block 1 (.seq (.region 0 [oP 15 (.move (.t 13)),
 oP 16 (.idxSl 1 (.t 11) (.t 13)),
 oQ 17 (.load false 1 (.t 16)),
 oP 3 (.move (.t 15)),
 oP 4 (.move (.t 17))])
 (.seq (.region 0 [oP 18 (.move (.t 0)),
 oP 19 (.nilCheck (.t 18)),
 oP 20 (.fieldAddr 0 (.t 19)),
 oP 21 (.fieldAddr 0 (.t 20)),
 oQ 22 (.load false 1 (.t 21)),
 oP 23 (.move (.c (.int .i64 0)))])
 (.block 2 (.loop (.seq (.region 0 [oP 24 (.bin .lss (.t 23) (.t 22))])
 (.seq (.cond (.t 24) (.skip)
 (.exit 2))
 (.seq (.block 3 (.seq (.region 0 [oP 25 (.move (.t 23)),
 oP 5 (.move (.t 25))])
 (.seq (.region 0 [oP 26 (.build [.int .i64 0, .int .i64 0] []),
 oQ 6 (.alloc [.int .i64 0, .int .i64 0]),
 ⟨none, .store 2 (.t 6) (.t 26), none, none, []⟩])
 (.seq (.seq (.region 0 [oP 27 (.move (.t 4)),
 oP 28 (.move (.t 5)),
 oQ 29 (.call 1 61 [(.t 27), (.t 28)])])
 (.cond (.t 29) (.region 0 [oP 30 (.fieldAddr 1 (.t 6)),
 ⟨none, .store 1 (.t 30) (.c (.int .i64 40)), none, none, []⟩])
 (.skip)))
 (.seq (.region 0 [oP 31 (.move (.t 0)),
 oP 32 (.nilCheck (.t 31)),
 oP 33 (.fieldAddr 4 (.t 32)),
 oP 34 (.move (.t 0)),
 oP 35 (.move (.t 3)),
 oP 36 (.bin .add (.t 35) (.c (.int .i64 1))),
 oP 37 (.move (.t 5)),
 oQ 38 (.call 3 47 [(.t 34), (.t 36), (.t 37)]),
 oP 39 (.move (.t 0)),
 oP 40 (.move (.t 3)),
 oP 41 (.move (.t 5)),
 oQ 42 (.call 3 47 [(.t 39), (.t 40), (.t 41)]),
 oQ 43 (.load true 2 (.t 6)),
 oQ 44 (.call 0 67 [(.t 33), (.t 38), (.t 42), (.t 43)]),
 oP 45 (.un .not (.t 44))])
 (.cond (.t 45) (.seq (.region 0 [oP 2 (.move (.c (.bool false)))])
 (.ret))
 (.skip)))))))
 (.region 0 [oP 46 (.bin .add (.t 23) (.c (.int .i64 1))),
 oP 23 (.move (.t 46))])))))))))
 (.region 0 [oP 47 (.bin .add (.t 13) (.c (.int .i64 1))),
 oP 13 (.move (.t 47))])))))))
 (.seq (.region 0 [oP 2 (.move (.c (.bool true)))])
 (.ret)))⟩
/-- (*almadraba/counts.trap).hear -/
def f56 : AFn := ⟨31, [.tmp 2],
 .seq (.region 0 [oP 2 (.move (.c (.bool false)))])
 (.seq (.seq (.region 0 [oP 6 (.move (.t 0)),
 oP 7 (.nilCheck (.t 6)),
 oP 8 (.fieldAddr 0 (.t 7)),
 oP 9 (.fieldAddr 3 (.t 8)),
 oQ 10 (.load false 1 (.t 9)),
 oP 11 (.lenS (.t 10)),
 oP 12 (.move (.c (.int .i64 0)))])
 (.block 0 (.loop (.seq (.region 0 [oP 13 (.bin .lss (.t 12) (.t 11))])
 (.seq (.cond (.t 13) (.skip)
 (.exit 0))
 (.seq (.block 1 (.seq (.region 0 [oP 14 (.idxSl 4 (.t 10) (.t 12)),
 oQ 15 (.load true 4 (.t 14)),
 oQ 4 (.alloc [.int .i64 0, .int .i64 0, .int .i64 0, .int .i64 0]),
 ⟨none, .store 4 (.t 4) (.t 15), none, none, []⟩])
 (.seq (.region 0 [oP 16 (.fieldAddr 0 (.t 4)),
 oQ 17 (.load false 1 (.t 16)),
 oP 18 (.fieldAddr 1 (.t 4)),
 oQ 19 (.load false 1 (.t 18)),
 oP 20 (.build [.int .i64 0, .int .i64 0] [(0, 1, (.t 17)), (1, 1, (.t 19))]),
 oQ 5 (.alloc [.int .i64 0, .int .i64 0]),
 ⟨none, .store 2 (.t 5) (.t 20), none, none, []⟩])
 (.seq (.region 0 [oP 21 (.move (.t 0)),
 oQ 22 (.load true 2 (.t 5)),
 oP 23 (.fieldAddr 2 (.t 4)),
 oQ 24 (.load false 1 (.t 23)),
 oP 25 (.fieldAddr 3 (.t 4)),
 oQ 26 (.load false 1 (.t 25)),
 oP 27 (.build [.int .i64 0, .int .i64 0] [(0, 1, (.t 24)), (1, 1, (.t 26))]),
 oQ 28 (.call 0 66 [(.t 21), (.t 22), (.t 27)]),
 oP 29 (.un .not (.t 28))])
 (.cond (.t 29) (.seq (.region 0 [oP 2 (.move (.c (.bool false)))])
 (.ret))
 (.skip))))))
 (.region 0 [oP 30 (.bin .add (.t 12) (.c (.int .i64 1))),
 oP 12 (.move (.t 30))])))))))
 (.seq (.region 0 [oP 2 (.move (.c (.bool true)))])
 (.ret)))⟩
/-- almadraba/lifts.valid -/
def f57 : AFn := ⟨38, [.tmp 2],
 .seq (.region 0 [oQ 1 (.box (.t 0)),
 oP 2 (.move (.c (.bool false)))])
 (.seq (.region 0 [oP 3 (.move (.c (.fn 68 [] [])))])
 (.seq (.region 0 [oP 4 (.move (.c (.fn 70 [] [])))])
 (.seq (.region 0 [oP 5 (.fieldAddr 0 (.t 1)),
 oQ 6 (.load true 2 (.t 5)),
 oQ 7 (.call 1 69 [(.t 6), (.c (.int .i64 2000))]),
 oP 8 (.move (.t 7)),
 oG 9 8 true (.fieldAddr 2 (.t 1)),
 ⟨(some 10), .load false 1 (.t 9), (some (8, true)), none, []⟩,
 oG 11 8 true (.lenS (.t 10)),
 oG 12 8 true (.bin .leq (.t 11) (.c (.int .i64 4))),
 oP 13 (.pick (.t 8) (.t 12) (.c (.bool false))),
 oP 14 (.move (.t 13)),
 oG 15 14 true (.fieldAddr 2 (.t 1)),
 ⟨(some 16), .load false 1 (.t 15), (some (14, true)), none, []⟩,
 oG 17 14 true (.move (.t 3)),
 ⟨(some 18), .call 1 71 [(.t 16), (.t 17)], (some (14, true)), none, []⟩,
 oP 19 (.pick (.t 14) (.t 18) (.c (.bool false))),
 oP 20 (.move (.t 19)),
 oG 21 20 true (.fieldAddr 2 (.t 1)),
 ⟨(some 22), .load false 1 (.t 21), (some (20, true)), none, []⟩,
 ⟨(some 23), .call 1 73 [(.t 22)], (some (20, true)), none, []⟩,
 ⟨(some 24), .call 1 72 [(.t 23), (.c (.int .i64 12))], (some (20, true)), none, []⟩,
 oP 25 (.pick (.t 20) (.t 24) (.c (.bool false))),
 oP 26 (.move (.t 25)),
 oG 27 26 true (.fieldAddr 3 (.t 1)),
 ⟨(some 28), .load false 1 (.t 27), (some (26, true)), none, []⟩,
 oG 29 26 true (.lenS (.t 28)),
 oG 30 26 true (.bin .leq (.t 29) (.c (.int .i64 6))),
 oP 31 (.pick (.t 26) (.t 30) (.c (.bool false))),
 oP 32 (.move (.t 31)),
 oG 33 32 true (.fieldAddr 3 (.t 1)),
 ⟨(some 34), .load false 1 (.t 33), (some (32, true)), none, []⟩,
 oG 35 32 true (.move (.t 4)),
 ⟨(some 36), .call 1 74 [(.t 34), (.t 35)], (some (32, true)), none, []⟩,
 oP 37 (.pick (.t 32) (.t 36) (.c (.bool false))),
 oP 2 (.move (.t 37))])
 (.ret))))⟩
/-- (almadraba/lifts.sea).crews -/
def f58 : AFn := ⟨7, [],
 .seq (.region 0 [oQ 2 (.box (.t 0))])
 (.region 0 [oQ 4 (.load true 4 (.t 2)),
 oP 5 (.move (.t 1)),
 oQ 6 (.call 0 75 [(.t 4), (.c (.nils)), (.t 5)])])⟩
/-- (almadraba/lifts.sea).cost -/
def f59 : AFn := ⟨25, [.tmp 4],
 .seq (.region 0 [oQ 2 (.box (.t 0)),
 oP 4 (.move (.c (.int .i64 0)))])
 (.seq (.region 0 [oP 5 (.move (.c (.int .i64 0)))])
 (.seq (.seq (.region 0 [oP 8 (.move (.t 1)),
 oP 9 (.lenS (.t 8)),
 oP 10 (.move (.c (.int .i64 0)))])
 (.block 0 (.loop (.seq (.region 0 [oP 11 (.bin .lss (.t 10) (.t 9))])
 (.seq (.cond (.t 11) (.skip)
 (.exit 0))
 (.seq (.block 1 (.seq (.region 0 [oP 12 (.idxSl 1 (.t 8) (.t 10)),
 oQ 13 (.load false 1 (.t 12)),
 oP 7 (.move (.t 13))])
 (.region 0 [oP 14 (.move (.t 5)),
 oP 15 (.fieldAddr 0 (.t 2)),
 oP 16 (.fieldAddr 3 (.t 15)),
 oQ 17 (.load false 1 (.t 16)),
 oP 18 (.move (.t 7)),
 oP 19 (.idxSl 2 (.t 17) (.t 18)),
 oP 20 (.fieldAddr 1 (.t 19)),
 oQ 21 (.load false 1 (.t 20)),
 oP 22 (.bin .add (.t 14) (.t 21)),
 oP 5 (.move (.t 22))])))
 (.region 0 [oP 23 (.bin .add (.t 10) (.c (.int .i64 1))),
 oP 10 (.move (.t 23))])))))))
 (.seq (.region 0 [oP 24 (.move (.t 5)),
 oP 4 (.move (.t 24))])
 (.ret))))⟩
/-- almadraba/lifts.upTo -/
def f60 : AFn := ⟨12, [.tmp 4],
 .seq (.region 0 [oP 4 (.move (.c (.bool false)))])
 (.seq (.region 0 [oP 5 (.move (.t 0)),
 oP 6 (.bin .leq (.c (.int .i64 0)) (.t 5)),
 oP 7 (.move (.t 6)),
 oG 8 7 true (.move (.t 0)),
 oG 9 7 true (.move (.t 1)),
 oG 10 7 true (.bin .leq (.t 8) (.t 9)),
 oP 11 (.pick (.t 7) (.t 10) (.c (.bool false))),
 oP 4 (.move (.t 11))])
 (.ret))⟩
/-- slices.Contains[[]int,int] -/
def f61 : AFn := ⟨9, [.tmp 4],
 .seq (.region 0 [oP 4 (.move (.c (.bool false)))])
 (.seq (.region 0 [oP 5 (.move (.t 0)),
 oP 6 (.move (.t 1)),
 oQ 7 (.call 1 76 [(.t 5), (.t 6)]),
 oP 8 (.bin .geq (.t 7) (.c (.int .i64 0))),
 oP 4 (.move (.t 8))])
 (.ret))⟩
/-- (almadraba/lifts.sea).bears -/
def f62 : AFn := ⟨25, [.tmp 6],
 .seq (.region 0 [oQ 3 (.box (.t 0)),
 oP 6 (.move (.c (.int .i64 0)))])
 (.seq (.region 0 [oQ 8 (.load true 4 (.t 3)),
 oP 9 (.move (.t 1)),
 oQ 10 (.call 1 77 [(.t 8), (.t 9)]),
 oP 11 (.field false 1 1 (.t 10)),
 oP 7 (.move (.t 11))])
 (.seq (.seq (.region 0 [oP 12 (.move (.t 7)),
 oP 13 (.bin .eql (.t 12) (.c (.int .i64 0)))])
 (.cond (.t 13) (.seq (.region 0 [oP 6 (.move (.c (.int .i64 2000)))])
 (.ret))
 (.skip)))
 (.seq (.region 0 [oP 14 (.fieldAddr 0 (.t 3)),
 oP 15 (.fieldAddr 3 (.t 14)),
 oQ 16 (.load false 1 (.t 15)),
 oP 17 (.move (.t 2)),
 oP 18 (.idxSl 2 (.t 16) (.t 17)),
 oP 19 (.fieldAddr 0 (.t 18)),
 oQ 20 (.load false 1 (.t 19)),
 oP 21 (.bin .mul (.c (.int .i64 12)) (.t 20)),
 oP 22 (.move (.t 7)),
 oP 23 (.bin .quo (.t 21) (.t 22)),
 oP 24 (.minmax false (.t 23) [(.c (.int .i64 2000))]),
 oP 6 (.move (.t 24))])
 (.ret))))⟩
/-- almadraba/counts.ascending -/
def f63 : AFn := ⟨24, [.tmp 4],
 .seq (.region 0 [oP 4 (.move (.c (.bool false)))])
 (.seq (.region 0 [oP 5 (.move (.c (.int .i64 (-1))))])
 (.seq (.seq (.region 0 [oP 8 (.move (.t 0)),
 oP 9 (.lenS (.t 8)),
 oP 10 (.move (.c (.int .i64 0)))])
 (.block 0 (.loop (.seq (.region 0 [oP 11 (.bin .lss (.t 10) (.t 9))])
 (.seq (.cond (.t 11) (.skip)
 (.exit 0))
 (.seq (.block 1 (.seq (.region 0 [oP 12 (.idxSl 1 (.t 8) (.t 10)),
 oQ 13 (.load false 1 (.t 12)),
 oP 7 (.move (.t 13))])
 (.seq (.seq (.region 0 [oP 14 (.move (.t 7)),
 oP 15 (.move (.t 5)),
 oP 16 (.bin .leq (.t 14) (.t 15)),
 oP 17 (.move (.t 16)),
 oG 18 17 false (.move (.t 7)),
 oG 19 17 false (.move (.t 1)),
 oG 20 17 false (.bin .geq (.t 18) (.t 19)),
 oP 21 (.pick (.t 17) (.c (.bool true)) (.t 20))])
 (.cond (.t 21) (.seq (.region 0 [oP 4 (.move (.c (.bool false)))])
 (.ret))
 (.skip)))
 (.region 0 [oP 22 (.move (.t 7)),
 oP 5 (.move (.t 22))]))))
 (.region 0 [oP 23 (.bin .add (.t 10) (.c (.int .i64 1))),
 oP 10 (.move (.t 23))])))))))
 (.seq (.region 0 [oP 4 (.move (.c (.bool true)))])
 (.ret))))⟩
/-- almadraba/counts.fits -/
def f64 : AFn := ⟨28, [.tmp 4],
 .seq (.region 0 [oQ 2 (.box (.t 0)),
 oQ 3 (.box (.t 1)),
 oP 4 (.move (.c (.bool false)))])
 (.seq (.region 0 [oQ 5 (.load true 4 (.t 2)),
 oP 6 (.fieldAddr 0 (.t 3)),
 oQ 7 (.load false 1 (.t 6)),
 oP 8 (.fieldAddr 1 (.t 3)),
 oQ 9 (.load false 1 (.t 8)),
 oQ 10 (.call 1 36 [(.t 5), (.t 7), (.t 9)]),
 oP 11 (.move (.t 10)),
 oG 12 11 true (.fieldAddr 2 (.t 3)),
 ⟨(some 13), .load false 1 (.t 12), (some (11, true)), none, []⟩,
 oG 14 11 true (.bin .leq (.c (.int .i64 0)) (.t 13)),
 oP 15 (.pick (.t 11) (.t 14) (.c (.bool false))),
 oP 16 (.move (.t 15)),
 oG 17 16 true (.fieldAddr 2 (.t 3)),
 ⟨(some 18), .load false 1 (.t 17), (some (16, true)), none, []⟩,
 oG 19 16 true (.fieldAddr 3 (.t 3)),
 ⟨(some 20), .load false 1 (.t 19), (some (16, true)), none, []⟩,
 oG 21 16 true (.bin .leq (.t 18) (.t 20)),
 oP 22 (.pick (.t 16) (.t 21) (.c (.bool false))),
 oP 23 (.move (.t 22)),
 oG 24 23 true (.fieldAddr 3 (.t 3)),
 ⟨(some 25), .load false 1 (.t 24), (some (23, true)), none, []⟩,
 oG 26 23 true (.bin .leq (.t 25) (.c (.int .i64 40))),
 oP 27 (.pick (.t 23) (.t 26) (.c (.bool false))),
 oP 4 (.move (.t 27))])
 (.ret))⟩
/-- (*almadraba/counts.trap).places -/
def f65 : AFn := ⟨30, [],
 .seq (.region 0 [oP 6 (.move (.t 0)),
 oP 7 (.nilCheck (.t 6)),
 oP 8 (.fieldAddr 0 (.t 7)),
 oP 9 (.fieldAddr 1 (.t 8)),
 oQ 10 (.load false 1 (.t 9)),
 oP 11 (.move (.c (.int .i64 0)))])
 (.block 0 (.loop (.seq (.region 0 [oP 12 (.bin .lss (.t 11) (.t 10))])
 (.seq (.cond (.t 12) (.skip)
 (.exit 0))
 (.seq (.block 1 (.seq (.region 0 [oP 13 (.move (.t 11)),
 oP 4 (.move (.t 13))])
 (.seq (.region 0 [oP 14 (.move (.t 0)),
 oP 15 (.nilCheck (.t 14)),
 oP 16 (.fieldAddr 0 (.t 15)),
 oP 17 (.fieldAddr 0 (.t 16)),
 oQ 18 (.load false 1 (.t 17)),
 oP 19 (.move (.c (.int .i64 0)))])
 (.block 2 (.loop (.seq (.region 0 [oP 20 (.bin .lss (.t 19) (.t 18))])
 (.seq (.cond (.t 20) (.skip)
 (.exit 2))
 (.seq (.block 3 (.seq (.region 0 [oP 21 (.move (.t 19)),
 oP 5 (.move (.t 21))])
 (.seq (.region 0 [oP 22 (.move (.t 1)),
 oP 23 (.move (.t 4)),
 oP 24 (.move (.t 5)),
 oP 25 (.build [.int .i64 0, .int .i64 0] [(0, 1, (.t 23)), (1, 1, (.t 24))]),
 oQ 26 (.callv false (.t 22) [(.t 25)]),
 oP 27 (.un .not (.t 26))])
 (.cond (.t 27) (.ret)
 (.skip)))))
 (.region 0 [oP 28 (.bin .add (.t 19) (.c (.int .i64 1))),
 oP 19 (.move (.t 28))])))))))))
 (.region 0 [oP 29 (.bin .add (.t 11) (.c (.int .i64 1))),
 oP 11 (.move (.t 29))]))))))⟩
/-- (*almadraba/counts.trap).say -/
def f66 : AFn := ⟨25, [.tmp 6],
 .seq (.region 0 [oQ 4 (.box (.t 1)),
 oQ 5 (.box (.t 2)),
 oP 6 (.move (.c (.bool false)))])
 (.seq (.region 0 [oP 7 (.move (.t 0)),
 oP 8 (.nilCheck (.t 7)),
 oP 9 (.fieldAddr 4 (.t 8)),
 oP 10 (.move (.t 0)),
 oP 11 (.fieldAddr 0 (.t 4)),
 oQ 12 (.load false 1 (.t 11)),
 oP 13 (.fieldAddr 1 (.t 4)),
 oQ 14 (.load false 1 (.t 13)),
 oQ 15 (.call 3 47 [(.t 10), (.t 12), (.t 14)]),
 oP 16 (.move (.t 0)),
 oP 17 (.fieldAddr 0 (.t 4)),
 oQ 18 (.load false 1 (.t 17)),
 oP 19 (.fieldAddr 1 (.t 4)),
 oQ 20 (.load false 1 (.t 19)),
 oP 21 (.bin .add (.t 20) (.c (.int .i64 1))),
 oQ 22 (.call 3 47 [(.t 16), (.t 18), (.t 21)]),
 oQ 23 (.load true 2 (.t 5)),
 oQ 24 (.call 0 67 [(.t 9), (.t 15), (.t 22), (.t 23)]),
 oP 6 (.move (.t 24))])
 (.ret))⟩
/-- (*almadraba/counts.bounds).within -/
def f67 : AFn := ⟨24, [.tmp 8],
 .seq (.region 0 [oQ 7 (.box (.t 3)),
 oP 8 (.move (.c (.bool false)))])
 (.seq (.region 0 [oP 9 (.move (.t 0)),
 oP 10 (.move (.t 1)),
 oP 11 (.move (.t 2)),
 oP 12 (.fieldAddr 1 (.t 7)),
 oQ 13 (.load false 1 (.t 12)),
 oQ 14 (.call 0 78 [(.t 9), (.t 10), (.t 11), (.t 13)]),
 oP 15 (.move (.t 14)),
 oG 16 15 true (.move (.t 0)),
 oG 17 15 true (.move (.t 2)),
 oG 18 15 true (.move (.t 1)),
 oG 19 15 true (.fieldAddr 0 (.t 7)),
 ⟨(some 20), .load false 1 (.t 19), (some (15, true)), none, []⟩,
 oG 21 15 true (.un .neg (.t 20)),
 ⟨(some 22), .call 0 78 [(.t 16), (.t 17), (.t 18), (.t 21)], (some (15, true)), none, []⟩,
 oP 23 (.pick (.t 15) (.t 22) (.c (.bool false))),
 oP 8 (.move (.t 23))])
 (.ret))⟩
/-- almadraba/lifts.valid$1 -/
def f68 : AFn := ⟨5, [.tmp 2],
 .seq (.region 0 [oQ 1 (.box (.t 0)),
 oP 2 (.move (.c (.bool false)))])
 (.seq (.region 0 [oQ 3 (.load true 2 (.t 1)),
 oQ 4 (.call 1 69 [(.t 3), (.c (.int .i64 12))]),
 oP 2 (.move (.t 4))])
 (.ret))⟩
/-- almadraba/lifts.isSpan -/
def f69 : AFn := ⟨21, [.tmp 4],
 .seq (.region 0 [oQ 2 (.box (.t 0)),
 oP 4 (.move (.c (.bool false)))])
 (.seq (.region 0 [oP 5 (.fieldAddr 0 (.t 2)),
 oQ 6 (.load false 1 (.t 5)),
 oP 7 (.bin .leq (.c (.int .i64 0)) (.t 6)),
 oP 8 (.move (.t 7)),
 oG 9 8 true (.fieldAddr 0 (.t 2)),
 ⟨(some 10), .load false 1 (.t 9), (some (8, true)), none, []⟩,
 oG 11 8 true (.fieldAddr 1 (.t 2)),
 ⟨(some 12), .load false 1 (.t 11), (some (8, true)), none, []⟩,
 oG 13 8 true (.bin .leq (.t 10) (.t 12)),
 oP 14 (.pick (.t 8) (.t 13) (.c (.bool false))),
 oP 15 (.move (.t 14)),
 oG 16 15 true (.fieldAddr 1 (.t 2)),
 ⟨(some 17), .load false 1 (.t 16), (some (15, true)), none, []⟩,
 oG 18 15 true (.move (.t 1)),
 oG 19 15 true (.bin .leq (.t 17) (.t 18)),
 oP 20 (.pick (.t 15) (.t 19) (.c (.bool false))),
 oP 4 (.move (.t 20))])
 (.ret))⟩
/-- almadraba/lifts.valid$2 -/
def f70 : AFn := ⟨11, [.tmp 2],
 .seq (.region 0 [oQ 1 (.box (.t 0)),
 oP 2 (.move (.c (.bool false)))])
 (.seq (.region 0 [oP 3 (.fieldAddr 0 (.t 1)),
 oQ 4 (.load false 1 (.t 3)),
 oQ 5 (.call 1 60 [(.t 4), (.c (.int .i64 999))]),
 oP 6 (.move (.t 5)),
 oG 7 6 true (.fieldAddr 1 (.t 1)),
 ⟨(some 8), .load false 1 (.t 7), (some (6, true)), none, []⟩,
 ⟨(some 9), .call 1 60 [(.t 8), (.c (.int .i64 99))], (some (6, true)), none, []⟩,
 oP 10 (.pick (.t 6) (.t 9) (.c (.bool false))),
 oP 2 (.move (.t 10))])
 (.ret))⟩
/-- almadraba/lifts.each[almadraba/api.Span] -/
def f71 : AFn := ⟨9, [.tmp 4],
 .seq (.region 0 [oQ 3 (.box (.t 1)),
 oP 4 (.move (.c (.bool false)))])
 (.seq (.region 0 [oP 5 (.move (.t 0)),
 oP 6 (.mkFn 80 [] [(.t 3)]),
 oQ 7 (.call 3 79 [(.t 5), (.t 6)]),
 oP 8 (.un .not (.t 7)),
 oP 4 (.move (.t 8))])
 (.ret))⟩
/-- almadraba/lifts.within -/
def f72 : AFn := ⟨15, [.tmp 4],
 .seq (.region 0 [oQ 2 (.box (.t 0)),
 oP 4 (.move (.c (.bool false)))])
 (.seq (.region 0 [oP 5 (.fieldAddr 0 (.t 2)),
 oQ 6 (.load false 1 (.t 5)),
 oP 7 (.move (.t 1)),
 oP 8 (.bin .leq (.t 6) (.t 7)),
 oP 9 (.move (.t 8)),
 oG 10 9 true (.move (.t 1)),
 oG 11 9 true (.fieldAddr 1 (.t 2)),
 ⟨(some 12), .load false 1 (.t 11), (some (9, true)), none, []⟩,
 oG 13 9 true (.bin .leq (.t 10) (.t 12)),
 oP 14 (.pick (.t 9) (.t 13) (.c (.bool false))),
 oP 4 (.move (.t 14))])
 (.ret))⟩
/-- almadraba/lifts.together -/
def f73 : AFn := ⟨26, [.cell true 2 2],
 .seq (.region 0 [oQ 2 (.alloc [.int .i64 0, .int .i64 0])])
 (.seq (.region 0 [oQ 3 (.alloc [.int .i64 0, .int .i64 0])])
 (.seq (.seq (.region 0 [oP 6 (.move (.t 0)),
 oP 7 (.lenS (.t 6)),
 oP 8 (.move (.c (.int .i64 0)))])
 (.block 0 (.loop (.seq (.region 0 [oP 9 (.bin .lss (.t 8) (.t 7))])
 (.seq (.cond (.t 9) (.skip)
 (.exit 0))
 (.seq (.block 1 (.seq (.region 0 [oP 10 (.idxSl 2 (.t 6) (.t 8)),
 oQ 11 (.load true 2 (.t 10)),
 oQ 5 (.alloc [.int .i64 0, .int .i64 0]),
 ⟨none, .store 2 (.t 5) (.t 11), none, none, []⟩])
 (.seq (.region 0 [oP 12 (.fieldAddr 0 (.t 3)),
 oQ 13 (.load false 1 (.t 12)),
 oP 14 (.fieldAddr 0 (.t 5)),
 oQ 15 (.load false 1 (.t 14)),
 oP 16 (.bin .add (.t 13) (.t 15)),
 oP 17 (.fieldAddr 0 (.t 3)),
 ⟨none, .store 1 (.t 17) (.t 16), none, none, []⟩])
 (.region 0 [oP 18 (.fieldAddr 1 (.t 3)),
 oQ 19 (.load false 1 (.t 18)),
 oP 20 (.fieldAddr 1 (.t 5)),
 oQ 21 (.load false 1 (.t 20)),
 oP 22 (.bin .add (.t 19) (.t 21)),
 oP 23 (.fieldAddr 1 (.t 3)),
 ⟨none, .store 1 (.t 23) (.t 22), none, none, []⟩]))))
 (.region 0 [oP 24 (.bin .add (.t 8) (.c (.int .i64 1))),
 oP 8 (.move (.t 24))])))))))
 (.seq (.region 0 [oQ 25 (.load true 2 (.t 3)),
 ⟨none, .store 2 (.t 2) (.t 25), none, none, []⟩])
 (.ret))))⟩
/-- almadraba/lifts.each[almadraba/api.LiftBoat] -/
def f74 : AFn := ⟨9, [.tmp 4],
 .seq (.region 0 [oQ 3 (.box (.t 1)),
 oP 4 (.move (.c (.bool false)))])
 (.seq (.region 0 [oP 5 (.move (.t 0)),
 oP 6 (.mkFn 82 [] [(.t 3)]),
 oQ 7 (.call 3 81 [(.t 5), (.t 6)]),
 oP 8 (.un .not (.t 7)),
 oP 4 (.move (.t 8))])
 (.ret))⟩
/-- (almadraba/lifts.sea).longer -/
def f75 : AFn := ⟨51, [.tmp 6],
 .seq (.region 0 [oQ 3 (.box (.t 0)),
 oP 6 (.move (.c (.bool false)))])
 (.scope (.seq (.seq (.region 0 [oP 10 (.move (.t 1)),
 oP 11 (.lenS (.t 10)),
 oP 12 (.fieldAddr 0 (.t 3)),
 oP 13 (.fieldAddr 2 (.t 12)),
 oQ 14 (.load false 1 (.t 13)),
 oP 15 (.lenS (.t 14)),
 oP 16 (.bin .eql (.t 11) (.t 15))])
 (.cond (.t 16) (.seq (.region 0 [oP 17 (.move (.t 2)),
 oP 18 (.move (.t 1)),
 oQ 19 (.callv false (.t 17) [(.t 18)]),
 oP 6 (.move (.t 19))])
 (.ret))
 (.skip)))
 (.seq (.skip)
 (.seq (.seq (.region 0 [oP 20 (.fieldAddr 0 (.t 3)),
 oP 21 (.fieldAddr 3 (.t 20)),
 oQ 22 (.load false 1 (.t 21)),
 oP 23 (.lenS (.t 22)),
 oP 24 (.move (.c (.int .i64 0)))])
 (.block 0 (.loop (.seq (.region 0 [oP 25 (.bin .lss (.t 24) (.t 23))])
 (.seq (.cond (.t 25) (.skip)
 (.exit 0))
 (.seq (.block 1 (.seq (.region 0 [oP 26 (.move (.t 24)),
 oP 7 (.move (.t 26))])
 (.seq (.seq (.region 0 [oP 27 (.move (.t 1)),
 oP 28 (.lenS (.t 27)),
 oP 29 (.move (.c (.int .i64 0)))])
 (.block 2 (.loop (.seq (.region 0 [oP 30 (.bin .lss (.t 29) (.t 28))])
 (.seq (.cond (.t 30) (.skip)
 (.exit 2))
 (.seq (.block 3 (.seq (.region 0 [oP 31 (.idxSl 1 (.t 27) (.t 29)),
 oQ 32 (.load false 1 (.t 31)),
 oP 9 (.move (.t 32))])
 (.seq (.region 0 [oP 33 (.move (.t 9)),
 oP 34 (.move (.t 7)),
 oP 35 (.bin .eql (.t 33) (.t 34))])
 (.cond (.t 35) (.exit 1)
 (.skip)))))
 (.region 0 [oP 36 (.bin .add (.t 29) (.c (.int .i64 1))),
 oP 29 (.move (.t 36))])))))))
 (.seq (.region 1 [⟨(some 37), .load true 4 (.t 3), none, none, [0]⟩,
 oP 38 (.move (.t 1)),
 oP 39 (.move (.t 1)),
 oP 40 (.lenS (.t 39)),
 oP 41 (.move (.t 1)),
 oP 42 (.lenS (.t 41)),
 oP 43 (.slice3 1 (.t 38) (.t 40) (.t 42)),
 oP 44 (.move (.t 7)),
 oQ 45 (.litS 1 1 [.int .i64 0] [(0, (.t 44))]),
 ⟨(some 46), .append true 1 8 (.t 43) (.t 45), none, (some 0), []⟩,
 oP 47 (.move (.t 2)),
 oQ 48 (.call 0 75 [(.t 37), (.t 46), (.t 47)]),
 oP 49 (.un .not (.t 48))])
 (.cond (.t 49) (.seq (.region 0 [oP 6 (.move (.c (.bool false)))])
 (.ret))
 (.skip))))))
 (.region 0 [oP 50 (.bin .add (.t 24) (.c (.int .i64 1))),
 oP 24 (.move (.t 50))])))))))
 (.seq (.region 0 [oP 6 (.move (.c (.bool true)))])
 (.ret))))))⟩
/-- slices.Index[[]int,int] -/
def f76 : AFn := ⟨19, [.tmp 4],
 .seq (.region 0 [oP 4 (.move (.c (.int .i64 0)))])
 (.seq (.seq (.region 0 [oP 6 (.move (.t 0)),
 oP 7 (.lenS (.t 6)),
 oP 8 (.move (.c (.int .i64 0)))])
 (.block 0 (.loop (.seq (.region 0 [oP 9 (.bin .lss (.t 8) (.t 7))])
 (.seq (.cond (.t 9) (.skip)
 (.exit 0))
 (.seq (.block 1 (.seq (.region 0 [oP 10 (.move (.t 8)),
 oP 5 (.move (.t 10))])
 (.seq (.region 0 [oP 11 (.move (.t 1)),
 oP 12 (.move (.t 0)),
 oP 13 (.move (.t 5)),
 oP 14 (.idxSl 1 (.t 12) (.t 13)),
 oQ 15 (.load false 1 (.t 14)),
 oP 16 (.bin .eql (.t 11) (.t 15))])
 (.cond (.t 16) (.seq (.region 0 [oP 17 (.move (.t 5)),
 oP 4 (.move (.t 17))])
 (.ret))
 (.skip)))))
 (.region 0 [oP 18 (.bin .add (.t 8) (.c (.int .i64 1))),
 oP 8 (.move (.t 18))])))))))
 (.seq (.region 0 [oP 4 (.move (.c (.int .i64 (-1))))])
 (.ret)))⟩
/-- (almadraba/lifts.sea).share -/
def f77 : AFn := ⟨36, [.cell true 2 4],
 .seq (.region 0 [oQ 2 (.box (.t 0)),
 oQ 4 (.alloc [.int .i64 0, .int .i64 0])])
 (.seq (.region 2 [oP 7 (.fieldAddr 0 (.t 2)),
 oP 8 (.fieldAddr 2 (.t 7)),
 ⟨(some 9), .load false 1 (.t 8), none, none, [0, 1]⟩,
 ⟨(some 10), .call 1 73 [(.t 9)], none, none, [0, 1]⟩,
 oP 11 (.fieldAddr 0 (.t 2)),
 oP 12 (.fieldAddr 2 (.t 11)),
 ⟨(some 13), .load false 1 (.t 12), none, none, [0, 1]⟩,
 oP 14 (.move (.t 1)),
 oP 15 (.idxSl 2 (.t 13) (.t 14)),
 ⟨(some 16), .load true 2 (.t 15), none, none, [0, 1]⟩,
 ⟨(some 5), .alloc [.int .i64 0, .int .i64 0], none, (some 0), []⟩,
 ⟨(some 6), .alloc [.int .i64 0, .int .i64 0], none, (some 1), []⟩,
 ⟨none, .store 2 (.t 5) (.t 10), none, (some 0), []⟩,
 ⟨none, .store 2 (.t 6) (.t 16), none, (some 1), []⟩])
 (.seq (.region 0 [oP 17 (.fieldAddr 0 (.t 6)),
 oQ 18 (.load false 1 (.t 17)),
 oP 19 (.fieldAddr 1 (.t 5)),
 oQ 20 (.load false 1 (.t 19)),
 oP 21 (.fieldAddr 1 (.t 6)),
 oQ 22 (.load false 1 (.t 21)),
 oP 23 (.bin .sub (.t 20) (.t 22)),
 oP 24 (.bin .sub (.c (.int .i64 12)) (.t 23)),
 oP 25 (.minmax true (.t 18) [(.t 24)]),
 oP 26 (.fieldAddr 1 (.t 6)),
 oQ 27 (.load false 1 (.t 26)),
 oP 28 (.fieldAddr 0 (.t 5)),
 oQ 29 (.load false 1 (.t 28)),
 oP 30 (.fieldAddr 0 (.t 6)),
 oQ 31 (.load false 1 (.t 30)),
 oP 32 (.bin .sub (.t 29) (.t 31)),
 oP 33 (.bin .sub (.c (.int .i64 12)) (.t 32)),
 oP 34 (.minmax false (.t 27) [(.t 33)]),
 oP 35 (.build [.int .i64 0, .int .i64 0] [(0, 1, (.t 25)), (1, 1, (.t 34))]),
 ⟨none, .store 2 (.t 4) (.t 35), none, none, []⟩])
 (.ret)))⟩
/-- (*almadraba/counts.bounds).atMost -/
def f78 : AFn := ⟨69, [.tmp 8],
 .seq (.region 0 [oP 8 (.move (.c (.bool false)))])
 (.seq (.seq (.region 0 [oP 11 (.move (.t 0)),
 oP 12 (.move (.t 2)),
 oP 13 (.move (.t 1)),
 oP 14 (.nilCheck (.t 11)),
 oP 15 (.idxArr 21 21 (.t 14) (.t 12)),
 oP 16 (.idxArr 21 1 (.t 15) (.t 13)),
 oQ 17 (.load false 1 (.t 16)),
 oP 18 (.move (.t 3)),
 oP 19 (.bin .add (.t 17) (.t 18)),
 oP 20 (.bin .lss (.t 19) (.c (.int .i64 0)))])
 (.cond (.t 20) (.seq (.region 0 [oP 8 (.move (.c (.bool false)))])
 (.ret))
 (.skip)))
 (.seq (.seq (.region 0 [oP 21 (.move (.t 0)),
 oP 22 (.move (.t 1)),
 oP 23 (.move (.t 2)),
 oP 24 (.nilCheck (.t 21)),
 oP 25 (.idxArr 21 21 (.t 24) (.t 22)),
 oP 26 (.idxArr 21 1 (.t 25) (.t 23)),
 oQ 27 (.load false 1 (.t 26)),
 oP 28 (.move (.t 3)),
 oP 29 (.bin .leq (.t 27) (.t 28))])
 (.cond (.t 29) (.seq (.region 0 [oP 8 (.move (.c (.bool true)))])
 (.ret))
 (.skip)))
 (.seq (.seq (.region 0 [oP 30 (.move (.c (.int .i64 0)))])
 (.block 0 (.loop (.seq (.region 0 [oP 31 (.bin .lss (.t 30) (.c (.int .i64 21)))])
 (.seq (.cond (.t 31) (.skip)
 (.exit 0))
 (.seq (.block 1 (.seq (.region 0 [oP 32 (.move (.t 30)),
 oP 9 (.move (.t 32))])
 (.seq (.region 0 [oP 33 (.move (.c (.int .i64 0)))])
 (.block 2 (.loop (.seq (.region 0 [oP 34 (.bin .lss (.t 33) (.c (.int .i64 21)))])
 (.seq (.cond (.t 34) (.skip)
 (.exit 2))
 (.seq (.block 3 (.seq (.region 0 [oP 35 (.move (.t 33)),
 oP 10 (.move (.t 35))])
 (.region 0 [oP 36 (.move (.t 0)),
 oP 37 (.move (.t 9)),
 oP 38 (.move (.t 10)),
 oP 39 (.move (.t 0)),
 oP 40 (.move (.t 9)),
 oP 41 (.move (.t 10)),
 oP 42 (.nilCheck (.t 39)),
 oP 43 (.idxArr 21 21 (.t 42) (.t 40)),
 oP 44 (.idxArr 21 1 (.t 43) (.t 41)),
 oQ 45 (.load false 1 (.t 44)),
 oP 46 (.move (.t 0)),
 oP 47 (.move (.t 9)),
 oP 48 (.move (.t 1)),
 oP 49 (.nilCheck (.t 46)),
 oP 50 (.idxArr 21 21 (.t 49) (.t 47)),
 oP 51 (.idxArr 21 1 (.t 50) (.t 48)),
 oQ 52 (.load false 1 (.t 51)),
 oP 53 (.move (.t 3)),
 oP 54 (.bin .add (.t 52) (.t 53)),
 oP 55 (.move (.t 0)),
 oP 56 (.move (.t 2)),
 oP 57 (.move (.t 10)),
 oP 58 (.nilCheck (.t 55)),
 oP 59 (.idxArr 21 21 (.t 58) (.t 56)),
 oP 60 (.idxArr 21 1 (.t 59) (.t 57)),
 oQ 61 (.load false 1 (.t 60)),
 oP 62 (.bin .add (.t 54) (.t 61)),
 oP 63 (.minmax false (.t 45) [(.t 62)]),
 oP 64 (.nilCheck (.t 36)),
 oP 65 (.idxArr 21 21 (.t 64) (.t 37)),
 oP 66 (.idxArr 21 1 (.t 65) (.t 38)),
 ⟨none, .store 1 (.t 66) (.t 63), none, none, []⟩])))
 (.region 0 [oP 67 (.bin .add (.t 33) (.c (.int .i64 1))),
 oP 33 (.move (.t 67))])))))))))
 (.region 0 [oP 68 (.bin .add (.t 30) (.c (.int .i64 1))),
 oP 30 (.move (.t 68))])))))))
 (.seq (.region 0 [oP 8 (.move (.c (.bool true)))])
 (.ret)))))⟩
/-- slices.ContainsFunc[[]almadraba/api.Span,almadraba/api.Span] -/
def f79 : AFn := ⟨9, [.tmp 4],
 .seq (.region 0 [oP 4 (.move (.c (.bool false)))])
 (.seq (.region 0 [oP 5 (.move (.t 0)),
 oP 6 (.move (.t 1)),
 oQ 7 (.call 3 83 [(.t 5), (.t 6)]),
 oP 8 (.bin .geq (.t 7) (.c (.int .i64 0))),
 oP 4 (.move (.t 8))])
 (.ret))⟩
/-- almadraba/lifts.each[almadraba/api.Span]$1 -/
def f80 : AFn := ⟨8, [.tmp 3],
 .seq (.region 0 [oQ 2 (.box (.t 0)),
 oP 3 (.move (.c (.bool false)))])
 (.seq (.region 0 [oQ 4 (.load false 1 (.t 1)),
 oQ 5 (.load true 2 (.t 2)),
 oQ 6 (.callv true (.t 4) [(.t 5)]),
 oP 7 (.un .not (.t 6)),
 oP 3 (.move (.t 7))])
 (.ret))⟩
/-- slices.ContainsFunc[[]almadraba/api.LiftBoat,almadraba/api.LiftBoat] -/
def f81 : AFn := ⟨9, [.tmp 4],
 .seq (.region 0 [oP 4 (.move (.c (.bool false)))])
 (.seq (.region 0 [oP 5 (.move (.t 0)),
 oP 6 (.move (.t 1)),
 oQ 7 (.call 3 84 [(.t 5), (.t 6)]),
 oP 8 (.bin .geq (.t 7) (.c (.int .i64 0))),
 oP 4 (.move (.t 8))])
 (.ret))⟩
/-- almadraba/lifts.each[almadraba/api.LiftBoat]$1 -/
def f82 : AFn := ⟨8, [.tmp 3],
 .seq (.region 0 [oQ 2 (.box (.t 0)),
 oP 3 (.move (.c (.bool false)))])
 (.seq (.region 0 [oQ 4 (.load false 1 (.t 1)),
 oQ 5 (.load true 2 (.t 2)),
 oQ 6 (.callv true (.t 4) [(.t 5)]),
 oP 7 (.un .not (.t 6)),
 oP 3 (.move (.t 7))])
 (.ret))⟩
/-- slices.IndexFunc[[]almadraba/api.Span,almadraba/api.Span] -/
def f83 : AFn := ⟨19, [.tmp 4],
 .seq (.region 0 [oP 4 (.move (.c (.int .i64 0)))])
 (.seq (.seq (.region 0 [oP 6 (.move (.t 0)),
 oP 7 (.lenS (.t 6)),
 oP 8 (.move (.c (.int .i64 0)))])
 (.block 0 (.loop (.seq (.region 0 [oP 9 (.bin .lss (.t 8) (.t 7))])
 (.seq (.cond (.t 9) (.skip)
 (.exit 0))
 (.seq (.block 1 (.seq (.region 0 [oP 10 (.move (.t 8)),
 oP 5 (.move (.t 10))])
 (.seq (.region 0 [oP 11 (.move (.t 1)),
 oP 12 (.move (.t 0)),
 oP 13 (.move (.t 5)),
 oP 14 (.idxSl 2 (.t 12) (.t 13)),
 oQ 15 (.load true 2 (.t 14)),
 oQ 16 (.callv true (.t 11) [(.t 15)])])
 (.cond (.t 16) (.seq (.region 0 [oP 17 (.move (.t 5)),
 oP 4 (.move (.t 17))])
 (.ret))
 (.skip)))))
 (.region 0 [oP 18 (.bin .add (.t 8) (.c (.int .i64 1))),
 oP 8 (.move (.t 18))])))))))
 (.seq (.region 0 [oP 4 (.move (.c (.int .i64 (-1))))])
 (.ret)))⟩
/-- slices.IndexFunc[[]almadraba/api.LiftBoat,almadraba/api.LiftBoat] -/
def f84 : AFn := ⟨19, [.tmp 4],
 .seq (.region 0 [oP 4 (.move (.c (.int .i64 0)))])
 (.seq (.seq (.region 0 [oP 6 (.move (.t 0)),
 oP 7 (.lenS (.t 6)),
 oP 8 (.move (.c (.int .i64 0)))])
 (.block 0 (.loop (.seq (.region 0 [oP 9 (.bin .lss (.t 8) (.t 7))])
 (.seq (.cond (.t 9) (.skip)
 (.exit 0))
 (.seq (.block 1 (.seq (.region 0 [oP 10 (.move (.t 8)),
 oP 5 (.move (.t 10))])
 (.seq (.region 0 [oP 11 (.move (.t 1)),
 oP 12 (.move (.t 0)),
 oP 13 (.move (.t 5)),
 oP 14 (.idxSl 2 (.t 12) (.t 13)),
 oQ 15 (.load true 2 (.t 14)),
 oQ 16 (.callv true (.t 11) [(.t 15)])])
 (.cond (.t 16) (.seq (.region 0 [oP 17 (.move (.t 5)),
 oP 4 (.move (.t 17))])
 (.ret))
 (.skip)))))
 (.region 0 [oP 18 (.bin .add (.t 8) (.c (.int .i64 1))),
 oP 8 (.move (.t 18))])))))))
 (.seq (.region 0 [oP 4 (.move (.c (.int .i64 (-1))))])
 (.ret)))⟩
end Go.Proofs.Ytjmelmmhnpgneaa.T
