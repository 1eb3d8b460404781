/-
The code of functions of the seat, as the abstract machine has it (printed by a tool of ours off the dump).
-/
import Derived.Test.YtokhneffambgmaaTabA
namespace Go.Proofs.Ytokhneffambgmaa.T
open Go Go.Am
/-- (almadraba/lifts.sea).can -/
def f37 : AFn := ⟨57, [.tmp 4],
 .seq (.region 0 [oQ 2 (.box (.t 0)),
 oP 4 (.move (.c (.bool false)))])
 (.seq (.region 0 [oP 5 (.move (.c (.int .i64 0)))])
 (.seq (.seq (.region 0 [oP 10 (.move (.t 1)),
 oP 11 (.lenS (.t 10)),
 oP 12 (.move (.c (.int .i64 0)))])
 (.block 0 (.loop (.seq (.region 0 [oP 13 (.bin .lss (.t 12) (.t 11))])
 (.seq (.cond (.t 13) (.skip)
 (.exit 0))
 (.seq (.block 1 (.seq (.region 0 [oP 14 (.move (.t 12)),
 oP 15 (.idxSl 1 (.t 10) (.t 12)),
 oQ 16 (.load false 1 (.t 15)),
 oP 6 (.move (.t 14)),
 oP 7 (.move (.t 16))])
 (.seq (.region 0 [oP 17 (.fieldAddr 0 (.t 2)),
 oP 18 (.fieldAddr 2 (.t 17)),
 oQ 19 (.load false 1 (.t 18)),
 oP 20 (.move (.t 6)),
 oP 21 (.idxSl 2 (.t 19) (.t 20)),
 oP 22 (.fieldAddr 1 (.t 21)),
 oQ 23 (.load false 1 (.t 22)),
 oP 8 (.move (.t 23))])
 (.seq (.seq (.region 0 [oP 24 (.fieldAddr 0 (.t 2)),
 oP 25 (.fieldAddr 0 (.t 24)),
 oP 26 (.fieldAddr 0 (.t 25)),
 oQ 27 (.load false 1 (.t 26)),
 oP 9 (.move (.t 27))])
 (.seq (.region 0 [oP 28 (.move (.t 9)),
 oP 29 (.bin .gtr (.t 28) (.c (.int .i64 0)))])
 (.cond (.t 29) (.region 0 [oP 30 (.move (.t 8)),
 oP 31 (.fieldAddr 0 (.t 2)),
 oP 32 (.fieldAddr 3 (.t 31)),
 oQ 33 (.load false 1 (.t 32)),
 oP 34 (.move (.t 7)),
 oP 35 (.idxSl 2 (.t 33) (.t 34)),
 oP 36 (.fieldAddr 0 (.t 35)),
 oQ 37 (.load false 1 (.t 36)),
 oP 38 (.bin .mul (.c (.int .i64 12)) (.t 37)),
 oP 39 (.move (.t 9)),
 oP 40 (.bin .quo (.t 38) (.t 39)),
 oP 41 (.minmax false (.t 30) [(.t 40)]),
 oP 8 (.move (.t 41))])
 (.skip))))
 (.seq (.seq (.region 0 [oP 42 (.move (.t 8)),
 oP 43 (.fieldAddr 0 (.t 2)),
 oP 44 (.fieldAddr 2 (.t 43)),
 oQ 45 (.load false 1 (.t 44)),
 oP 46 (.move (.t 6)),
 oP 47 (.idxSl 2 (.t 45) (.t 46)),
 oP 48 (.fieldAddr 0 (.t 47)),
 oQ 49 (.load false 1 (.t 48)),
 oP 50 (.bin .lss (.t 42) (.t 49))])
 (.cond (.t 50) (.seq (.region 0 [oP 4 (.move (.c (.bool false)))])
 (.ret))
 (.skip)))
 (.region 0 [oP 51 (.move (.t 5)),
 oP 52 (.move (.t 8)),
 oP 53 (.bin .add (.t 51) (.t 52)),
 oP 5 (.move (.t 53))]))))))
 (.region 0 [oP 54 (.bin .add (.t 12) (.c (.int .i64 1))),
 oP 12 (.move (.t 54))])))))))
 (.seq (.region 0 [oP 55 (.move (.t 5)),
 oP 56 (.bin .geq (.t 55) (.c (.int .i64 12))),
 oP 4 (.move (.t 56))])
 (.ret))))⟩
/-- (almadraba/lifts.sea).lifts -/
def f38 : AFn := ⟨23, [.tmp 4],
 .seq (.region 0 [oQ 2 (.box (.t 0)),
 oP 4 (.move (.c (.int .i64 0)))])
 (.seq (.region 0 [oP 5 (.move (.c (.int .i64 2000)))])
 (.seq (.seq (.region 0 [oP 8 (.move (.t 1)),
 oP 9 (.lenS (.t 8)),
 oP 10 (.move (.c (.int .i64 0)))])
 (.block 0 (.loop (.seq (.region 0 [oP 11 (.bin .lss (.t 10) (.t 9))])
 (.seq (.cond (.t 11) (.skip)
 (.exit 0))
 (.seq (.block 1 (.seq (.region 0 [oP 12 (.move (.t 10)),
 oP 13 (.idxSl 1 (.t 8) (.t 10)),
 oQ 14 (.load false 1 (.t 13)),
 oP 6 (.move (.t 12)),
 oP 7 (.move (.t 14))])
 (.region 0 [oP 15 (.move (.t 5)),
 oQ 16 (.load true 4 (.t 2)),
 oP 17 (.move (.t 6)),
 oP 18 (.move (.t 7)),
 oQ 19 (.call 1 52 [(.t 16), (.t 17), (.t 18)]),
 oP 20 (.minmax false (.t 15) [(.t 19)]),
 oP 5 (.move (.t 20))])))
 (.region 0 [oP 21 (.bin .add (.t 10) (.c (.int .i64 1))),
 oP 10 (.move (.t 21))])))))))
 (.seq (.region 0 [oP 22 (.move (.t 5)),
 oP 4 (.move (.t 22))])
 (.ret))))⟩
/-- almadraba/almadrabaref07.CanCut -/
def f39 : AFn := ⟨19, [.tmp 4],
 .seq (.region 0 [oP 4 (.move (.c (.bool false)))])
 (.seq (.seq (.region 0 [oP 5 (.move (.c (.int .i64 0)))])
 (.block 0 (.loop (.seq (.seq (.region 0 [oP 6 (.move (.t 5)),
 oP 7 (.move (.t 0)),
 oP 8 (.lenS (.t 7)),
 oP 9 (.bin .lss (.t 6) (.t 8))])
 (.cond (.t 9) (.skip)
 (.exit 0)))
 (.seq (.block 1 (.seq (.region 0 [oP 12 (.move (.t 0)),
 oP 13 (.move (.t 5)),
 oP 14 (.idxSl 6 (.t 12) (.t 13)),
 oP 15 (.fieldAddr 0 (.t 14)),
 oQ 16 (.load false 1 (.t 15)),
 oP 17 (.move (.t 1)),
 oP 18 (.bin .eql (.t 16) (.t 17))])
 (.cond (.t 18) (.seq (.region 0 [oP 4 (.move (.c (.bool true)))])
 (.ret))
 (.skip))))
 (.region 0 [oP 10 (.move (.t 5)),
 oP 11 (.bin .add (.t 10) (.c (.int .i64 1))),
 oP 5 (.move (.t 11))]))))))
 (.seq (.region 0 [oP 4 (.move (.c (.bool false)))])
 (.ret)))⟩
/-- almadraba/almadrabaref07.LostOf -/
def f40 : AFn := ⟨33, [.tmp 6],
 .seq (.region 0 [oP 6 (.move (.c (.int .i64 0)))])
 (.seq (.region 0 [oP 9 (.move (.t 1)),
 oP 10 (.move (.t 2)),
 oP 11 (.idxSl 1 (.t 9) (.t 10)),
 oQ 12 (.load false 1 (.t 11)),
 oP 7 (.move (.t 12))])
 (.seq (.seq (.region 0 [oP 8 (.move (.c (.int .i64 0)))])
 (.block 0 (.loop (.seq (.seq (.region 0 [oP 13 (.move (.t 8)),
 oP 14 (.move (.t 0)),
 oP 15 (.lenS (.t 14)),
 oP 16 (.bin .lss (.t 13) (.t 15))])
 (.cond (.t 16) (.skip)
 (.exit 0)))
 (.seq (.block 1 (.seq (.region 0 [oP 19 (.move (.t 0)),
 oP 20 (.move (.t 8)),
 oP 21 (.idxSl 6 (.t 19) (.t 20)),
 oP 22 (.fieldAddr 0 (.t 21)),
 oQ 23 (.load false 1 (.t 22)),
 oP 24 (.move (.t 2)),
 oP 25 (.bin .eql (.t 23) (.t 24))])
 (.cond (.t 25) (.region 0 [oP 26 (.move (.t 7)),
 oP 27 (.move (.t 1)),
 oP 28 (.move (.t 8)),
 oP 29 (.idxSl 1 (.t 27) (.t 28)),
 oQ 30 (.load false 1 (.t 29)),
 oP 31 (.bin .sub (.t 26) (.t 30)),
 oP 7 (.move (.t 31))])
 (.skip))))
 (.region 0 [oP 17 (.move (.t 8)),
 oP 18 (.bin .add (.t 17) (.c (.int .i64 1))),
 oP 8 (.move (.t 18))]))))))
 (.seq (.region 0 [oP 32 (.move (.t 7)),
 oP 6 (.move (.t 32))])
 (.ret))))⟩
/-- almadraba/almadrabaref07.away -/
def f41 : AFn := ⟨14, [.tmp 4],
 .seq (.region 0 [oQ 2 (.box (.t 0)),
 oP 4 (.move (.c (.int .i64 0)))])
 (.seq (.region 0 [oP 5 (.fieldAddr 0 (.t 2)),
 oQ 6 (.load false 1 (.t 5)),
 oP 7 (.move (.t 1)),
 oP 8 (.bin .sub (.t 6) (.t 7)),
 oP 9 (.move (.t 1)),
 oP 10 (.fieldAddr 1 (.t 2)),
 oQ 11 (.load false 1 (.t 10)),
 oP 12 (.bin .sub (.t 9) (.t 11)),
 oP 13 (.minmax true (.c (.int .i64 0)) [(.t 8), (.t 12)]),
 oP 4 (.move (.t 13))])
 (.ret))⟩
/-- almadraba/almadrabalaw07.part -/
def f42 : AFn := ⟨22, [.cell true 6 12],
 .seq (.region 0 [oQ 12 (.alloc [.int .i64 0, .int .i64 0, .int .i64 0, .int .i64 0, .int .i64 0, .int .i64 0])])
 (.seq (.region 0 [oP 13 (.move (.t 0)),
 oP 14 (.move (.t 1)),
 oP 15 (.move (.t 2)),
 oP 16 (.build [.int .i64 0, .int .i64 0] [(0, 1, (.t 14)), (1, 1, (.t 15))]),
 oP 17 (.move (.t 3)),
 oP 18 (.move (.t 4)),
 oP 19 (.build [.int .i64 0, .int .i64 0] [(0, 1, (.t 17)), (1, 1, (.t 18))]),
 oP 20 (.move (.t 5)),
 oP 21 (.build [.int .i64 0, .int .i64 0, .int .i64 0, .int .i64 0, .int .i64 0, .int .i64 0] [(0, 1, (.t 13)), (1, 2, (.t 16)), (3, 2, (.t 19)), (5, 1, (.t 20))]),
 ⟨none, .store 6 (.t 12) (.t 21), none, none, []⟩])
 (.ret))⟩
/-- (almadraba/cuts.table).valid -/
def f43 : AFn := ⟨55, [.tmp 2],
 .seq (.region 0 [oP 2 (.move (.c (.bool false)))])
 (.seq (.seq (.region 0 [oP 6 (.move (.t 0)),
 oP 7 (.lenS (.t 6)),
 oP 8 (.bin .gtr (.t 7) (.c (.int .i64 8)))])
 (.cond (.t 8) (.seq (.region 0 [oP 2 (.move (.c (.bool false)))])
 (.ret))
 (.skip)))
 (.seq (.seq (.region 0 [oP 9 (.move (.t 0)),
 oP 10 (.lenS (.t 9)),
 oP 11 (.move (.c (.int .i64 0)))])
 (.block 0 (.loop (.seq (.region 0 [oP 12 (.bin .lss (.t 11) (.t 10))])
 (.seq (.cond (.t 12) (.skip)
 (.exit 0))
 (.seq (.block 1 (.seq (.region 0 [oP 13 (.move (.t 11)),
 oP 14 (.idxSl 6 (.t 9) (.t 11)),
 oQ 15 (.load true 6 (.t 14)),
 oQ 4 (.alloc [.int .i64 0, .int .i64 0, .int .i64 0, .int .i64 0, .int .i64 0, .int .i64 0]),
 oP 3 (.move (.t 13)),
 ⟨none, .store 6 (.t 4) (.t 15), none, none, []⟩])
 (.seq (.region 0 [oP 16 (.fieldAddr 0 (.t 4)),
 oQ 17 (.load false 1 (.t 16)),
 oP 18 (.bin .eql (.t 17) (.c (.int .i64 (-1)))),
 oP 19 (.move (.t 18)),
 oG 20 19 false (.fieldAddr 0 (.t 4)),
 ⟨(some 21), .load false 1 (.t 20), (some (19, false)), none, []⟩,
 oG 22 19 false (.bin .leq (.c (.int .i64 0)) (.t 21)),
 oG 23 19 false (.move (.t 22)),
 oG 24 23 true (.fieldAddr 0 (.t 4)),
 ⟨(some 25), .load false 1 (.t 24), (some (23, true)), none, []⟩,
 oG 26 23 true (.move (.t 3)),
 oG 27 23 true (.bin .lss (.t 25) (.t 26)),
 oG 28 19 false (.pick (.t 23) (.t 27) (.c (.bool false))),
 oP 29 (.pick (.t 19) (.c (.bool true)) (.t 28)),
 oP 5 (.move (.t 29))])
 (.seq (.region 0 [oP 30 (.move (.t 5)),
 oP 31 (.un .not (.t 30)),
 oP 32 (.move (.t 31)),
 oG 33 32 false (.fieldAddr 1 (.t 4)),
 ⟨(some 34), .load true 2 (.t 33), (some (32, false)), none, []⟩,
 ⟨(some 35), .call 1 53 [(.t 34)], (some (32, false)), none, []⟩,
 oG 36 32 false (.un .not (.t 35)),
 oP 37 (.pick (.t 32) (.c (.bool true)) (.t 36)),
 oP 38 (.move (.t 37)),
 oG 39 38 false (.fieldAddr 3 (.t 4)),
 ⟨(some 40), .load true 2 (.t 39), (some (38, false)), none, []⟩,
 ⟨(some 41), .call 1 53 [(.t 40)], (some (38, false)), none, []⟩,
 oG 42 38 false (.un .not (.t 41)),
 oP 43 (.pick (.t 38) (.c (.bool true)) (.t 42)),
 oP 44 (.move (.t 43)),
 oG 45 44 false (.fieldAddr 5 (.t 4)),
 ⟨(some 46), .load false 1 (.t 45), (some (44, false)), none, []⟩,
 oG 47 44 false (.bin .lss (.t 46) (.c (.int .i64 0))),
 oP 48 (.pick (.t 44) (.c (.bool true)) (.t 47)),
 oP 49 (.move (.t 48)),
 oG 50 49 false (.fieldAddr 5 (.t 4)),
 ⟨(some 51), .load false 1 (.t 50), (some (49, false)), none, []⟩,
 oG 52 49 false (.bin .gtr (.t 51) (.c (.int .i64 99))),
 oP 53 (.pick (.t 49) (.c (.bool true)) (.t 52))])
 (.cond (.t 53) (.seq (.region 0 [oP 2 (.move (.c (.bool false)))])
 (.ret))
 (.skip))))))
 (.region 0 [oP 54 (.bin .add (.t 11) (.c (.int .i64 1))),
 oP 11 (.move (.t 54))])))))))
 (.seq (.region 0 [oP 2 (.move (.c (.bool true)))])
 (.ret))))⟩
/-- (almadraba/cuts.table).least -/
def f44 : AFn := ⟨50, [.tmp 4],
 .seq (.region 0 [oQ 3 (.box (.t 1)),
 oP 4 (.move (.c (.int .i64 0)))])
 (.seq (.region 0 [oQ 5 (.alloc [.int .i64 0, .int .i64 0, .int .i64 0, .int .i64 0, .int .i64 0, .int .i64 0, .int .i64 0, .int .i64 0, .int .i64 0, .int .i64 0, .int .i64 0, .int .i64 0, .int .i64 0, .int .i64 0, .int .i64 0, .int .i64 0, .int .i64 0, .int .i64 0, .int .i64 0, .int .i64 0, .int .i64 0, .int .i64 0, .int .i64 0, .int .i64 0, .int .i64 0, .int .i64 0, .int .i64 0, .int .i64 0, .int .i64 0, .int .i64 0, .int .i64 0, .int .i64 0, .int .i64 0, .int .i64 0, .int .i64 0, .int .i64 0, .int .i64 0, .int .i64 0, .int .i64 0, .int .i64 0, .int .i64 0, .int .i64 0, .int .i64 0, .int .i64 0, .int .i64 0, .int .i64 0, .int .i64 0, .int .i64 0, .int .i64 0, .int .i64 0, .int .i64 0, .int .i64 0, .int .i64 0, .int .i64 0, .int .i64 0, .int .i64 0, .int .i64 0, .int .i64 0, .int .i64 0, .int .i64 0, .int .i64 0, .int .i64 0, .int .i64 0, .int .i64 0, .int .i64 0, .int .i64 0, .int .i64 0, .int .i64 0, .int .i64 0, .int .i64 0, .int .i64 0, .int .i64 0, .int .i64 0, .int .i64 0, .int .i64 0, .int .i64 0, .int .i64 0, .int .i64 0, .int .i64 0, .int .i64 0, .int .i64 0, .int .i64 0, .int .i64 0, .int .i64 0, .int .i64 0, .int .i64 0, .int .i64 0, .int .i64 0, .int .i64 0, .int .i64 0, .int .i64 0, .int .i64 0, .int .i64 0, .int .i64 0, .int .i64 0, .int .i64 0, .int .i64 0, .int .i64 0, .int .i64 0, .int .i64 0, .int .i64 0, .int .i64 0, .int .i64 0, .int .i64 0, .int .i64 0, .int .i64 0, .int .i64 0, .int .i64 0, .int .i64 0, .int .i64 0, .int .i64 0, .int .i64 0, .int .i64 0, .int .i64 0, .int .i64 0, .int .i64 0, .int .i64 0, .int .i64 0, .int .i64 0, .int .i64 0, .int .i64 0, .int .i64 0, .int .i64 0, .int .i64 0, .int .i64 0, .int .i64 0, .int .i64 0, .int .i64 0, .int .i64 0, .int .i64 0, .int .i64 0, .int .i64 0, .int .i64 0, .int .i64 0, .int .i64 0, .int .i64 0, .int .i64 0, .int .i64 0, .int .i64 0, .int .i64 0, .int .i64 0, .int .i64 0, .int .i64 0, .int .i64 0, .int .i64 0, .int .i64 0, .int .i64 0, .int .i64 0, .int .i64 0, .int .i64 0, .int .i64 0, .int .i64 0, .int .i64 0, .int .i64 0, .int .i64 0, .int .i64 0, .int .i64 0, .int .i64 0, .int .i64 0, .int .i64 0, .int .i64 0, .int .i64 0, .int .i64 0, .int .i64 0, .int .i64 0, .int .i64 0, .int .i64 0, .int .i64 0, .int .i64 0, .int .i64 0, .int .i64 0, .int .i64 0, .int .i64 0, .int .i64 0, .int .i64 0, .int .i64 0, .int .i64 0, .int .i64 0, .int .i64 0, .int .i64 0, .int .i64 0, .int .i64 0, .int .i64 0, .int .i64 0, .int .i64 0, .int .i64 0, .int .i64 0, .int .i64 0, .int .i64 0, .int .i64 0, .int .i64 0, .int .i64 0, .int .i64 0, .int .i64 0, .int .i64 0, .int .i64 0, .int .i64 0, .int .i64 0, .int .i64 0, .int .i64 0, .int .i64 0, .int .i64 0, .int .i64 0, .int .i64 0, .int .i64 0, .int .i64 0, .int .i64 0, .int .i64 0, .int .i64 0, .int .i64 0, .int .i64 0, .int .i64 0, .int .i64 0, .int .i64 0, .int .i64 0, .int .i64 0, .int .i64 0, .int .i64 0, .int .i64 0, .int .i64 0, .int .i64 0, .int .i64 0, .int .i64 0, .int .i64 0, .int .i64 0, .int .i64 0, .int .i64 0, .int .i64 0, .int .i64 0, .int .i64 0, .int .i64 0, .int .i64 0, .int .i64 0, .int .i64 0, .int .i64 0, .int .i64 0, .int .i64 0, .int .i64 0, .int .i64 0, .int .i64 0, .int .i64 0, .int .i64 0, .int .i64 0, .int .i64 0, .int .i64 0, .int .i64 0, .int .i64 0, .int .i64 0])])
 (.seq (.seq (.region 0 [oP 11 (.move (.t 0)),
 oP 12 (.lenS (.t 11)),
 oP 13 (.move (.c (.int .i64 0)))])
 (.block 0 (.loop (.seq (.region 0 [oP 14 (.bin .lss (.t 13) (.t 12))])
 (.seq (.cond (.t 14) (.skip)
 (.exit 0))
 (.seq (.block 1 (.seq (.region 0 [oP 15 (.move (.t 13)),
 oP 6 (.move (.t 15))])
 (.region 0 [oP 16 (.move (.t 6)),
 oP 17 (.move (.t 0)),
 oP 18 (.move (.t 6)),
 oQ 19 (.call 1 55 [(.t 17), (.t 18)]),
 oQ 20 (.call 1 54 [(.t 19)]),
 oP 21 (.idxArr 8 31 (.t 5) (.t 16)),
 ⟨none, .store 31 (.t 21) (.t 20), none, none, []⟩])))
 (.region 0 [oP 22 (.bin .add (.t 13) (.c (.int .i64 1))),
 oP 13 (.move (.t 22))])))))))
 (.seq (.region 0 [oQ 7 (.alloc [.int .i64 0]),
 ⟨none, .store 1 (.t 7) (.c (.int .i64 0)), none, none, []⟩])
 (.seq (.seq (.region 0 [oP 23 (.move (.t 0)),
 oQ 24 (.call 0 56 [(.t 23)])])
 (.block 2 (.rangeFunc (.t 24) [25, 26] (.seq (.region 0 [oP 8 (.move (.t 25))])
 (.region 0 [oQ 9 (.alloc [.int .i64 0, .int .i64 0, .int .i64 0, .int .i64 0, .int .i64 0, .int .i64 0]),
 ⟨none, .store 6 (.t 9) (.t 26), none, none, []⟩]))
 (.block 3 (.seq (.region 1 [oP 27 (.move (.t 8)),
 oP 28 (.idxArr 8 31 (.t 5) (.t 27)),
 ⟨(some 29), .load true 31 (.t 28), none, none, [0]⟩,
 oP 30 (.move (.t 8)),
 ⟨(some 31), .load false 1 (.t 3), none, none, [0]⟩,
 ⟨(some 32), .call 3 57 [(.t 29), (.t 30), (.t 31)], none, none, [0]⟩,
 ⟨(some 10), .alloc [.int .i64 0, .int .i64 0, .int .i64 0, .int .i64 0, .int .i64 0, .int .i64 0, .int .i64 0, .int .i64 0, .int .i64 0, .int .i64 0, .int .i64 0, .int .i64 0, .int .i64 0, .int .i64 0, .int .i64 0, .int .i64 0, .int .i64 0, .int .i64 0, .int .i64 0, .int .i64 0, .int .i64 0, .int .i64 0, .int .i64 0, .int .i64 0, .int .i64 0, .int .i64 0, .int .i64 0, .int .i64 0, .int .i64 0, .int .i64 0, .int .i64 0], none, (some 0), []⟩,
 ⟨none, .store 31 (.t 10) (.t 32), none, (some 0), []⟩])
 (.seq (.region 0 [oP 33 (.fieldAddr 0 (.t 9)),
 oQ 34 (.load false 1 (.t 33)),
 oP 35 (.bin .eql (.t 34) (.c (.int .i64 (-1))))])
 (.cond (.t 35) (.region 0 [oQ 36 (.load false 1 (.t 7)),
 oQ 37 (.sliceA 31 1 (.t 10) none),
 oQ 38 (.call 1 59 [(.t 37)]),
 oQ 39 (.call 1 58 [(.t 36), (.t 38)]),
 ⟨none, .store 1 (.t 7) (.t 39), none, none, []⟩])
 (.region 0 [oP 40 (.fieldAddr 0 (.t 9)),
 oQ 41 (.load false 1 (.t 40)),
 oP 42 (.fieldAddr 0 (.t 9)),
 oQ 43 (.load false 1 (.t 42)),
 oP 44 (.idxArr 8 31 (.t 5) (.t 43)),
 oQ 45 (.load true 31 (.t 44)),
 oQ 46 (.load true 31 (.t 10)),
 oQ 47 (.call 1 60 [(.t 45), (.t 46)]),
 oP 48 (.idxArr 8 31 (.t 5) (.t 41)),
 ⟨none, .store 31 (.t 48) (.t 47), none, none, []⟩]))))))))
 (.seq (.region 0 [oQ 49 (.load false 1 (.t 7)),
 oP 4 (.move (.t 49))])
 (.ret))))))⟩
/-- (almadraba/cuts.table).truths -/
def f45 : AFn := ⟨6, [.tmp 4],
 .seq (.region 0 [oQ 2 (.box (.t 0)),
 oQ 3 (.box (.t 1)),
 oP 4 (.move (.c (.nilf)))])
 (.seq (.region 0 [oP 5 (.mkFn 61 [] [(.t 2), (.t 3)]),
 oP 4 (.move (.t 5))])
 (.ret))⟩
/-- (almadraba/cuts.rates).cost -/
def f46 : AFn := ⟨12, [.tmp 6],
 .seq (.region 0 [oQ 3 (.box (.t 0)),
 oP 6 (.move (.c (.int .i64 0)))])
 (.seq (.region 0 [oP 7 (.move (.t 1)),
 oP 8 (.idxArr 8 1 (.t 3) (.t 7)),
 oQ 9 (.load false 1 (.t 8)),
 oP 10 (.move (.t 2)),
 oP 11 (.bin .mul (.t 9) (.t 10)),
 oP 6 (.move (.t 11))])
 (.ret))⟩
/-- (almadraba/cuts.rates).minus -/
def f47 : AFn := ⟨19, [.cell true 8 4],
 .seq (.region 0 [oQ 2 (.box (.t 0)),
 oQ 3 (.box (.t 1)),
 oQ 4 (.alloc [.int .i64 0, .int .i64 0, .int .i64 0, .int .i64 0, .int .i64 0, .int .i64 0, .int .i64 0, .int .i64 0])])
 (.seq (.seq (.region 0 [oP 6 (.move (.c (.int .i64 0)))])
 (.block 0 (.loop (.seq (.region 0 [oP 7 (.bin .lss (.t 6) (.c (.int .i64 8)))])
 (.seq (.cond (.t 7) (.skip)
 (.exit 0))
 (.seq (.block 1 (.seq (.region 0 [oP 8 (.move (.t 6)),
 oP 5 (.move (.t 8))])
 (.region 0 [oP 9 (.move (.t 5)),
 oP 10 (.idxArr 8 1 (.t 2) (.t 9)),
 oQ 11 (.load false 1 (.t 10)),
 oP 12 (.move (.t 5)),
 oP 13 (.idxArr 8 1 (.t 3) (.t 12)),
 oQ 14 (.load false 1 (.t 13)),
 oP 15 (.bin .sub (.t 11) (.t 14)),
 oP 16 (.idxArr 8 1 (.t 2) (.t 9)),
 ⟨none, .store 1 (.t 16) (.t 15), none, none, []⟩])))
 (.region 0 [oP 17 (.bin .add (.t 6) (.c (.int .i64 1))),
 oP 6 (.move (.t 17))])))))))
 (.seq (.region 0 [oQ 18 (.load true 8 (.t 2)),
 ⟨none, .store 8 (.t 4) (.t 18), none, none, []⟩])
 (.ret)))⟩
/-- almadraba/lifts.Check -/
def f48 : AFn := ⟨6, [.tmp 2],
 .seq (.region 0 [oQ 1 (.box (.t 0)),
 oP 2 (.move (.c (.int .i64 0)))])
 (.seq (.seq (.region 0 [oQ 3 (.load true 4 (.t 1)),
 oQ 4 (.call 1 63 [(.t 3)]),
 oP 5 (.un .not (.t 4))])
 (.cond (.t 5) (.seq (.region 0 [oP 2 (.move (.c (.int .i64 50)))])
 (.ret))
 (.skip)))
 (.seq (.region 0 [oP 2 (.move (.c (.int .i64 0)))])
 (.ret)))⟩
/-- (almadraba/lifts.sea).crews -/
def f49 : AFn := ⟨7, [],
 .seq (.region 0 [oQ 2 (.box (.t 0))])
 (.region 0 [oQ 4 (.load true 4 (.t 2)),
 oP 5 (.move (.t 1)),
 oQ 6 (.call 0 64 [(.t 4), (.c (.nils)), (.t 5)])])⟩
/-- (almadraba/lifts.sea).cheapest -/
def f50 : AFn := ⟨29, [.tmp 2, .tmp 3],
 .seq (.region 0 [oQ 1 (.box (.t 0)),
 oP 2 (.move (.c (.nils))),
 oP 3 (.move (.c (.int .i64 0)))])
 (.seq (.region 0 [oQ 4 (.alloc [.nils])])
 (.seq (.region 0 [oQ 5 (.alloc [.int .i64 0]),
 ⟨none, .store 1 (.t 5) (.c (.int .i64 0)), none, none, []⟩])
 (.seq (.seq (.region 0 [oQ 8 (.load true 4 (.t 1)),
 oP 9 (.mkFn 49 [(.t 8)] [])])
 (.block 0 (.rangeFunc (.t 9) [10] (.region 0 [oP 6 (.move (.t 10))])
 (.block 1 (.seq (.seq (.region 0 [oQ 11 (.load true 4 (.t 1)),
 oP 12 (.move (.t 6)),
 oQ 13 (.call 1 36 [(.t 11), (.t 12)]),
 oP 14 (.un .not (.t 13))])
 (.cond (.t 14) (.exit 1)
 (.skip)))
 (.seq (.region 0 [oQ 15 (.load true 4 (.t 1)),
 oP 16 (.move (.t 6)),
 oQ 17 (.call 1 65 [(.t 15), (.t 16)]),
 oP 7 (.move (.t 17))])
 (.seq (.region 0 [oQ 18 (.load false 1 (.t 4)),
 oP 19 (.isNil (.t 18) (.c (.nils))),
 oP 20 (.move (.t 19)),
 oG 21 20 false (.move (.t 7)),
 ⟨(some 22), .load false 1 (.t 5), (some (20, false)), none, []⟩,
 oG 23 20 false (.bin .lss (.t 21) (.t 22)),
 oP 24 (.pick (.t 20) (.c (.bool true)) (.t 23))])
 (.cond (.t 24) (.region 0 [oP 25 (.move (.t 6)),
 oP 26 (.move (.t 7)),
 ⟨none, .store 1 (.t 4) (.t 25), none, none, []⟩,
 ⟨none, .store 1 (.t 5) (.t 26), none, none, []⟩])
 (.skip)))))))))
 (.seq (.region 0 [oQ 27 (.load false 1 (.t 4)),
 oQ 28 (.load false 1 (.t 5)),
 oP 2 (.move (.t 27)),
 oP 3 (.move (.t 28))])
 (.ret)))))⟩
/-- almadraba/lifts.isCrew -/
def f51 : AFn := ⟨35, [.tmp 4],
 .seq (.region 0 [oQ 2 (.box (.t 0)),
 oP 4 (.move (.c (.bool false)))])
 (.seq (.seq (.region 0 [oP 7 (.move (.t 1)),
 oP 8 (.lenS (.t 7)),
 oP 9 (.fieldAddr 2 (.t 2)),
 oQ 10 (.load false 1 (.t 9)),
 oP 11 (.lenS (.t 10)),
 oP 12 (.bin .neq (.t 8) (.t 11))])
 (.cond (.t 12) (.seq (.region 0 [oP 4 (.move (.c (.bool false)))])
 (.ret))
 (.skip)))
 (.seq (.seq (.region 0 [oP 13 (.move (.t 1)),
 oP 14 (.lenS (.t 13)),
 oP 15 (.move (.c (.int .i64 0)))])
 (.block 0 (.loop (.seq (.region 0 [oP 16 (.bin .lss (.t 15) (.t 14))])
 (.seq (.cond (.t 16) (.skip)
 (.exit 0))
 (.seq (.block 1 (.seq (.region 0 [oP 17 (.move (.t 15)),
 oP 18 (.idxSl 1 (.t 13) (.t 15)),
 oQ 19 (.load false 1 (.t 18)),
 oP 5 (.move (.t 17)),
 oP 6 (.move (.t 19))])
 (.seq (.region 0 [oP 20 (.move (.t 6)),
 oP 21 (.fieldAddr 3 (.t 2)),
 oQ 22 (.load false 1 (.t 21)),
 oP 23 (.lenS (.t 22)),
 oP 24 (.bin .sub (.t 23) (.c (.int .i64 1))),
 oQ 25 (.call 1 66 [(.t 20), (.t 24)]),
 oP 26 (.un .not (.t 25)),
 oP 27 (.move (.t 26)),
 oG 28 27 false (.move (.t 1)),
 oG 29 27 false (.move (.t 5)),
 oG 30 27 false (.slice 1 (.t 28) none (some (.t 29))),
 oG 31 27 false (.move (.t 6)),
 ⟨(some 32), .call 1 67 [(.t 30), (.t 31)], (some (27, false)), none, []⟩,
 oP 33 (.pick (.t 27) (.c (.bool true)) (.t 32))])
 (.cond (.t 33) (.seq (.region 0 [oP 4 (.move (.c (.bool false)))])
 (.ret))
 (.skip)))))
 (.region 0 [oP 34 (.bin .add (.t 15) (.c (.int .i64 1))),
 oP 15 (.move (.t 34))])))))))
 (.seq (.region 0 [oP 4 (.move (.c (.bool true)))])
 (.ret))))⟩
/-- (almadraba/lifts.sea).bears -/
def f52 : AFn := ⟨25, [.tmp 6],
 .seq (.region 0 [oQ 3 (.box (.t 0)),
 oP 6 (.move (.c (.int .i64 0)))])
 (.seq (.region 0 [oQ 8 (.load true 4 (.t 3)),
 oP 9 (.move (.t 1)),
 oQ 10 (.call 1 68 [(.t 8), (.t 9)]),
 oP 11 (.field false 1 1 (.t 10)),
 oP 7 (.move (.t 11))])
 (.seq (.seq (.region 0 [oP 12 (.move (.t 7)),
 oP 13 (.bin .eql (.t 12) (.c (.int .i64 0)))])
 (.cond (.t 13) (.seq (.region 0 [oP 6 (.move (.c (.int .i64 2000)))])
 (.ret))
 (.skip)))
 (.seq (.region 0 [oP 14 (.fieldAddr 0 (.t 3)),
 oP 15 (.fieldAddr 3 (.t 14)),
 oQ 16 (.load false 1 (.t 15)),
 oP 17 (.move (.t 2)),
 oP 18 (.idxSl 2 (.t 16) (.t 17)),
 oP 19 (.fieldAddr 0 (.t 18)),
 oQ 20 (.load false 1 (.t 19)),
 oP 21 (.bin .mul (.c (.int .i64 12)) (.t 20)),
 oP 22 (.move (.t 7)),
 oP 23 (.bin .quo (.t 21) (.t 22)),
 oP 24 (.minmax false (.t 23) [(.c (.int .i64 2000))]),
 oP 6 (.move (.t 24))])
 (.ret))))⟩
/-- almadraba/cuts.isSpan -/
def f53 : AFn := ⟨18, [.tmp 2],
 .seq (.region 0 [oQ 1 (.box (.t 0)),
 oP 2 (.move (.c (.bool false)))])
 (.seq (.region 0 [oP 3 (.fieldAddr 0 (.t 1)),
 oQ 4 (.load false 1 (.t 3)),
 oP 5 (.bin .leq (.c (.int .i64 0)) (.t 4)),
 oP 6 (.move (.t 5)),
 oG 7 6 true (.fieldAddr 0 (.t 1)),
 ⟨(some 8), .load false 1 (.t 7), (some (6, true)), none, []⟩,
 oG 9 6 true (.fieldAddr 1 (.t 1)),
 ⟨(some 10), .load false 1 (.t 9), (some (6, true)), none, []⟩,
 oG 11 6 true (.bin .leq (.t 8) (.t 10)),
 oP 12 (.pick (.t 6) (.t 11) (.c (.bool false))),
 oP 13 (.move (.t 12)),
 oG 14 13 true (.fieldAddr 1 (.t 1)),
 ⟨(some 15), .load false 1 (.t 14), (some (13, true)), none, []⟩,
 oG 16 13 true (.bin .leq (.t 15) (.c (.int .i64 30))),
 oP 17 (.pick (.t 13) (.t 16) (.c (.bool false))),
 oP 2 (.move (.t 17))])
 (.ret))⟩
/-- almadraba/cuts.free -/
def f54 : AFn := ⟨16, [.cell true 31 2],
 .seq (.region 0 [oQ 1 (.box (.t 0)),
 oQ 2 (.alloc [.int .i64 0, .int .i64 0, .int .i64 0, .int .i64 0, .int .i64 0, .int .i64 0, .int .i64 0, .int .i64 0, .int .i64 0, .int .i64 0, .int .i64 0, .int .i64 0, .int .i64 0, .int .i64 0, .int .i64 0, .int .i64 0, .int .i64 0, .int .i64 0, .int .i64 0, .int .i64 0, .int .i64 0, .int .i64 0, .int .i64 0, .int .i64 0, .int .i64 0, .int .i64 0, .int .i64 0, .int .i64 0, .int .i64 0, .int .i64 0, .int .i64 0])])
 (.seq (.region 0 [oQ 3 (.alloc [.int .i64 0, .int .i64 0, .int .i64 0, .int .i64 0, .int .i64 0, .int .i64 0, .int .i64 0, .int .i64 0, .int .i64 0, .int .i64 0, .int .i64 0, .int .i64 0, .int .i64 0, .int .i64 0, .int .i64 0, .int .i64 0, .int .i64 0, .int .i64 0, .int .i64 0, .int .i64 0, .int .i64 0, .int .i64 0, .int .i64 0, .int .i64 0, .int .i64 0, .int .i64 0, .int .i64 0, .int .i64 0, .int .i64 0, .int .i64 0, .int .i64 0])])
 (.seq (.seq (.region 0 [oP 5 (.move (.c (.int .i64 0)))])
 (.block 0 (.loop (.seq (.region 0 [oP 6 (.bin .lss (.t 5) (.c (.int .i64 31)))])
 (.seq (.cond (.t 6) (.skip)
 (.exit 0))
 (.seq (.block 1 (.seq (.region 0 [oP 7 (.move (.t 5)),
 oP 4 (.move (.t 7))])
 (.seq (.region 0 [oQ 8 (.load true 2 (.t 1)),
 oP 9 (.move (.t 4)),
 oQ 10 (.call 1 69 [(.t 8), (.t 9)]),
 oP 11 (.un .not (.t 10))])
 (.cond (.t 11) (.region 0 [oP 12 (.move (.t 4)),
 oP 13 (.idxArr 31 1 (.t 3) (.t 12)),
 ⟨none, .store 1 (.t 13) (.c (.int .i64 9223372036854775807)), none, none, []⟩])
 (.skip)))))
 (.region 0 [oP 14 (.bin .add (.t 5) (.c (.int .i64 1))),
 oP 5 (.move (.t 14))])))))))
 (.seq (.region 0 [oQ 15 (.load true 31 (.t 3)),
 ⟨none, .store 31 (.t 2) (.t 15), none, none, []⟩])
 (.ret))))⟩
/-- (almadraba/cuts.table).waste -/
def f55 : AFn := ⟨14, [.cell true 2 4],
 .seq (.region 0 [oQ 4 (.alloc [.int .i64 0, .int .i64 0])])
 (.seq (.seq (.region 0 [oP 5 (.move (.t 0)),
 oP 6 (.move (.t 1)),
 oQ 7 (.call 1 70 [(.t 5), (.t 6)])])
 (.cond (.t 7) (.seq (.region 0 [oP 8 (.move (.t 0)),
 oP 9 (.move (.t 1)),
 oP 10 (.idxSl 6 (.t 8) (.t 9)),
 oP 11 (.fieldAddr 3 (.t 10)),
 oQ 12 (.load true 2 (.t 11)),
 ⟨none, .store 2 (.t 4) (.t 12), none, none, []⟩])
 (.ret))
 (.skip)))
 (.seq (.region 0 [oP 13 (.build [.int .i64 0, .int .i64 0] [(1, 1, (.c (.int .i64 30)))]),
 ⟨none, .store 2 (.t 4) (.t 13), none, none, []⟩])
 (.ret)))⟩
/-- slices.Backward[almadraba/cuts.table,almadraba/api.CutPart] -/
def f56 : AFn := ⟨4, [.tmp 2],
 .seq (.region 0 [oQ 1 (.box (.t 0)),
 oP 2 (.move (.c (.nilf)))])
 (.seq (.region 0 [oP 3 (.mkFn 71 [] [(.t 1)]),
 oP 2 (.move (.t 3))])
 (.ret))⟩
/-- (almadraba/cuts.costs).with -/
def f57 : AFn := ⟨23, [.cell true 31 6],
 .seq (.region 0 [oQ 3 (.box (.t 0)),
 oQ 6 (.alloc [.int .i64 0, .int .i64 0, .int .i64 0, .int .i64 0, .int .i64 0, .int .i64 0, .int .i64 0, .int .i64 0, .int .i64 0, .int .i64 0, .int .i64 0, .int .i64 0, .int .i64 0, .int .i64 0, .int .i64 0, .int .i64 0, .int .i64 0, .int .i64 0, .int .i64 0, .int .i64 0, .int .i64 0, .int .i64 0, .int .i64 0, .int .i64 0, .int .i64 0, .int .i64 0, .int .i64 0, .int .i64 0, .int .i64 0, .int .i64 0, .int .i64 0])])
 (.seq (.seq (.region 0 [oP 8 (.move (.c (.int .i64 0)))])
 (.block 0 (.loop (.seq (.region 0 [oP 9 (.bin .lss (.t 8) (.c (.int .i64 31)))])
 (.seq (.cond (.t 9) (.skip)
 (.exit 0))
 (.seq (.block 1 (.seq (.region 0 [oP 10 (.move (.t 8)),
 oP 7 (.move (.t 10))])
 (.region 0 [oP 11 (.move (.t 7)),
 oP 12 (.move (.t 7)),
 oP 13 (.idxArr 31 1 (.t 3) (.t 12)),
 oQ 14 (.load false 1 (.t 13)),
 oP 15 (.move (.t 2)),
 oP 16 (.move (.t 1)),
 oP 17 (.move (.t 7)),
 oQ 18 (.callv true (.t 15) [(.t 16), (.t 17)]),
 oQ 19 (.call 1 58 [(.t 14), (.t 18)]),
 oP 20 (.idxArr 31 1 (.t 3) (.t 11)),
 ⟨none, .store 1 (.t 20) (.t 19), none, none, []⟩])))
 (.region 0 [oP 21 (.bin .add (.t 8) (.c (.int .i64 1))),
 oP 8 (.move (.t 21))])))))))
 (.seq (.region 0 [oQ 22 (.load true 31 (.t 3)),
 ⟨none, .store 31 (.t 6) (.t 22), none, none, []⟩])
 (.ret)))⟩
/-- almadraba/cuts.plus -/
def f58 : AFn := ⟨14, [.tmp 4],
 .seq (.region 0 [oP 4 (.move (.c (.int .i64 0)))])
 (.seq (.seq (.region 0 [oP 5 (.move (.t 0)),
 oP 6 (.bin .eql (.t 5) (.c (.int .i64 9223372036854775807))),
 oP 7 (.move (.t 6)),
 oG 8 7 false (.move (.t 1)),
 oG 9 7 false (.bin .eql (.t 8) (.c (.int .i64 9223372036854775807))),
 oP 10 (.pick (.t 7) (.c (.bool true)) (.t 9))])
 (.cond (.t 10) (.seq (.region 0 [oP 4 (.move (.c (.int .i64 9223372036854775807)))])
 (.ret))
 (.skip)))
 (.seq (.region 0 [oP 11 (.move (.t 0)),
 oP 12 (.move (.t 1)),
 oP 13 (.bin .add (.t 11) (.t 12)),
 oP 4 (.move (.t 13))])
 (.ret)))⟩
/-- slices.Min[[]int,int] -/
def f59 : AFn := ⟨25, [.tmp 2],
 .seq (.region 0 [oP 2 (.move (.c (.int .i64 0)))])
 (.seq (.seq (.region 0 [oP 5 (.move (.t 0)),
 oP 6 (.lenS (.t 5)),
 oP 7 (.bin .lss (.t 6) (.c (.int .i64 1)))])
 (.cond (.t 7) (.region 0 [oP 8 (.bad),
 ⟨none, .p (.bad), none, none, []⟩])
 (.skip)))
 (.seq (.region 0 [oP 9 (.move (.t 0)),
 oP 10 (.idxSl 1 (.t 9) (.c (.int .i64 0))),
 oQ 11 (.load false 1 (.t 10)),
 oP 3 (.move (.t 11))])
 (.seq (.seq (.region 0 [oP 4 (.move (.c (.int .i64 1)))])
 (.block 0 (.loop (.seq (.seq (.region 0 [oP 12 (.move (.t 4)),
 oP 13 (.move (.t 0)),
 oP 14 (.lenS (.t 13)),
 oP 15 (.bin .lss (.t 12) (.t 14))])
 (.cond (.t 15) (.skip)
 (.exit 0)))
 (.seq (.block 1 (.region 0 [oP 18 (.move (.t 3)),
 oP 19 (.move (.t 0)),
 oP 20 (.move (.t 4)),
 oP 21 (.idxSl 1 (.t 19) (.t 20)),
 oQ 22 (.load false 1 (.t 21)),
 oP 23 (.minmax false (.t 18) [(.t 22)]),
 oP 3 (.move (.t 23))]))
 (.region 0 [oP 16 (.move (.t 4)),
 oP 17 (.bin .add (.t 16) (.c (.int .i64 1))),
 oP 4 (.move (.t 17))]))))))
 (.seq (.region 0 [oP 24 (.move (.t 3)),
 oP 2 (.move (.t 24))])
 (.ret)))))⟩
/-- (almadraba/cuts.costs).beside -/
def f60 : AFn := ⟨42, [.cell true 31 4],
 .seq (.region 0 [oQ 2 (.box (.t 0)),
 oQ 3 (.box (.t 1)),
 oQ 4 (.alloc [.int .i64 0, .int .i64 0, .int .i64 0, .int .i64 0, .int .i64 0, .int .i64 0, .int .i64 0, .int .i64 0, .int .i64 0, .int .i64 0, .int .i64 0, .int .i64 0, .int .i64 0, .int .i64 0, .int .i64 0, .int .i64 0, .int .i64 0, .int .i64 0, .int .i64 0, .int .i64 0, .int .i64 0, .int .i64 0, .int .i64 0, .int .i64 0, .int .i64 0, .int .i64 0, .int .i64 0, .int .i64 0, .int .i64 0, .int .i64 0, .int .i64 0])])
 (.seq (.region 0 [oP 10 (.build [.int .i64 0, .int .i64 0] [(1, 1, (.c (.int .i64 (-1))))]),
 oQ 11 (.call 1 54 [(.t 10)]),
 oQ 5 (.alloc [.int .i64 0, .int .i64 0, .int .i64 0, .int .i64 0, .int .i64 0, .int .i64 0, .int .i64 0, .int .i64 0, .int .i64 0, .int .i64 0, .int .i64 0, .int .i64 0, .int .i64 0, .int .i64 0, .int .i64 0, .int .i64 0, .int .i64 0, .int .i64 0, .int .i64 0, .int .i64 0, .int .i64 0, .int .i64 0, .int .i64 0, .int .i64 0, .int .i64 0, .int .i64 0, .int .i64 0, .int .i64 0, .int .i64 0, .int .i64 0, .int .i64 0]),
 ⟨none, .store 31 (.t 5) (.t 11), none, none, []⟩])
 (.seq (.seq (.region 0 [oQ 12 (.load true 31 (.t 2)),
 oP 13 (.move (.c (.int .i64 0)))])
 (.block 0 (.loop (.seq (.region 0 [oP 14 (.bin .lss (.t 13) (.c (.int .i64 31)))])
 (.seq (.cond (.t 14) (.skip)
 (.exit 0))
 (.seq (.block 1 (.seq (.region 0 [oP 15 (.move (.t 13)),
 oP 16 (.idx false 31 1 (.t 12) (.t 13)),
 oP 6 (.move (.t 15)),
 oP 7 (.move (.t 16))])
 (.seq (.region 0 [oP 17 (.move (.t 6)),
 oP 18 (.bin .sub (.c (.int .i64 31)) (.t 17)),
 oQ 19 (.sliceA 31 1 (.t 3) (some ((.t 18), none))),
 oP 20 (.lenS (.t 19)),
 oP 21 (.move (.c (.int .i64 0)))])
 (.block 2 (.loop (.seq (.region 0 [oP 22 (.bin .lss (.t 21) (.t 20))])
 (.seq (.cond (.t 22) (.skip)
 (.exit 2))
 (.seq (.block 3 (.seq (.region 0 [oP 23 (.move (.t 21)),
 oP 24 (.idxSl 1 (.t 19) (.t 21)),
 oQ 25 (.load false 1 (.t 24)),
 oP 8 (.move (.t 23)),
 oP 9 (.move (.t 25))])
 (.region 0 [oP 26 (.move (.t 6)),
 oP 27 (.move (.t 8)),
 oP 28 (.bin .add (.t 26) (.t 27)),
 oP 29 (.move (.t 6)),
 oP 30 (.move (.t 8)),
 oP 31 (.bin .add (.t 29) (.t 30)),
 oP 32 (.idxArr 31 1 (.t 5) (.t 31)),
 oQ 33 (.load false 1 (.t 32)),
 oP 34 (.move (.t 7)),
 oP 35 (.move (.t 9)),
 oQ 36 (.call 1 58 [(.t 34), (.t 35)]),
 oP 37 (.minmax false (.t 33) [(.t 36)]),
 oP 38 (.idxArr 31 1 (.t 5) (.t 28)),
 ⟨none, .store 1 (.t 38) (.t 37), none, none, []⟩])))
 (.region 0 [oP 39 (.bin .add (.t 21) (.c (.int .i64 1))),
 oP 21 (.move (.t 39))])))))))))
 (.region 0 [oP 40 (.bin .add (.t 13) (.c (.int .i64 1))),
 oP 13 (.move (.t 40))])))))))
 (.seq (.region 0 [oQ 41 (.load true 31 (.t 5)),
 ⟨none, .store 31 (.t 4) (.t 41), none, none, []⟩])
 (.ret))))⟩
/-- (almadraba/cuts.table).truths$1 -/
def f61 : AFn := ⟨16, [.tmp 6],
 .seq (.region 0 [oP 6 (.move (.c (.int .i64 0)))])
 (.seq (.seq (.region 0 [oQ 7 (.load false 1 (.t 2)),
 oP 8 (.move (.t 0)),
 oP 9 (.move (.t 1)),
 oQ 10 (.call 1 62 [(.t 7), (.t 8), (.t 9)]),
 oP 11 (.bin .gtr (.t 10) (.c (.int .i64 0)))])
 (.cond (.t 11) (.seq (.region 0 [oP 6 (.move (.c (.int .i64 9223372036854775807)))])
 (.ret))
 (.skip)))
 (.seq (.region 0 [oQ 12 (.load false 1 (.t 3)),
 oP 13 (.move (.t 0)),
 oP 14 (.move (.t 1)),
 oQ 15 (.callv true (.t 12) [(.t 13), (.t 14)]),
 oP 6 (.move (.t 15))])
 (.ret)))⟩
/-- (almadraba/cuts.table).away -/
def f62 : AFn := ⟨22, [.tmp 6],
 .seq (.region 0 [oP 6 (.move (.c (.int .i64 0)))])
 (.seq (.region 0 [oP 8 (.move (.t 0)),
 oP 9 (.move (.t 1)),
 oP 10 (.idxSl 6 (.t 8) (.t 9)),
 oP 11 (.fieldAddr 1 (.t 10)),
 oQ 12 (.load true 2 (.t 11)),
 oQ 7 (.alloc [.int .i64 0, .int .i64 0]),
 ⟨none, .store 2 (.t 7) (.t 12), none, none, []⟩])
 (.seq (.region 0 [oP 13 (.fieldAddr 0 (.t 7)),
 oQ 14 (.load false 1 (.t 13)),
 oP 15 (.move (.t 2)),
 oP 16 (.bin .sub (.t 14) (.t 15)),
 oP 17 (.move (.t 2)),
 oP 18 (.fieldAddr 1 (.t 7)),
 oQ 19 (.load false 1 (.t 18)),
 oP 20 (.bin .sub (.t 17) (.t 19)),
 oP 21 (.minmax true (.t 16) [(.t 20), (.c (.int .i64 0))]),
 oP 6 (.move (.t 21))])
 (.ret)))⟩
/-- almadraba/lifts.valid -/
def f63 : AFn := ⟨38, [.tmp 2],
 .seq (.region 0 [oQ 1 (.box (.t 0)),
 oP 2 (.move (.c (.bool false)))])
 (.seq (.region 0 [oP 3 (.move (.c (.fn 72 [] [])))])
 (.seq (.region 0 [oP 4 (.move (.c (.fn 74 [] [])))])
 (.seq (.region 0 [oP 5 (.fieldAddr 0 (.t 1)),
 oQ 6 (.load true 2 (.t 5)),
 oQ 7 (.call 1 73 [(.t 6), (.c (.int .i64 2000))]),
 oP 8 (.move (.t 7)),
 oG 9 8 true (.fieldAddr 2 (.t 1)),
 ⟨(some 10), .load false 1 (.t 9), (some (8, true)), none, []⟩,
 oG 11 8 true (.lenS (.t 10)),
 oG 12 8 true (.bin .leq (.t 11) (.c (.int .i64 4))),
 oP 13 (.pick (.t 8) (.t 12) (.c (.bool false))),
 oP 14 (.move (.t 13)),
 oG 15 14 true (.fieldAddr 2 (.t 1)),
 ⟨(some 16), .load false 1 (.t 15), (some (14, true)), none, []⟩,
 oG 17 14 true (.move (.t 3)),
 ⟨(some 18), .call 1 75 [(.t 16), (.t 17)], (some (14, true)), none, []⟩,
 oP 19 (.pick (.t 14) (.t 18) (.c (.bool false))),
 oP 20 (.move (.t 19)),
 oG 21 20 true (.fieldAddr 2 (.t 1)),
 ⟨(some 22), .load false 1 (.t 21), (some (20, true)), none, []⟩,
 ⟨(some 23), .call 1 77 [(.t 22)], (some (20, true)), none, []⟩,
 ⟨(some 24), .call 1 76 [(.t 23), (.c (.int .i64 12))], (some (20, true)), none, []⟩,
 oP 25 (.pick (.t 20) (.t 24) (.c (.bool false))),
 oP 26 (.move (.t 25)),
 oG 27 26 true (.fieldAddr 3 (.t 1)),
 ⟨(some 28), .load false 1 (.t 27), (some (26, true)), none, []⟩,
 oG 29 26 true (.lenS (.t 28)),
 oG 30 26 true (.bin .leq (.t 29) (.c (.int .i64 6))),
 oP 31 (.pick (.t 26) (.t 30) (.c (.bool false))),
 oP 32 (.move (.t 31)),
 oG 33 32 true (.fieldAddr 3 (.t 1)),
 ⟨(some 34), .load false 1 (.t 33), (some (32, true)), none, []⟩,
 oG 35 32 true (.move (.t 4)),
 ⟨(some 36), .call 1 78 [(.t 34), (.t 35)], (some (32, true)), none, []⟩,
 oP 37 (.pick (.t 32) (.t 36) (.c (.bool false))),
 oP 2 (.move (.t 37))])
 (.ret))))⟩
/-- (almadraba/lifts.sea).longer -/
def f64 : AFn := ⟨51, [.tmp 6],
 .seq (.region 0 [oQ 3 (.box (.t 0)),
 oP 6 (.move (.c (.bool false)))])
 (.scope (.seq (.seq (.region 0 [oP 10 (.move (.t 1)),
 oP 11 (.lenS (.t 10)),
 oP 12 (.fieldAddr 0 (.t 3)),
 oP 13 (.fieldAddr 2 (.t 12)),
 oQ 14 (.load false 1 (.t 13)),
 oP 15 (.lenS (.t 14)),
 oP 16 (.bin .eql (.t 11) (.t 15))])
 (.cond (.t 16) (.seq (.region 0 [oP 17 (.move (.t 2)),
 oP 18 (.move (.t 1)),
 oQ 19 (.callv false (.t 17) [(.t 18)]),
 oP 6 (.move (.t 19))])
 (.ret))
 (.skip)))
 (.seq (.skip)
 (.seq (.seq (.region 0 [oP 20 (.fieldAddr 0 (.t 3)),
 oP 21 (.fieldAddr 3 (.t 20)),
 oQ 22 (.load false 1 (.t 21)),
 oP 23 (.lenS (.t 22)),
 oP 24 (.move (.c (.int .i64 0)))])
 (.block 0 (.loop (.seq (.region 0 [oP 25 (.bin .lss (.t 24) (.t 23))])
 (.seq (.cond (.t 25) (.skip)
 (.exit 0))
 (.seq (.block 1 (.seq (.region 0 [oP 26 (.move (.t 24)),
 oP 7 (.move (.t 26))])
 (.seq (.seq (.region 0 [oP 27 (.move (.t 1)),
 oP 28 (.lenS (.t 27)),
 oP 29 (.move (.c (.int .i64 0)))])
 (.block 2 (.loop (.seq (.region 0 [oP 30 (.bin .lss (.t 29) (.t 28))])
 (.seq (.cond (.t 30) (.skip)
 (.exit 2))
 (.seq (.block 3 (.seq (.region 0 [oP 31 (.idxSl 1 (.t 27) (.t 29)),
 oQ 32 (.load false 1 (.t 31)),
 oP 9 (.move (.t 32))])
 (.seq (.region 0 [oP 33 (.move (.t 9)),
 oP 34 (.move (.t 7)),
 oP 35 (.bin .eql (.t 33) (.t 34))])
 (.cond (.t 35) (.exit 1)
 (.skip)))))
 (.region 0 [oP 36 (.bin .add (.t 29) (.c (.int .i64 1))),
 oP 29 (.move (.t 36))])))))))
 (.seq (.region 1 [⟨(some 37), .load true 4 (.t 3), none, none, [0]⟩,
 oP 38 (.move (.t 1)),
 oP 39 (.move (.t 1)),
 oP 40 (.lenS (.t 39)),
 oP 41 (.move (.t 1)),
 oP 42 (.lenS (.t 41)),
 oP 43 (.slice3 1 (.t 38) (.t 40) (.t 42)),
 oP 44 (.move (.t 7)),
 oQ 45 (.litS 1 1 [.int .i64 0] [(0, (.t 44))]),
 ⟨(some 46), .append true 1 8 (.t 43) (.t 45), none, (some 0), []⟩,
 oP 47 (.move (.t 2)),
 oQ 48 (.call 0 64 [(.t 37), (.t 46), (.t 47)]),
 oP 49 (.un .not (.t 48))])
 (.cond (.t 49) (.seq (.region 0 [oP 6 (.move (.c (.bool false)))])
 (.ret))
 (.skip))))))
 (.region 0 [oP 50 (.bin .add (.t 24) (.c (.int .i64 1))),
 oP 24 (.move (.t 50))])))))))
 (.seq (.region 0 [oP 6 (.move (.c (.bool true)))])
 (.ret))))))⟩
/-- (almadraba/lifts.sea).cost -/
def f65 : AFn := ⟨25, [.tmp 4],
 .seq (.region 0 [oQ 2 (.box (.t 0)),
 oP 4 (.move (.c (.int .i64 0)))])
 (.seq (.region 0 [oP 5 (.move (.c (.int .i64 0)))])
 (.seq (.seq (.region 0 [oP 8 (.move (.t 1)),
 oP 9 (.lenS (.t 8)),
 oP 10 (.move (.c (.int .i64 0)))])
 (.block 0 (.loop (.seq (.region 0 [oP 11 (.bin .lss (.t 10) (.t 9))])
 (.seq (.cond (.t 11) (.skip)
 (.exit 0))
 (.seq (.block 1 (.seq (.region 0 [oP 12 (.idxSl 1 (.t 8) (.t 10)),
 oQ 13 (.load false 1 (.t 12)),
 oP 7 (.move (.t 13))])
 (.region 0 [oP 14 (.move (.t 5)),
 oP 15 (.fieldAddr 0 (.t 2)),
 oP 16 (.fieldAddr 3 (.t 15)),
 oQ 17 (.load false 1 (.t 16)),
 oP 18 (.move (.t 7)),
 oP 19 (.idxSl 2 (.t 17) (.t 18)),
 oP 20 (.fieldAddr 1 (.t 19)),
 oQ 21 (.load false 1 (.t 20)),
 oP 22 (.bin .add (.t 14) (.t 21)),
 oP 5 (.move (.t 22))])))
 (.region 0 [oP 23 (.bin .add (.t 10) (.c (.int .i64 1))),
 oP 10 (.move (.t 23))])))))))
 (.seq (.region 0 [oP 24 (.move (.t 5)),
 oP 4 (.move (.t 24))])
 (.ret))))⟩
/-- almadraba/lifts.upTo -/
def f66 : AFn := ⟨12, [.tmp 4],
 .seq (.region 0 [oP 4 (.move (.c (.bool false)))])
 (.seq (.region 0 [oP 5 (.move (.t 0)),
 oP 6 (.bin .leq (.c (.int .i64 0)) (.t 5)),
 oP 7 (.move (.t 6)),
 oG 8 7 true (.move (.t 0)),
 oG 9 7 true (.move (.t 1)),
 oG 10 7 true (.bin .leq (.t 8) (.t 9)),
 oP 11 (.pick (.t 7) (.t 10) (.c (.bool false))),
 oP 4 (.move (.t 11))])
 (.ret))⟩
/-- slices.Contains[[]int,int] -/
def f67 : AFn := ⟨9, [.tmp 4],
 .seq (.region 0 [oP 4 (.move (.c (.bool false)))])
 (.seq (.region 0 [oP 5 (.move (.t 0)),
 oP 6 (.move (.t 1)),
 oQ 7 (.call 1 79 [(.t 5), (.t 6)]),
 oP 8 (.bin .geq (.t 7) (.c (.int .i64 0))),
 oP 4 (.move (.t 8))])
 (.ret))⟩
/-- (almadraba/lifts.sea).share -/
def f68 : AFn := ⟨36, [.cell true 2 4],
 .seq (.region 0 [oQ 2 (.box (.t 0)),
 oQ 4 (.alloc [.int .i64 0, .int .i64 0])])
 (.seq (.region 2 [oP 7 (.fieldAddr 0 (.t 2)),
 oP 8 (.fieldAddr 2 (.t 7)),
 ⟨(some 9), .load false 1 (.t 8), none, none, [0, 1]⟩,
 ⟨(some 10), .call 1 77 [(.t 9)], none, none, [0, 1]⟩,
 oP 11 (.fieldAddr 0 (.t 2)),
 oP 12 (.fieldAddr 2 (.t 11)),
 ⟨(some 13), .load false 1 (.t 12), none, none, [0, 1]⟩,
 oP 14 (.move (.t 1)),
 oP 15 (.idxSl 2 (.t 13) (.t 14)),
 ⟨(some 16), .load true 2 (.t 15), none, none, [0, 1]⟩,
 ⟨(some 5), .alloc [.int .i64 0, .int .i64 0], none, (some 0), []⟩,
 ⟨(some 6), .alloc [.int .i64 0, .int .i64 0], none, (some 1), []⟩,
 ⟨none, .store 2 (.t 5) (.t 10), none, (some 0), []⟩,
 ⟨none, .store 2 (.t 6) (.t 16), none, (some 1), []⟩])
 (.seq (.region 0 [oP 17 (.fieldAddr 0 (.t 6)),
 oQ 18 (.load false 1 (.t 17)),
 oP 19 (.fieldAddr 1 (.t 5)),
 oQ 20 (.load false 1 (.t 19)),
 oP 21 (.fieldAddr 1 (.t 6)),
 oQ 22 (.load false 1 (.t 21)),
 oP 23 (.bin .sub (.t 20) (.t 22)),
 oP 24 (.bin .sub (.c (.int .i64 12)) (.t 23)),
 oP 25 (.minmax true (.t 18) [(.t 24)]),
 oP 26 (.fieldAddr 1 (.t 6)),
 oQ 27 (.load false 1 (.t 26)),
 oP 28 (.fieldAddr 0 (.t 5)),
 oQ 29 (.load false 1 (.t 28)),
 oP 30 (.fieldAddr 0 (.t 6)),
 oQ 31 (.load false 1 (.t 30)),
 oP 32 (.bin .sub (.t 29) (.t 31)),
 oP 33 (.bin .sub (.c (.int .i64 12)) (.t 32)),
 oP 34 (.minmax false (.t 27) [(.t 33)]),
 oP 35 (.build [.int .i64 0, .int .i64 0] [(0, 1, (.t 25)), (1, 1, (.t 34))]),
 ⟨none, .store 2 (.t 4) (.t 35), none, none, []⟩])
 (.ret)))⟩
/-- almadraba/cuts.within -/
def f69 : AFn := ⟨15, [.tmp 4],
 .seq (.region 0 [oQ 2 (.box (.t 0)),
 oP 4 (.move (.c (.bool false)))])
 (.seq (.region 0 [oP 5 (.fieldAddr 0 (.t 2)),
 oQ 6 (.load false 1 (.t 5)),
 oP 7 (.move (.t 1)),
 oP 8 (.bin .leq (.t 6) (.t 7)),
 oP 9 (.move (.t 8)),
 oG 10 9 true (.move (.t 1)),
 oG 11 9 true (.fieldAddr 1 (.t 2)),
 ⟨(some 12), .load false 1 (.t 11), (some (9, true)), none, []⟩,
 oG 13 9 true (.bin .leq (.t 10) (.t 12)),
 oP 14 (.pick (.t 9) (.t 13) (.c (.bool false))),
 oP 4 (.move (.t 14))])
 (.ret))⟩
/-- (almadraba/cuts.table).canCut -/
def f70 : AFn := ⟨8, [.tmp 4],
 .seq (.region 0 [oQ 3 (.box (.t 1)),
 oP 4 (.move (.c (.bool false)))])
 (.seq (.region 0 [oP 5 (.move (.t 0)),
 oP 6 (.mkFn 81 [] [(.t 3)]),
 oQ 7 (.call 3 80 [(.t 5), (.t 6)]),
 oP 4 (.move (.t 7))])
 (.ret))⟩
/-- slices.Backward[almadraba/cuts.table,almadraba/api.CutPart]$1 -/
def f71 : AFn := ⟨19, [],
 .seq (.region 0 [oQ 4 (.load false 1 (.t 1)),
 oP 5 (.lenS (.t 4)),
 oP 6 (.bin .sub (.t 5) (.c (.int .i64 1))),
 oP 3 (.move (.t 6))])
 (.block 0 (.loop (.seq (.seq (.region 0 [oP 7 (.move (.t 3)),
 oP 8 (.bin .geq (.t 7) (.c (.int .i64 0)))])
 (.cond (.t 8) (.skip)
 (.exit 0)))
 (.seq (.block 1 (.seq (.region 0 [oP 11 (.move (.t 0)),
 oP 12 (.move (.t 3)),
 oQ 13 (.load false 1 (.t 1)),
 oP 14 (.move (.t 3)),
 oP 15 (.idxSl 6 (.t 13) (.t 14)),
 oQ 16 (.load true 6 (.t 15)),
 oQ 17 (.callv false (.t 11) [(.t 12), (.t 16)]),
 oP 18 (.un .not (.t 17))])
 (.cond (.t 18) (.ret)
 (.skip))))
 (.region 0 [oP 9 (.move (.t 3)),
 oP 10 (.bin .sub (.t 9) (.c (.int .i64 1))),
 oP 3 (.move (.t 10))])))))⟩
/-- almadraba/lifts.valid$1 -/
def f72 : AFn := ⟨5, [.tmp 2],
 .seq (.region 0 [oQ 1 (.box (.t 0)),
 oP 2 (.move (.c (.bool false)))])
 (.seq (.region 0 [oQ 3 (.load true 2 (.t 1)),
 oQ 4 (.call 1 73 [(.t 3), (.c (.int .i64 12))]),
 oP 2 (.move (.t 4))])
 (.ret))⟩
/-- almadraba/lifts.isSpan -/
def f73 : AFn := ⟨21, [.tmp 4],
 .seq (.region 0 [oQ 2 (.box (.t 0)),
 oP 4 (.move (.c (.bool false)))])
 (.seq (.region 0 [oP 5 (.fieldAddr 0 (.t 2)),
 oQ 6 (.load false 1 (.t 5)),
 oP 7 (.bin .leq (.c (.int .i64 0)) (.t 6)),
 oP 8 (.move (.t 7)),
 oG 9 8 true (.fieldAddr 0 (.t 2)),
 ⟨(some 10), .load false 1 (.t 9), (some (8, true)), none, []⟩,
 oG 11 8 true (.fieldAddr 1 (.t 2)),
 ⟨(some 12), .load false 1 (.t 11), (some (8, true)), none, []⟩,
 oG 13 8 true (.bin .leq (.t 10) (.t 12)),
 oP 14 (.pick (.t 8) (.t 13) (.c (.bool false))),
 oP 15 (.move (.t 14)),
 oG 16 15 true (.fieldAddr 1 (.t 2)),
 ⟨(some 17), .load false 1 (.t 16), (some (15, true)), none, []⟩,
 oG 18 15 true (.move (.t 1)),
 oG 19 15 true (.bin .leq (.t 17) (.t 18)),
 oP 20 (.pick (.t 15) (.t 19) (.c (.bool false))),
 oP 4 (.move (.t 20))])
 (.ret))⟩
/-- almadraba/lifts.valid$2 -/
def f74 : AFn := ⟨11, [.tmp 2],
 .seq (.region 0 [oQ 1 (.box (.t 0)),
 oP 2 (.move (.c (.bool false)))])
 (.seq (.region 0 [oP 3 (.fieldAddr 0 (.t 1)),
 oQ 4 (.load false 1 (.t 3)),
 oQ 5 (.call 1 66 [(.t 4), (.c (.int .i64 999))]),
 oP 6 (.move (.t 5)),
 oG 7 6 true (.fieldAddr 1 (.t 1)),
 ⟨(some 8), .load false 1 (.t 7), (some (6, true)), none, []⟩,
 ⟨(some 9), .call 1 66 [(.t 8), (.c (.int .i64 99))], (some (6, true)), none, []⟩,
 oP 10 (.pick (.t 6) (.t 9) (.c (.bool false))),
 oP 2 (.move (.t 10))])
 (.ret))⟩
/-- almadraba/lifts.each[almadraba/api.Span] -/
def f75 : AFn := ⟨9, [.tmp 4],
 .seq (.region 0 [oQ 3 (.box (.t 1)),
 oP 4 (.move (.c (.bool false)))])
 (.seq (.region 0 [oP 5 (.move (.t 0)),
 oP 6 (.mkFn 83 [] [(.t 3)]),
 oQ 7 (.call 3 82 [(.t 5), (.t 6)]),
 oP 8 (.un .not (.t 7)),
 oP 4 (.move (.t 8))])
 (.ret))⟩
/-- almadraba/lifts.within -/
def f76 : AFn := ⟨15, [.tmp 4],
 .seq (.region 0 [oQ 2 (.box (.t 0)),
 oP 4 (.move (.c (.bool false)))])
 (.seq (.region 0 [oP 5 (.fieldAddr 0 (.t 2)),
 oQ 6 (.load false 1 (.t 5)),
 oP 7 (.move (.t 1)),
 oP 8 (.bin .leq (.t 6) (.t 7)),
 oP 9 (.move (.t 8)),
 oG 10 9 true (.move (.t 1)),
 oG 11 9 true (.fieldAddr 1 (.t 2)),
 ⟨(some 12), .load false 1 (.t 11), (some (9, true)), none, []⟩,
 oG 13 9 true (.bin .leq (.t 10) (.t 12)),
 oP 14 (.pick (.t 9) (.t 13) (.c (.bool false))),
 oP 4 (.move (.t 14))])
 (.ret))⟩
/-- almadraba/lifts.together -/
def f77 : AFn := ⟨26, [.cell true 2 2],
 .seq (.region 0 [oQ 2 (.alloc [.int .i64 0, .int .i64 0])])
 (.seq (.region 0 [oQ 3 (.alloc [.int .i64 0, .int .i64 0])])
 (.seq (.seq (.region 0 [oP 6 (.move (.t 0)),
 oP 7 (.lenS (.t 6)),
 oP 8 (.move (.c (.int .i64 0)))])
 (.block 0 (.loop (.seq (.region 0 [oP 9 (.bin .lss (.t 8) (.t 7))])
 (.seq (.cond (.t 9) (.skip)
 (.exit 0))
 (.seq (.block 1 (.seq (.region 0 [oP 10 (.idxSl 2 (.t 6) (.t 8)),
 oQ 11 (.load true 2 (.t 10)),
 oQ 5 (.alloc [.int .i64 0, .int .i64 0]),
 ⟨none, .store 2 (.t 5) (.t 11), none, none, []⟩])
 (.seq (.region 0 [oP 12 (.fieldAddr 0 (.t 3)),
 oQ 13 (.load false 1 (.t 12)),
 oP 14 (.fieldAddr 0 (.t 5)),
 oQ 15 (.load false 1 (.t 14)),
 oP 16 (.bin .add (.t 13) (.t 15)),
 oP 17 (.fieldAddr 0 (.t 3)),
 ⟨none, .store 1 (.t 17) (.t 16), none, none, []⟩])
 (.region 0 [oP 18 (.fieldAddr 1 (.t 3)),
 oQ 19 (.load false 1 (.t 18)),
 oP 20 (.fieldAddr 1 (.t 5)),
 oQ 21 (.load false 1 (.t 20)),
 oP 22 (.bin .add (.t 19) (.t 21)),
 oP 23 (.fieldAddr 1 (.t 3)),
 ⟨none, .store 1 (.t 23) (.t 22), none, none, []⟩]))))
 (.region 0 [oP 24 (.bin .add (.t 8) (.c (.int .i64 1))),
 oP 8 (.move (.t 24))])))))))
 (.seq (.region 0 [oQ 25 (.load true 2 (.t 3)),
 ⟨none, .store 2 (.t 2) (.t 25), none, none, []⟩])
 (.ret))))⟩
/-- almadraba/lifts.each[almadraba/api.LiftBoat] -/
def f78 : AFn := ⟨9, [.tmp 4],
 .seq (.region 0 [oQ 3 (.box (.t 1)),
 oP 4 (.move (.c (.bool false)))])
 (.seq (.region 0 [oP 5 (.move (.t 0)),
 oP 6 (.mkFn 85 [] [(.t 3)]),
 oQ 7 (.call 3 84 [(.t 5), (.t 6)]),
 oP 8 (.un .not (.t 7)),
 oP 4 (.move (.t 8))])
 (.ret))⟩
/-- slices.Index[[]int,int] -/
def f79 : AFn := ⟨19, [.tmp 4],
 .seq (.region 0 [oP 4 (.move (.c (.int .i64 0)))])
 (.seq (.seq (.region 0 [oP 6 (.move (.t 0)),
 oP 7 (.lenS (.t 6)),
 oP 8 (.move (.c (.int .i64 0)))])
 (.block 0 (.loop (.seq (.region 0 [oP 9 (.bin .lss (.t 8) (.t 7))])
 (.seq (.cond (.t 9) (.skip)
 (.exit 0))
 (.seq (.block 1 (.seq (.region 0 [oP 10 (.move (.t 8)),
 oP 5 (.move (.t 10))])
 (.seq (.region 0 [oP 11 (.move (.t 1)),
 oP 12 (.move (.t 0)),
 oP 13 (.move (.t 5)),
 oP 14 (.idxSl 1 (.t 12) (.t 13)),
 oQ 15 (.load false 1 (.t 14)),
 oP 16 (.bin .eql (.t 11) (.t 15))])
 (.cond (.t 16) (.seq (.region 0 [oP 17 (.move (.t 5)),
 oP 4 (.move (.t 17))])
 (.ret))
 (.skip)))))
 (.region 0 [oP 18 (.bin .add (.t 8) (.c (.int .i64 1))),
 oP 8 (.move (.t 18))])))))))
 (.seq (.region 0 [oP 4 (.move (.c (.int .i64 (-1))))])
 (.ret)))⟩
/-- slices.ContainsFunc[almadraba/cuts.table,almadraba/api.CutPart] -/
def f80 : AFn := ⟨9, [.tmp 4],
 .seq (.region 0 [oP 4 (.move (.c (.bool false)))])
 (.seq (.region 0 [oP 5 (.move (.t 0)),
 oP 6 (.move (.t 1)),
 oQ 7 (.call 3 86 [(.t 5), (.t 6)]),
 oP 8 (.bin .geq (.t 7) (.c (.int .i64 0))),
 oP 4 (.move (.t 8))])
 (.ret))⟩
/-- (almadraba/cuts.table).canCut$1 -/
def f81 : AFn := ⟨8, [.tmp 3],
 .seq (.region 0 [oQ 2 (.box (.t 0)),
 oP 3 (.move (.c (.bool false)))])
 (.seq (.region 0 [oP 4 (.fieldAddr 0 (.t 2)),
 oQ 5 (.load false 1 (.t 4)),
 oQ 6 (.load false 1 (.t 1)),
 oP 7 (.bin .eql (.t 5) (.t 6)),
 oP 3 (.move (.t 7))])
 (.ret))⟩
/-- slices.ContainsFunc[[]almadraba/api.Span,almadraba/api.Span] -/
def f82 : AFn := ⟨9, [.tmp 4],
 .seq (.region 0 [oP 4 (.move (.c (.bool false)))])
 (.seq (.region 0 [oP 5 (.move (.t 0)),
 oP 6 (.move (.t 1)),
 oQ 7 (.call 3 87 [(.t 5), (.t 6)]),
 oP 8 (.bin .geq (.t 7) (.c (.int .i64 0))),
 oP 4 (.move (.t 8))])
 (.ret))⟩
/-- almadraba/lifts.each[almadraba/api.Span]$1 -/
def f83 : AFn := ⟨8, [.tmp 3],
 .seq (.region 0 [oQ 2 (.box (.t 0)),
 oP 3 (.move (.c (.bool false)))])
 (.seq (.region 0 [oQ 4 (.load false 1 (.t 1)),
 oQ 5 (.load true 2 (.t 2)),
 oQ 6 (.callv true (.t 4) [(.t 5)]),
 oP 7 (.un .not (.t 6)),
 oP 3 (.move (.t 7))])
 (.ret))⟩
/-- slices.ContainsFunc[[]almadraba/api.LiftBoat,almadraba/api.LiftBoat] -/
def f84 : AFn := ⟨9, [.tmp 4],
 .seq (.region 0 [oP 4 (.move (.c (.bool false)))])
 (.seq (.region 0 [oP 5 (.move (.t 0)),
 oP 6 (.move (.t 1)),
 oQ 7 (.call 3 88 [(.t 5), (.t 6)]),
 oP 8 (.bin .geq (.t 7) (.c (.int .i64 0))),
 oP 4 (.move (.t 8))])
 (.ret))⟩
/-- almadraba/lifts.each[almadraba/api.LiftBoat]$1 -/
def f85 : AFn := ⟨8, [.tmp 3],
 .seq (.region 0 [oQ 2 (.box (.t 0)),
 oP 3 (.move (.c (.bool false)))])
 (.seq (.region 0 [oQ 4 (.load false 1 (.t 1)),
 oQ 5 (.load true 2 (.t 2)),
 oQ 6 (.callv true (.t 4) [(.t 5)]),
 oP 7 (.un .not (.t 6)),
 oP 3 (.move (.t 7))])
 (.ret))⟩
/-- slices.IndexFunc[almadraba/cuts.table,almadraba/api.CutPart] -/
def f86 : AFn := ⟨19, [.tmp 4],
 .seq (.region 0 [oP 4 (.move (.c (.int .i64 0)))])
 (.seq (.seq (.region 0 [oP 6 (.move (.t 0)),
 oP 7 (.lenS (.t 6)),
 oP 8 (.move (.c (.int .i64 0)))])
 (.block 0 (.loop (.seq (.region 0 [oP 9 (.bin .lss (.t 8) (.t 7))])
 (.seq (.cond (.t 9) (.skip)
 (.exit 0))
 (.seq (.block 1 (.seq (.region 0 [oP 10 (.move (.t 8)),
 oP 5 (.move (.t 10))])
 (.seq (.region 0 [oP 11 (.move (.t 1)),
 oP 12 (.move (.t 0)),
 oP 13 (.move (.t 5)),
 oP 14 (.idxSl 6 (.t 12) (.t 13)),
 oQ 15 (.load true 6 (.t 14)),
 oQ 16 (.callv true (.t 11) [(.t 15)])])
 (.cond (.t 16) (.seq (.region 0 [oP 17 (.move (.t 5)),
 oP 4 (.move (.t 17))])
 (.ret))
 (.skip)))))
 (.region 0 [oP 18 (.bin .add (.t 8) (.c (.int .i64 1))),
 oP 8 (.move (.t 18))])))))))
 (.seq (.region 0 [oP 4 (.move (.c (.int .i64 (-1))))])
 (.ret)))⟩
/-- slices.IndexFunc[[]almadraba/api.Span,almadraba/api.Span] -/
def f87 : AFn := ⟨19, [.tmp 4],
 .seq (.region 0 [oP 4 (.move (.c (.int .i64 0)))])
 (.seq (.seq (.region 0 [oP 6 (.move (.t 0)),
 oP 7 (.lenS (.t 6)),
 oP 8 (.move (.c (.int .i64 0)))])
 (.block 0 (.loop (.seq (.region 0 [oP 9 (.bin .lss (.t 8) (.t 7))])
 (.seq (.cond (.t 9) (.skip)
 (.exit 0))
 (.seq (.block 1 (.seq (.region 0 [oP 10 (.move (.t 8)),
 oP 5 (.move (.t 10))])
 (.seq (.region 0 [oP 11 (.move (.t 1)),
 oP 12 (.move (.t 0)),
 oP 13 (.move (.t 5)),
 oP 14 (.idxSl 2 (.t 12) (.t 13)),
 oQ 15 (.load true 2 (.t 14)),
 oQ 16 (.callv true (.t 11) [(.t 15)])])
 (.cond (.t 16) (.seq (.region 0 [oP 17 (.move (.t 5)),
 oP 4 (.move (.t 17))])
 (.ret))
 (.skip)))))
 (.region 0 [oP 18 (.bin .add (.t 8) (.c (.int .i64 1))),
 oP 8 (.move (.t 18))])))))))
 (.seq (.region 0 [oP 4 (.move (.c (.int .i64 (-1))))])
 (.ret)))⟩
/-- slices.IndexFunc[[]almadraba/api.LiftBoat,almadraba/api.LiftBoat] -/
def f88 : AFn := ⟨19, [.tmp 4],
 .seq (.region 0 [oP 4 (.move (.c (.int .i64 0)))])
 (.seq (.seq (.region 0 [oP 6 (.move (.t 0)),
 oP 7 (.lenS (.t 6)),
 oP 8 (.move (.c (.int .i64 0)))])
 (.block 0 (.loop (.seq (.region 0 [oP 9 (.bin .lss (.t 8) (.t 7))])
 (.seq (.cond (.t 9) (.skip)
 (.exit 0))
 (.seq (.block 1 (.seq (.region 0 [oP 10 (.move (.t 8)),
 oP 5 (.move (.t 10))])
 (.seq (.region 0 [oP 11 (.move (.t 1)),
 oP 12 (.move (.t 0)),
 oP 13 (.move (.t 5)),
 oP 14 (.idxSl 2 (.t 12) (.t 13)),
 oQ 15 (.load true 2 (.t 14)),
 oQ 16 (.callv true (.t 11) [(.t 15)])])
 (.cond (.t 16) (.seq (.region 0 [oP 17 (.move (.t 5)),
 oP 4 (.move (.t 17))])
 (.ret))
 (.skip)))))
 (.region 0 [oP 18 (.bin .add (.t 8) (.c (.int .i64 1))),
 oP 8 (.move (.t 18))])))))))
 (.seq (.region 0 [oP 4 (.move (.c (.int .i64 (-1))))])
 (.ret)))⟩
end Go.Proofs.Ytokhneffambgmaa.T
