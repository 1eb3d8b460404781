/-
The code of functions of the seat, as the abstract machine has it (printed by a tool of ours off the dump).
-/
import Derived.Test.YtaffjmjahenoaaaTabA
namespace Go.Proofs.Ytaffjmjahenoaaa.T
open Go Go.Am
/-- (almadraba/salt.house).salt -/
def f36 : AFn := ⟨19, [.tmp 4],
 .seq (.region 0 [oQ 2 (.box (.t 0)),
 oQ 3 (.box (.t 1)),
 oP 4 (.move (.c (.int .i64 0)))])
 (.seq (.region 0 [oP 5 (.move (.c (.int .i64 0)))])
 (.seq (.seq (.region 0 [oQ 8 (.load true 16 (.t 3)),
 oP 9 (.move (.c (.int .i64 0)))])
 (.block 0 (.loop (.seq (.region 0 [oP 10 (.bin .lss (.t 9) (.c (.int .i64 4)))])
 (.seq (.cond (.t 10) (.skip)
 (.exit 0))
 (.seq (.block 1 (.seq (.region 0 [oP 11 (.idx true 4 4 (.t 8) (.t 9)),
 oQ 7 (.alloc [.int .i64 0, .int .i64 0, .int .i64 0, .int .i64 0]),
 ⟨none, .store 4 (.t 7) (.t 11), none, none, []⟩])
 (.region 0 [oP 12 (.move (.t 5)),
 oQ 13 (.load true 4 (.t 2)),
 oQ 14 (.load true 4 (.t 7)),
 oQ 15 (.call 1 48 [(.t 13), (.t 14)]),
 oP 16 (.bin .add (.t 12) (.t 15)),
 oP 5 (.move (.t 16))])))
 (.region 0 [oP 17 (.bin .add (.t 9) (.c (.int .i64 1))),
 oP 9 (.move (.t 17))])))))))
 (.seq (.region 0 [oP 18 (.move (.t 5)),
 oP 4 (.move (.t 18))])
 (.ret))))⟩
/-- almadraba/cuts.Check -/
def f37 : AFn := ⟨6, [.tmp 2],
 .seq (.region 0 [oP 2 (.move (.c (.int .i64 0)))])
 (.seq (.seq (.region 0 [oP 3 (.move (.t 0)),
 oQ 4 (.call 1 49 [(.t 3)]),
 oP 5 (.un .not (.t 4))])
 (.cond (.t 5) (.seq (.region 0 [oP 2 (.move (.c (.int .i64 70)))])
 (.ret))
 (.skip)))
 (.seq (.region 0 [oP 2 (.move (.c (.int .i64 0)))])
 (.ret)))⟩
/-- (almadraba/cuts.table).has -/
def f38 : AFn := ⟨13, [.tmp 4],
 .seq (.region 0 [oP 4 (.move (.c (.bool false)))])
 (.seq (.region 0 [oP 5 (.move (.t 1)),
 oP 6 (.bin .leq (.c (.int .i64 0)) (.t 5)),
 oP 7 (.move (.t 6)),
 oG 8 7 true (.move (.t 1)),
 oG 9 7 true (.move (.t 0)),
 oG 10 7 true (.lenS (.t 9)),
 oG 11 7 true (.bin .lss (.t 8) (.t 10)),
 oP 12 (.pick (.t 7) (.t 11) (.c (.bool false))),
 oP 4 (.move (.t 12))])
 (.ret))⟩
/-- (almadraba/cuts.table).least -/
def f39 : AFn := ⟨50, [.tmp 4],
 .seq (.region 0 [oQ 3 (.box (.t 1)),
 oP 4 (.move (.c (.int .i64 0)))])
 (.seq (.region 0 [oQ 5 (.alloc [.int .i64 0, .int .i64 0, .int .i64 0, .int .i64 0, .int .i64 0, .int .i64 0, .int .i64 0, .int .i64 0, .int .i64 0, .int .i64 0, .int .i64 0, .int .i64 0, .int .i64 0, .int .i64 0, .int .i64 0, .int .i64 0, .int .i64 0, .int .i64 0, .int .i64 0, .int .i64 0, .int .i64 0, .int .i64 0, .int .i64 0, .int .i64 0, .int .i64 0, .int .i64 0, .int .i64 0, .int .i64 0, .int .i64 0, .int .i64 0, .int .i64 0, .int .i64 0, .int .i64 0, .int .i64 0, .int .i64 0, .int .i64 0, .int .i64 0, .int .i64 0, .int .i64 0, .int .i64 0, .int .i64 0, .int .i64 0, .int .i64 0, .int .i64 0, .int .i64 0, .int .i64 0, .int .i64 0, .int .i64 0, .int .i64 0, .int .i64 0, .int .i64 0, .int .i64 0, .int .i64 0, .int .i64 0, .int .i64 0, .int .i64 0, .int .i64 0, .int .i64 0, .int .i64 0, .int .i64 0, .int .i64 0, .int .i64 0, .int .i64 0, .int .i64 0, .int .i64 0, .int .i64 0, .int .i64 0, .int .i64 0, .int .i64 0, .int .i64 0, .int .i64 0, .int .i64 0, .int .i64 0, .int .i64 0, .int .i64 0, .int .i64 0, .int .i64 0, .int .i64 0, .int .i64 0, .int .i64 0, .int .i64 0, .int .i64 0, .int .i64 0, .int .i64 0, .int .i64 0, .int .i64 0, .int .i64 0, .int .i64 0, .int .i64 0, .int .i64 0, .int .i64 0, .int .i64 0, .int .i64 0, .int .i64 0, .int .i64 0, .int .i64 0, .int .i64 0, .int .i64 0, .int .i64 0, .int .i64 0, .int .i64 0, .int .i64 0, .int .i64 0, .int .i64 0, .int .i64 0, .int .i64 0, .int .i64 0, .int .i64 0, .int .i64 0, .int .i64 0, .int .i64 0, .int .i64 0, .int .i64 0, .int .i64 0, .int .i64 0, .int .i64 0, .int .i64 0, .int .i64 0, .int .i64 0, .int .i64 0, .int .i64 0, .int .i64 0, .int .i64 0, .int .i64 0, .int .i64 0, .int .i64 0, .int .i64 0, .int .i64 0, .int .i64 0, .int .i64 0, .int .i64 0, .int .i64 0, .int .i64 0, .int .i64 0, .int .i64 0, .int .i64 0, .int .i64 0, .int .i64 0, .int .i64 0, .int .i64 0, .int .i64 0, .int .i64 0, .int .i64 0, .int .i64 0, .int .i64 0, .int .i64 0, .int .i64 0, .int .i64 0, .int .i64 0, .int .i64 0, .int .i64 0, .int .i64 0, .int .i64 0, .int .i64 0, .int .i64 0, .int .i64 0, .int .i64 0, .int .i64 0, .int .i64 0, .int .i64 0, .int .i64 0, .int .i64 0, .int .i64 0, .int .i64 0, .int .i64 0, .int .i64 0, .int .i64 0, .int .i64 0, .int .i64 0, .int .i64 0, .int .i64 0, .int .i64 0, .int .i64 0, .int .i64 0, .int .i64 0, .int .i64 0, .int .i64 0, .int .i64 0, .int .i64 0, .int .i64 0, .int .i64 0, .int .i64 0, .int .i64 0, .int .i64 0, .int .i64 0, .int .i64 0, .int .i64 0, .int .i64 0, .int .i64 0, .int .i64 0, .int .i64 0, .int .i64 0, .int .i64 0, .int .i64 0, .int .i64 0, .int .i64 0, .int .i64 0, .int .i64 0, .int .i64 0, .int .i64 0, .int .i64 0, .int .i64 0, .int .i64 0, .int .i64 0, .int .i64 0, .int .i64 0, .int .i64 0, .int .i64 0, .int .i64 0, .int .i64 0, .int .i64 0, .int .i64 0, .int .i64 0, .int .i64 0, .int .i64 0, .int .i64 0, .int .i64 0, .int .i64 0, .int .i64 0, .int .i64 0, .int .i64 0, .int .i64 0, .int .i64 0, .int .i64 0, .int .i64 0, .int .i64 0, .int .i64 0, .int .i64 0, .int .i64 0, .int .i64 0, .int .i64 0, .int .i64 0, .int .i64 0, .int .i64 0, .int .i64 0, .int .i64 0, .int .i64 0, .int .i64 0, .int .i64 0, .int .i64 0, .int .i64 0, .int .i64 0, .int .i64 0, .int .i64 0, .int .i64 0, .int .i64 0, .int .i64 0, .int .i64 0])])
 (.seq (.seq (.region 0 [oP 11 (.move (.t 0)),
 oP 12 (.lenS (.t 11)),
 oP 13 (.move (.c (.int .i64 0)))])
 (.block 0 (.loop (.seq (.region 0 [oP 14 (.bin .lss (.t 13) (.t 12))])
 (.seq (.cond (.t 14) (.skip)
 (.exit 0))
 (.seq (.block 1 (.seq (.region 0 [oP 15 (.move (.t 13)),
 oP 6 (.move (.t 15))])
 (.region 0 [oP 16 (.move (.t 6)),
 oP 17 (.move (.t 0)),
 oP 18 (.move (.t 6)),
 oQ 19 (.call 1 51 [(.t 17), (.t 18)]),
 oQ 20 (.call 1 50 [(.t 19)]),
 oP 21 (.idxArr 8 31 (.t 5) (.t 16)),
 ⟨none, .store 31 (.t 21) (.t 20), none, none, []⟩])))
 (.region 0 [oP 22 (.bin .add (.t 13) (.c (.int .i64 1))),
 oP 13 (.move (.t 22))])))))))
 (.seq (.region 0 [oQ 7 (.alloc [.int .i64 0]),
 ⟨none, .store 1 (.t 7) (.c (.int .i64 0)), none, none, []⟩])
 (.seq (.seq (.region 0 [oP 23 (.move (.t 0)),
 oQ 24 (.call 0 52 [(.t 23)])])
 (.block 2 (.rangeFunc (.t 24) [25, 26] (.seq (.region 0 [oP 8 (.move (.t 25))])
 (.region 0 [oQ 9 (.alloc [.int .i64 0, .int .i64 0, .int .i64 0, .int .i64 0, .int .i64 0, .int .i64 0]),
 ⟨none, .store 6 (.t 9) (.t 26), none, none, []⟩]))
 (.block 3 (.seq (.region 1 [oP 27 (.move (.t 8)),
 oP 28 (.idxArr 8 31 (.t 5) (.t 27)),
 ⟨(some 29), .load true 31 (.t 28), none, none, [0]⟩,
 oP 30 (.move (.t 8)),
 ⟨(some 31), .load false 1 (.t 3), none, none, [0]⟩,
 ⟨(some 32), .call 3 53 [(.t 29), (.t 30), (.t 31)], none, none, [0]⟩,
 ⟨(some 10), .alloc [.int .i64 0, .int .i64 0, .int .i64 0, .int .i64 0, .int .i64 0, .int .i64 0, .int .i64 0, .int .i64 0, .int .i64 0, .int .i64 0, .int .i64 0, .int .i64 0, .int .i64 0, .int .i64 0, .int .i64 0, .int .i64 0, .int .i64 0, .int .i64 0, .int .i64 0, .int .i64 0, .int .i64 0, .int .i64 0, .int .i64 0, .int .i64 0, .int .i64 0, .int .i64 0, .int .i64 0, .int .i64 0, .int .i64 0, .int .i64 0, .int .i64 0], none, (some 0), []⟩,
 ⟨none, .store 31 (.t 10) (.t 32), none, (some 0), []⟩])
 (.seq (.region 0 [oP 33 (.fieldAddr 0 (.t 9)),
 oQ 34 (.load false 1 (.t 33)),
 oP 35 (.bin .eql (.t 34) (.c (.int .i64 (-1))))])
 (.cond (.t 35) (.region 0 [oQ 36 (.load false 1 (.t 7)),
 oQ 37 (.sliceA 31 1 (.t 10) none),
 oQ 38 (.call 1 55 [(.t 37)]),
 oQ 39 (.call 1 54 [(.t 36), (.t 38)]),
 ⟨none, .store 1 (.t 7) (.t 39), none, none, []⟩])
 (.region 0 [oP 40 (.fieldAddr 0 (.t 9)),
 oQ 41 (.load false 1 (.t 40)),
 oP 42 (.fieldAddr 0 (.t 9)),
 oQ 43 (.load false 1 (.t 42)),
 oP 44 (.idxArr 8 31 (.t 5) (.t 43)),
 oQ 45 (.load true 31 (.t 44)),
 oQ 46 (.load true 31 (.t 10)),
 oQ 47 (.call 1 56 [(.t 45), (.t 46)]),
 oP 48 (.idxArr 8 31 (.t 5) (.t 41)),
 ⟨none, .store 31 (.t 48) (.t 47), none, none, []⟩]))))))))
 (.seq (.region 0 [oQ 49 (.load false 1 (.t 7)),
 oP 4 (.move (.t 49))])
 (.ret))))))⟩
/-- (almadraba/cuts.table).truths -/
def f40 : AFn := ⟨6, [.tmp 4],
 .seq (.region 0 [oQ 2 (.box (.t 0)),
 oQ 3 (.box (.t 1)),
 oP 4 (.move (.c (.nilf)))])
 (.seq (.region 0 [oP 5 (.mkFn 57 [] [(.t 2), (.t 3)]),
 oP 4 (.move (.t 5))])
 (.ret))⟩
/-- (almadraba/cuts.rates).cost -/
def f41 : AFn := ⟨12, [.tmp 6],
 .seq (.region 0 [oQ 3 (.box (.t 0)),
 oP 6 (.move (.c (.int .i64 0)))])
 (.seq (.region 0 [oP 7 (.move (.t 1)),
 oP 8 (.idxArr 8 1 (.t 3) (.t 7)),
 oQ 9 (.load false 1 (.t 8)),
 oP 10 (.move (.t 2)),
 oP 11 (.bin .mul (.t 9) (.t 10)),
 oP 6 (.move (.t 11))])
 (.ret))⟩
/-- (almadraba/cuts.rates).minus -/
def f42 : AFn := ⟨19, [.cell true 8 4],
 .seq (.region 0 [oQ 2 (.box (.t 0)),
 oQ 3 (.box (.t 1)),
 oQ 4 (.alloc [.int .i64 0, .int .i64 0, .int .i64 0, .int .i64 0, .int .i64 0, .int .i64 0, .int .i64 0, .int .i64 0])])
 (.seq (.seq (.region 0 [oP 6 (.move (.c (.int .i64 0)))])
 (.block 0 (.loop (.seq (.region 0 [oP 7 (.bin .lss (.t 6) (.c (.int .i64 8)))])
 (.seq (.cond (.t 7) (.skip)
 (.exit 0))
 (.seq (.block 1 (.seq (.region 0 [oP 8 (.move (.t 6)),
 oP 5 (.move (.t 8))])
 (.region 0 [oP 9 (.move (.t 5)),
 oP 10 (.idxArr 8 1 (.t 2) (.t 9)),
 oQ 11 (.load false 1 (.t 10)),
 oP 12 (.move (.t 5)),
 oP 13 (.idxArr 8 1 (.t 3) (.t 12)),
 oQ 14 (.load false 1 (.t 13)),
 oP 15 (.bin .sub (.t 11) (.t 14)),
 oP 16 (.idxArr 8 1 (.t 2) (.t 9)),
 ⟨none, .store 1 (.t 16) (.t 15), none, none, []⟩])))
 (.region 0 [oP 17 (.bin .add (.t 6) (.c (.int .i64 1))),
 oP 6 (.move (.t 17))])))))))
 (.seq (.region 0 [oQ 18 (.load true 8 (.t 2)),
 ⟨none, .store 8 (.t 4) (.t 18), none, none, []⟩])
 (.ret)))⟩
/-- (almadraba/salt.house).used -/
def f43 : AFn := ⟨19, [.tmp 4],
 .seq (.region 0 [oQ 2 (.box (.t 0)),
 oQ 3 (.box (.t 1)),
 oP 4 (.move (.c (.int .i64 0)))])
 (.seq (.region 0 [oP 5 (.move (.c (.int .i64 0)))])
 (.seq (.seq (.region 0 [oQ 8 (.load true 16 (.t 3)),
 oP 9 (.move (.c (.int .i64 0)))])
 (.block 0 (.loop (.seq (.region 0 [oP 10 (.bin .lss (.t 9) (.c (.int .i64 4)))])
 (.seq (.cond (.t 10) (.skip)
 (.exit 0))
 (.seq (.block 1 (.seq (.region 0 [oP 11 (.idx true 4 4 (.t 8) (.t 9)),
 oQ 7 (.alloc [.int .i64 0, .int .i64 0, .int .i64 0, .int .i64 0]),
 ⟨none, .store 4 (.t 7) (.t 11), none, none, []⟩])
 (.seq (.region 0 [oP 12 (.fieldAddr 0 (.t 7)),
 oQ 13 (.load false 1 (.t 12)),
 oP 14 (.bin .gtr (.t 13) (.c (.int .i64 0)))])
 (.cond (.t 14) (.region 0 [oP 15 (.move (.t 5)),
 oP 16 (.bin .add (.t 15) (.c (.int .i64 1))),
 oP 5 (.move (.t 16))])
 (.skip)))))
 (.region 0 [oP 17 (.bin .add (.t 9) (.c (.int .i64 1))),
 oP 9 (.move (.t 17))])))))))
 (.seq (.region 0 [oP 18 (.move (.t 5)),
 oP 4 (.move (.t 18))])
 (.ret))))⟩
/-- (almadraba/salt.house).buy -/
def f44 : AFn := ⟨22, [.tmp 2, .tmp 3],
 .seq (.region 0 [oQ 1 (.box (.t 0)),
 oP 2 (.move (.c (.int .i64 0))),
 oP 3 (.move (.c (.int .i64 0)))])
 (.seq (.seq (.region 0 [oQ 7 (.load true 4 (.t 1)),
 oQ 8 (.call 1 46 [(.t 7)])])
 (.cond (.t 8) (.seq (.region 0 [oP 2 (.move (.c (.int .i64 0))),
 oP 3 (.move (.c (.int .i64 0)))])
 (.ret))
 (.skip)))
 (.seq (.seq (.region 0 [oP 9 (.fieldAddr 3 (.t 1)),
 oQ 10 (.load false 1 (.t 9)),
 oP 11 (.lenS (.t 10)),
 oP 12 (.bin .eql (.t 11) (.c (.int .i64 4)))])
 (.cond (.t 12) (.seq (.region 0 [oP 2 (.move (.c (.int .i64 0))),
 oP 3 (.move (.c (.int .i64 2)))])
 (.ret))
 (.skip)))
 (.seq (.region 0 [oQ 14 (.load true 4 (.t 1)),
 oQ 15 (.call 1 59 [(.t 14), (.c (.int .i64 99))]),
 oQ 16 (.call 1 35 [(.t 15), (.c (.fn 60 [] []))]),
 oP 13 (.move (.t 16)),
 oP 17 (.extract (.t 13) 0),
 oP 18 (.extract (.t 13) 1),
 oP 19 (.extract (.t 13) 2),
 oP 4 (.move (.t 17)),
 oP 5 (.move (.t 18)),
 oP 6 (.move (.t 19))])
 (.seq (.region 0 [oP 20 (.move (.t 5)),
 oP 21 (.move (.t 6)),
 oP 2 (.move (.t 20)),
 oP 3 (.move (.t 21))])
 (.ret)))))⟩
/-- (almadraba/salt.house).valid -/
def f45 : AFn := ⟨46, [.tmp 2],
 .seq (.region 0 [oQ 1 (.box (.t 0)),
 oP 2 (.move (.c (.bool false)))])
 (.seq (.region 0 [oP 3 (.move (.c (.fn 61 [] [])))])
 (.seq (.region 0 [oP 6 (.mkFn 63 [] [(.t 1)]),
 oP 4 (.move (.t 6))])
 (.seq (.region 0 [oP 5 (.move (.c (.fn 64 [] [])))])
 (.seq (.region 0 [oP 7 (.fieldAddr 0 (.t 1)),
 oQ 8 (.load false 1 (.t 7)),
 oP 9 (.lenS (.t 8)),
 oP 10 (.bin .leq (.t 9) (.c (.int .i64 3))),
 oP 11 (.move (.t 10)),
 oG 12 11 true (.fieldAddr 0 (.t 1)),
 ⟨(some 13), .load false 1 (.t 12), (some (11, true)), none, []⟩,
 oG 14 11 true (.move (.t 3)),
 ⟨(some 15), .call 3 65 [(.t 13), (.t 14)], (some (11, true)), none, []⟩,
 oP 16 (.pick (.t 11) (.t 15) (.c (.bool false))),
 oP 17 (.move (.t 16)),
 oG 18 17 true (.fieldAddr 1 (.t 1)),
 ⟨(some 19), .load false 1 (.t 18), (some (17, true)), none, []⟩,
 ⟨(some 20), .call 1 62 [(.t 19), (.c (.int .i64 0)), (.c (.int .i64 9))], (some (17, true)), none, []⟩,
 oP 21 (.pick (.t 17) (.t 20) (.c (.bool false))),
 oP 22 (.move (.t 21)),
 oG 23 22 true (.fieldAddr 2 (.t 1)),
 ⟨(some 24), .load false 1 (.t 23), (some (22, true)), none, []⟩,
 oG 25 22 true (.lenS (.t 24)),
 oG 26 22 true (.bin .leq (.t 25) (.c (.int .i64 6))),
 oP 27 (.pick (.t 22) (.t 26) (.c (.bool false))),
 oP 28 (.move (.t 27)),
 oG 29 28 true (.fieldAddr 2 (.t 1)),
 ⟨(some 30), .load false 1 (.t 29), (some (28, true)), none, []⟩,
 oG 31 28 true (.move (.t 4)),
 ⟨(some 32), .call 3 66 [(.t 30), (.t 31)], (some (28, true)), none, []⟩,
 oP 33 (.pick (.t 28) (.t 32) (.c (.bool false))),
 oP 34 (.move (.t 33)),
 oG 35 34 true (.fieldAddr 3 (.t 1)),
 ⟨(some 36), .load false 1 (.t 35), (some (34, true)), none, []⟩,
 oG 37 34 true (.lenS (.t 36)),
 oG 38 34 true (.bin .leq (.t 37) (.c (.int .i64 4))),
 oP 39 (.pick (.t 34) (.t 38) (.c (.bool false))),
 oP 40 (.move (.t 39)),
 oG 41 40 true (.fieldAddr 3 (.t 1)),
 ⟨(some 42), .load false 1 (.t 41), (some (40, true)), none, []⟩,
 oG 43 40 true (.move (.t 5)),
 ⟨(some 44), .call 3 67 [(.t 42), (.t 43)], (some (40, true)), none, []⟩,
 oP 45 (.pick (.t 40) (.t 44) (.c (.bool false))),
 oP 2 (.move (.t 45))])
 (.ret)))))⟩
/-- (almadraba/salt.house).can -/
def f46 : AFn := ⟨7, [.cell false 1 2],
 .seq (.region 0 [oQ 1 (.box (.t 0)),
 oQ 2 (.alloc [.bool false])])
 (.seq (.seq (.region 0 [oQ 3 (.load true 4 (.t 1)),
 oP 4 (.mkFn 47 [(.t 3)] [])])
 (.block 0 (.rangeFunc (.t 4) [5, 6] (.skip)
 (.block 1 (.seq (.region 0 [⟨none, .store 1 (.t 2) (.c (.bool true)), none, none, []⟩])
 (.ret))))))
 (.seq (.region 0 [⟨none, .store 1 (.t 2) (.c (.bool false)), none, none, []⟩])
 (.ret)))⟩
/-- (almadraba/salt.house).packings -/
def f47 : AFn := ⟨12, [],
 .seq (.region 0 [oQ 2 (.box (.t 0))])
 (.region 1 [⟨(some 4), .load true 4 (.t 2), none, none, [0]⟩,
 oP 5 (.fieldAddr 2 (.t 2)),
 ⟨(some 6), .load false 1 (.t 5), none, none, [0]⟩,
 oP 7 (.lenS (.t 6)),
 ⟨(some 8), .makeSlice true 1 8 [.int .i64 0] (.c (.int .i64 0)) (.t 7), none, (some 0), []⟩,
 oP 9 (.build [.int .i64 0, .int .i64 0, .int .i64 0, .int .i64 0, .int .i64 0, .int .i64 0, .int .i64 0, .int .i64 0, .int .i64 0, .int .i64 0, .int .i64 0, .int .i64 0, .int .i64 0, .int .i64 0, .int .i64 0, .int .i64 0] []),
 oP 10 (.move (.t 1)),
 oQ 11 (.call 0 68 [(.t 4), (.t 8), (.t 9), (.t 10)])])⟩
/-- (almadraba/salt.house).saltOf -/
def f48 : AFn := ⟨18, [.tmp 4],
 .seq (.region 0 [oQ 2 (.box (.t 0)),
 oQ 3 (.box (.t 1)),
 oP 4 (.move (.c (.int .i64 0)))])
 (.seq (.seq (.region 0 [oP 5 (.fieldAddr 0 (.t 3)),
 oQ 6 (.load false 1 (.t 5)),
 oP 7 (.bin .eql (.t 6) (.c (.int .i64 0)))])
 (.cond (.t 7) (.seq (.region 0 [oP 4 (.move (.c (.int .i64 0)))])
 (.ret))
 (.skip)))
 (.seq (.region 0 [oP 8 (.fieldAddr 1 (.t 2)),
 oQ 9 (.load false 1 (.t 8)),
 oP 10 (.fieldAddr 1 (.t 3)),
 oQ 11 (.load false 1 (.t 10)),
 oP 12 (.fieldAddr 2 (.t 3)),
 oQ 13 (.load false 1 (.t 12)),
 oP 14 (.bin .mul (.t 11) (.t 13)),
 oP 15 (.bin .add (.t 14) (.c (.int .i64 9))),
 oP 16 (.bin .quo (.t 15) (.c (.int .i64 10))),
 oP 17 (.bin .add (.t 9) (.t 16)),
 oP 4 (.move (.t 17))])
 (.ret)))⟩
/-- (almadraba/cuts.table).valid -/
def f49 : AFn := ⟨55, [.tmp 2],
 .seq (.region 0 [oP 2 (.move (.c (.bool false)))])
 (.seq (.seq (.region 0 [oP 6 (.move (.t 0)),
 oP 7 (.lenS (.t 6)),
 oP 8 (.bin .gtr (.t 7) (.c (.int .i64 8)))])
 (.cond (.t 8) (.seq (.region 0 [oP 2 (.move (.c (.bool false)))])
 (.ret))
 (.skip)))
 (.seq (.seq (.region 0 [oP 9 (.move (.t 0)),
 oP 10 (.lenS (.t 9)),
 oP 11 (.move (.c (.int .i64 0)))])
 (.block 0 (.loop (.seq (.region 0 [oP 12 (.bin .lss (.t 11) (.t 10))])
 (.seq (.cond (.t 12) (.skip)
 (.exit 0))
 (.seq (.block 1 (.seq (.region 0 [oP 13 (.move (.t 11)),
 oP 14 (.idxSl 6 (.t 9) (.t 11)),
 oQ 15 (.load true 6 (.t 14)),
 oQ 4 (.alloc [.int .i64 0, .int .i64 0, .int .i64 0, .int .i64 0, .int .i64 0, .int .i64 0]),
 oP 3 (.move (.t 13)),
 ⟨none, .store 6 (.t 4) (.t 15), none, none, []⟩])
 (.seq (.region 0 [oP 16 (.fieldAddr 0 (.t 4)),
 oQ 17 (.load false 1 (.t 16)),
 oP 18 (.bin .eql (.t 17) (.c (.int .i64 (-1)))),
 oP 19 (.move (.t 18)),
 oG 20 19 false (.fieldAddr 0 (.t 4)),
 ⟨(some 21), .load false 1 (.t 20), (some (19, false)), none, []⟩,
 oG 22 19 false (.bin .leq (.c (.int .i64 0)) (.t 21)),
 oG 23 19 false (.move (.t 22)),
 oG 24 23 true (.fieldAddr 0 (.t 4)),
 ⟨(some 25), .load false 1 (.t 24), (some (23, true)), none, []⟩,
 oG 26 23 true (.move (.t 3)),
 oG 27 23 true (.bin .lss (.t 25) (.t 26)),
 oG 28 19 false (.pick (.t 23) (.t 27) (.c (.bool false))),
 oP 29 (.pick (.t 19) (.c (.bool true)) (.t 28)),
 oP 5 (.move (.t 29))])
 (.seq (.region 0 [oP 30 (.move (.t 5)),
 oP 31 (.un .not (.t 30)),
 oP 32 (.move (.t 31)),
 oG 33 32 false (.fieldAddr 1 (.t 4)),
 ⟨(some 34), .load true 2 (.t 33), (some (32, false)), none, []⟩,
 ⟨(some 35), .call 1 69 [(.t 34)], (some (32, false)), none, []⟩,
 oG 36 32 false (.un .not (.t 35)),
 oP 37 (.pick (.t 32) (.c (.bool true)) (.t 36)),
 oP 38 (.move (.t 37)),
 oG 39 38 false (.fieldAddr 3 (.t 4)),
 ⟨(some 40), .load true 2 (.t 39), (some (38, false)), none, []⟩,
 ⟨(some 41), .call 1 69 [(.t 40)], (some (38, false)), none, []⟩,
 oG 42 38 false (.un .not (.t 41)),
 oP 43 (.pick (.t 38) (.c (.bool true)) (.t 42)),
 oP 44 (.move (.t 43)),
 oG 45 44 false (.fieldAddr 5 (.t 4)),
 ⟨(some 46), .load false 1 (.t 45), (some (44, false)), none, []⟩,
 oG 47 44 false (.bin .lss (.t 46) (.c (.int .i64 0))),
 oP 48 (.pick (.t 44) (.c (.bool true)) (.t 47)),
 oP 49 (.move (.t 48)),
 oG 50 49 false (.fieldAddr 5 (.t 4)),
 ⟨(some 51), .load false 1 (.t 50), (some (49, false)), none, []⟩,
 oG 52 49 false (.bin .gtr (.t 51) (.c (.int .i64 99))),
 oP 53 (.pick (.t 49) (.c (.bool true)) (.t 52))])
 (.cond (.t 53) (.seq (.region 0 [oP 2 (.move (.c (.bool false)))])
 (.ret))
 (.skip))))))
 (.region 0 [oP 54 (.bin .add (.t 11) (.c (.int .i64 1))),
 oP 11 (.move (.t 54))])))))))
 (.seq (.region 0 [oP 2 (.move (.c (.bool true)))])
 (.ret))))⟩
/-- almadraba/cuts.free -/
def f50 : AFn := ⟨16, [.cell true 31 2],
 .seq (.region 0 [oQ 1 (.box (.t 0)),
 oQ 2 (.alloc [.int .i64 0, .int .i64 0, .int .i64 0, .int .i64 0, .int .i64 0, .int .i64 0, .int .i64 0, .int .i64 0, .int .i64 0, .int .i64 0, .int .i64 0, .int .i64 0, .int .i64 0, .int .i64 0, .int .i64 0, .int .i64 0, .int .i64 0, .int .i64 0, .int .i64 0, .int .i64 0, .int .i64 0, .int .i64 0, .int .i64 0, .int .i64 0, .int .i64 0, .int .i64 0, .int .i64 0, .int .i64 0, .int .i64 0, .int .i64 0, .int .i64 0])])
 (.seq (.region 0 [oQ 3 (.alloc [.int .i64 0, .int .i64 0, .int .i64 0, .int .i64 0, .int .i64 0, .int .i64 0, .int .i64 0, .int .i64 0, .int .i64 0, .int .i64 0, .int .i64 0, .int .i64 0, .int .i64 0, .int .i64 0, .int .i64 0, .int .i64 0, .int .i64 0, .int .i64 0, .int .i64 0, .int .i64 0, .int .i64 0, .int .i64 0, .int .i64 0, .int .i64 0, .int .i64 0, .int .i64 0, .int .i64 0, .int .i64 0, .int .i64 0, .int .i64 0, .int .i64 0])])
 (.seq (.seq (.region 0 [oP 5 (.move (.c (.int .i64 0)))])
 (.block 0 (.loop (.seq (.region 0 [oP 6 (.bin .lss (.t 5) (.c (.int .i64 31)))])
 (.seq (.cond (.t 6) (.skip)
 (.exit 0))
 (.seq (.block 1 (.seq (.region 0 [oP 7 (.move (.t 5)),
 oP 4 (.move (.t 7))])
 (.seq (.region 0 [oQ 8 (.load true 2 (.t 1)),
 oP 9 (.move (.t 4)),
 oQ 10 (.call 1 70 [(.t 8), (.t 9)]),
 oP 11 (.un .not (.t 10))])
 (.cond (.t 11) (.region 0 [oP 12 (.move (.t 4)),
 oP 13 (.idxArr 31 1 (.t 3) (.t 12)),
 ⟨none, .store 1 (.t 13) (.c (.int .i64 9223372036854775807)), none, none, []⟩])
 (.skip)))))
 (.region 0 [oP 14 (.bin .add (.t 5) (.c (.int .i64 1))),
 oP 5 (.move (.t 14))])))))))
 (.seq (.region 0 [oQ 15 (.load true 31 (.t 3)),
 ⟨none, .store 31 (.t 2) (.t 15), none, none, []⟩])
 (.ret))))⟩
/-- (almadraba/cuts.table).waste -/
def f51 : AFn := ⟨14, [.cell true 2 4],
 .seq (.region 0 [oQ 4 (.alloc [.int .i64 0, .int .i64 0])])
 (.seq (.seq (.region 0 [oP 5 (.move (.t 0)),
 oP 6 (.move (.t 1)),
 oQ 7 (.call 1 71 [(.t 5), (.t 6)])])
 (.cond (.t 7) (.seq (.region 0 [oP 8 (.move (.t 0)),
 oP 9 (.move (.t 1)),
 oP 10 (.idxSl 6 (.t 8) (.t 9)),
 oP 11 (.fieldAddr 3 (.t 10)),
 oQ 12 (.load true 2 (.t 11)),
 ⟨none, .store 2 (.t 4) (.t 12), none, none, []⟩])
 (.ret))
 (.skip)))
 (.seq (.region 0 [oP 13 (.build [.int .i64 0, .int .i64 0] [(1, 1, (.c (.int .i64 30)))]),
 ⟨none, .store 2 (.t 4) (.t 13), none, none, []⟩])
 (.ret)))⟩
/-- slices.Backward[almadraba/cuts.table,almadraba/api.CutPart] -/
def f52 : AFn := ⟨4, [.tmp 2],
 .seq (.region 0 [oQ 1 (.box (.t 0)),
 oP 2 (.move (.c (.nilf)))])
 (.seq (.region 0 [oP 3 (.mkFn 72 [] [(.t 1)]),
 oP 2 (.move (.t 3))])
 (.ret))⟩
/-- (almadraba/cuts.costs).with -/
def f53 : AFn := ⟨23, [.cell true 31 6],
 .seq (.region 0 [oQ 3 (.box (.t 0)),
 oQ 6 (.alloc [.int .i64 0, .int .i64 0, .int .i64 0, .int .i64 0, .int .i64 0, .int .i64 0, .int .i64 0, .int .i64 0, .int .i64 0, .int .i64 0, .int .i64 0, .int .i64 0, .int .i64 0, .int .i64 0, .int .i64 0, .int .i64 0, .int .i64 0, .int .i64 0, .int .i64 0, .int .i64 0, .int .i64 0, .int .i64 0, .int .i64 0, .int .i64 0, .int .i64 0, .int .i64 0, .int .i64 0, .int .i64 0, .int .i64 0, .int .i64 0, .int .i64 0])])
 (.seq (.seq (.region 0 [oP 8 (.move (.c (.int .i64 0)))])
 (.block 0 (.loop (.seq (.region 0 [oP 9 (.bin .lss (.t 8) (.c (.int .i64 31)))])
 (.seq (.cond (.t 9) (.skip)
 (.exit 0))
 (.seq (.block 1 (.seq (.region 0 [oP 10 (.move (.t 8)),
 oP 7 (.move (.t 10))])
 (.region 0 [oP 11 (.move (.t 7)),
 oP 12 (.move (.t 7)),
 oP 13 (.idxArr 31 1 (.t 3) (.t 12)),
 oQ 14 (.load false 1 (.t 13)),
 oP 15 (.move (.t 2)),
 oP 16 (.move (.t 1)),
 oP 17 (.move (.t 7)),
 oQ 18 (.callv true (.t 15) [(.t 16), (.t 17)]),
 oQ 19 (.call 1 54 [(.t 14), (.t 18)]),
 oP 20 (.idxArr 31 1 (.t 3) (.t 11)),
 ⟨none, .store 1 (.t 20) (.t 19), none, none, []⟩])))
 (.region 0 [oP 21 (.bin .add (.t 8) (.c (.int .i64 1))),
 oP 8 (.move (.t 21))])))))))
 (.seq (.region 0 [oQ 22 (.load true 31 (.t 3)),
 ⟨none, .store 31 (.t 6) (.t 22), none, none, []⟩])
 (.ret)))⟩
/-- almadraba/cuts.plus -/
def f54 : AFn := ⟨14, [.tmp 4],
 .seq (.region 0 [oP 4 (.move (.c (.int .i64 0)))])
 (.seq (.seq (.region 0 [oP 5 (.move (.t 0)),
 oP 6 (.bin .eql (.t 5) (.c (.int .i64 9223372036854775807))),
 oP 7 (.move (.t 6)),
 oG 8 7 false (.move (.t 1)),
 oG 9 7 false (.bin .eql (.t 8) (.c (.int .i64 9223372036854775807))),
 oP 10 (.pick (.t 7) (.c (.bool true)) (.t 9))])
 (.cond (.t 10) (.seq (.region 0 [oP 4 (.move (.c (.int .i64 9223372036854775807)))])
 (.ret))
 (.skip)))
 (.seq (.region 0 [oP 11 (.move (.t 0)),
 oP 12 (.move (.t 1)),
 oP 13 (.bin .add (.t 11) (.t 12)),
 oP 4 (.move (.t 13))])
 (.ret)))⟩
/-- slices.Min[[]int,int] -/
def f55 : AFn := ⟨25, [.tmp 2],
 .seq (.region 0 [oP 2 (.move (.c (.int .i64 0)))])
 (.seq (.seq (.region 0 [oP 5 (.move (.t 0)),
 oP 6 (.lenS (.t 5)),
 oP 7 (.bin .lss (.t 6) (.c (.int .i64 1)))])
 (.cond (.t 7) (.region 0 [oP 8 (.bad),
 ⟨none, .p (.bad), none, none, []⟩])
 (.skip)))
 (.seq (.region 0 [oP 9 (.move (.t 0)),
 oP 10 (.idxSl 1 (.t 9) (.c (.int .i64 0))),
 oQ 11 (.load false 1 (.t 10)),
 oP 3 (.move (.t 11))])
 (.seq (.seq (.region 0 [oP 4 (.move (.c (.int .i64 1)))])
 (.block 0 (.loop (.seq (.seq (.region 0 [oP 12 (.move (.t 4)),
 oP 13 (.move (.t 0)),
 oP 14 (.lenS (.t 13)),
 oP 15 (.bin .lss (.t 12) (.t 14))])
 (.cond (.t 15) (.skip)
 (.exit 0)))
 (.seq (.block 1 (.region 0 [oP 18 (.move (.t 3)),
 oP 19 (.move (.t 0)),
 oP 20 (.move (.t 4)),
 oP 21 (.idxSl 1 (.t 19) (.t 20)),
 oQ 22 (.load false 1 (.t 21)),
 oP 23 (.minmax false (.t 18) [(.t 22)]),
 oP 3 (.move (.t 23))]))
 (.region 0 [oP 16 (.move (.t 4)),
 oP 17 (.bin .add (.t 16) (.c (.int .i64 1))),
 oP 4 (.move (.t 17))]))))))
 (.seq (.region 0 [oP 24 (.move (.t 3)),
 oP 2 (.move (.t 24))])
 (.ret)))))⟩
/-- (almadraba/cuts.costs).beside -/
def f56 : AFn := ⟨42, [.cell true 31 4],
 .seq (.region 0 [oQ 2 (.box (.t 0)),
 oQ 3 (.box (.t 1)),
 oQ 4 (.alloc [.int .i64 0, .int .i64 0, .int .i64 0, .int .i64 0, .int .i64 0, .int .i64 0, .int .i64 0, .int .i64 0, .int .i64 0, .int .i64 0, .int .i64 0, .int .i64 0, .int .i64 0, .int .i64 0, .int .i64 0, .int .i64 0, .int .i64 0, .int .i64 0, .int .i64 0, .int .i64 0, .int .i64 0, .int .i64 0, .int .i64 0, .int .i64 0, .int .i64 0, .int .i64 0, .int .i64 0, .int .i64 0, .int .i64 0, .int .i64 0, .int .i64 0])])
 (.seq (.region 0 [oP 10 (.build [.int .i64 0, .int .i64 0] [(1, 1, (.c (.int .i64 (-1))))]),
 oQ 11 (.call 1 50 [(.t 10)]),
 oQ 5 (.alloc [.int .i64 0, .int .i64 0, .int .i64 0, .int .i64 0, .int .i64 0, .int .i64 0, .int .i64 0, .int .i64 0, .int .i64 0, .int .i64 0, .int .i64 0, .int .i64 0, .int .i64 0, .int .i64 0, .int .i64 0, .int .i64 0, .int .i64 0, .int .i64 0, .int .i64 0, .int .i64 0, .int .i64 0, .int .i64 0, .int .i64 0, .int .i64 0, .int .i64 0, .int .i64 0, .int .i64 0, .int .i64 0, .int .i64 0, .int .i64 0, .int .i64 0]),
 ⟨none, .store 31 (.t 5) (.t 11), none, none, []⟩])
 (.seq (.seq (.region 0 [oQ 12 (.load true 31 (.t 2)),
 oP 13 (.move (.c (.int .i64 0)))])
 (.block 0 (.loop (.seq (.region 0 [oP 14 (.bin .lss (.t 13) (.c (.int .i64 31)))])
 (.seq (.cond (.t 14) (.skip)
 (.exit 0))
 (.seq (.block 1 (.seq (.region 0 [oP 15 (.move (.t 13)),
 oP 16 (.idx false 31 1 (.t 12) (.t 13)),
 oP 6 (.move (.t 15)),
 oP 7 (.move (.t 16))])
 (.seq (.region 0 [oP 17 (.move (.t 6)),
 oP 18 (.bin .sub (.c (.int .i64 31)) (.t 17)),
 oQ 19 (.sliceA 31 1 (.t 3) (some ((.t 18), none))),
 oP 20 (.lenS (.t 19)),
 oP 21 (.move (.c (.int .i64 0)))])
 (.block 2 (.loop (.seq (.region 0 [oP 22 (.bin .lss (.t 21) (.t 20))])
 (.seq (.cond (.t 22) (.skip)
 (.exit 2))
 (.seq (.block 3 (.seq (.region 0 [oP 23 (.move (.t 21)),
 oP 24 (.idxSl 1 (.t 19) (.t 21)),
 oQ 25 (.load false 1 (.t 24)),
 oP 8 (.move (.t 23)),
 oP 9 (.move (.t 25))])
 (.region 0 [oP 26 (.move (.t 6)),
 oP 27 (.move (.t 8)),
 oP 28 (.bin .add (.t 26) (.t 27)),
 oP 29 (.move (.t 6)),
 oP 30 (.move (.t 8)),
 oP 31 (.bin .add (.t 29) (.t 30)),
 oP 32 (.idxArr 31 1 (.t 5) (.t 31)),
 oQ 33 (.load false 1 (.t 32)),
 oP 34 (.move (.t 7)),
 oP 35 (.move (.t 9)),
 oQ 36 (.call 1 54 [(.t 34), (.t 35)]),
 oP 37 (.minmax false (.t 33) [(.t 36)]),
 oP 38 (.idxArr 31 1 (.t 5) (.t 28)),
 ⟨none, .store 1 (.t 38) (.t 37), none, none, []⟩])))
 (.region 0 [oP 39 (.bin .add (.t 21) (.c (.int .i64 1))),
 oP 21 (.move (.t 39))])))))))))
 (.region 0 [oP 40 (.bin .add (.t 13) (.c (.int .i64 1))),
 oP 13 (.move (.t 40))])))))))
 (.seq (.region 0 [oQ 41 (.load true 31 (.t 5)),
 ⟨none, .store 31 (.t 4) (.t 41), none, none, []⟩])
 (.ret))))⟩
/-- (almadraba/cuts.table).truths$1 -/
def f57 : AFn := ⟨16, [.tmp 6],
 .seq (.region 0 [oP 6 (.move (.c (.int .i64 0)))])
 (.seq (.seq (.region 0 [oQ 7 (.load false 1 (.t 2)),
 oP 8 (.move (.t 0)),
 oP 9 (.move (.t 1)),
 oQ 10 (.call 1 58 [(.t 7), (.t 8), (.t 9)]),
 oP 11 (.bin .gtr (.t 10) (.c (.int .i64 0)))])
 (.cond (.t 11) (.seq (.region 0 [oP 6 (.move (.c (.int .i64 9223372036854775807)))])
 (.ret))
 (.skip)))
 (.seq (.region 0 [oQ 12 (.load false 1 (.t 3)),
 oP 13 (.move (.t 0)),
 oP 14 (.move (.t 1)),
 oQ 15 (.callv true (.t 12) [(.t 13), (.t 14)]),
 oP 6 (.move (.t 15))])
 (.ret)))⟩
/-- (almadraba/cuts.table).away -/
def f58 : AFn := ⟨22, [.tmp 6],
 .seq (.region 0 [oP 6 (.move (.c (.int .i64 0)))])
 (.seq (.region 0 [oP 8 (.move (.t 0)),
 oP 9 (.move (.t 1)),
 oP 10 (.idxSl 6 (.t 8) (.t 9)),
 oP 11 (.fieldAddr 1 (.t 10)),
 oQ 12 (.load true 2 (.t 11)),
 oQ 7 (.alloc [.int .i64 0, .int .i64 0]),
 ⟨none, .store 2 (.t 7) (.t 12), none, none, []⟩])
 (.seq (.region 0 [oP 13 (.fieldAddr 0 (.t 7)),
 oQ 14 (.load false 1 (.t 13)),
 oP 15 (.move (.t 2)),
 oP 16 (.bin .sub (.t 14) (.t 15)),
 oP 17 (.move (.t 2)),
 oP 18 (.fieldAddr 1 (.t 7)),
 oQ 19 (.load false 1 (.t 18)),
 oP 20 (.bin .sub (.t 17) (.t 19)),
 oP 21 (.minmax true (.t 16) [(.t 20), (.c (.int .i64 0))]),
 oP 6 (.move (.t 21))])
 (.ret)))⟩
/-- (almadraba/salt.house).withBarrel -/
def f59 : AFn := ⟨13, [.cell true 4 4],
 .seq (.region 0 [oQ 2 (.box (.t 0)),
 oQ 4 (.alloc [.nils, .int .i64 0, .nils, .nils])])
 (.seq (.region 0 [oP 5 (.fieldAddr 3 (.t 2)),
 oQ 6 (.load false 1 (.t 5)),
 oQ 7 (.call 2 73 [(.t 6)]),
 oP 8 (.move (.t 1)),
 oQ 9 (.litS 1 1 [.int .i64 0] [(0, (.t 8))]),
 oQ 10 (.append false 1 8 (.t 7) (.t 9)),
 oP 11 (.fieldAddr 3 (.t 2)),
 ⟨none, .store 1 (.t 11) (.t 10), none, none, []⟩])
 (.seq (.region 0 [oQ 12 (.load true 4 (.t 2)),
 ⟨none, .store 4 (.t 4) (.t 12), none, none, []⟩])
 (.ret)))⟩
/-- (almadraba/salt.house).last -/
def f60 : AFn := ⟨13, [.tmp 4],
 .seq (.region 0 [oQ 2 (.box (.t 0)),
 oQ 3 (.box (.t 1)),
 oP 4 (.move (.c (.int .i64 0)))])
 (.seq (.region 0 [oQ 5 (.load true 4 (.t 2)),
 oP 6 (.fieldAddr 3 (.t 2)),
 oQ 7 (.load false 1 (.t 6)),
 oP 8 (.lenS (.t 7)),
 oP 9 (.bin .sub (.t 8) (.c (.int .i64 1))),
 oP 10 (.idxArr 4 4 (.t 3) (.t 9)),
 oQ 11 (.load true 4 (.t 10)),
 oQ 12 (.call 1 74 [(.t 5), (.t 11)]),
 oP 4 (.move (.t 12))])
 (.ret))⟩
/-- (almadraba/salt.house).valid$1 -/
def f61 : AFn := ⟨11, [.tmp 2],
 .seq (.region 0 [oQ 1 (.box (.t 0)),
 oP 2 (.move (.c (.bool false)))])
 (.seq (.region 0 [oP 3 (.fieldAddr 0 (.t 1)),
 oQ 4 (.load false 1 (.t 3)),
 oQ 5 (.call 1 62 [(.t 4), (.c (.int .i64 0)), (.c (.int .i64 9))]),
 oP 6 (.move (.t 5)),
 oG 7 6 true (.fieldAddr 1 (.t 1)),
 ⟨(some 8), .load false 1 (.t 7), (some (6, true)), none, []⟩,
 ⟨(some 9), .call 1 62 [(.t 8), (.c (.int .i64 0)), (.c (.int .i64 20))], (some (6, true)), none, []⟩,
 oP 10 (.pick (.t 6) (.t 9) (.c (.bool false))),
 oP 2 (.move (.t 10))])
 (.ret))⟩
/-- almadraba/salt.within -/
def f62 : AFn := ⟨15, [.tmp 6],
 .seq (.region 0 [oP 6 (.move (.c (.bool false)))])
 (.seq (.region 0 [oP 7 (.move (.t 1)),
 oP 8 (.move (.t 0)),
 oP 9 (.bin .leq (.t 7) (.t 8)),
 oP 10 (.move (.t 9)),
 oG 11 10 true (.move (.t 0)),
 oG 12 10 true (.move (.t 2)),
 oG 13 10 true (.bin .leq (.t 11) (.t 12)),
 oP 14 (.pick (.t 10) (.t 13) (.c (.bool false))),
 oP 6 (.move (.t 14))])
 (.ret))⟩
/-- (almadraba/salt.house).valid$2 -/
def f63 : AFn := ⟨16, [.tmp 3],
 .seq (.region 0 [oQ 2 (.box (.t 0)),
 oP 3 (.move (.c (.bool false)))])
 (.seq (.region 0 [oP 4 (.fieldAddr 0 (.t 2)),
 oQ 5 (.load false 1 (.t 4)),
 oP 6 (.fieldAddr 0 (.t 1)),
 oQ 7 (.load false 1 (.t 6)),
 oP 8 (.lenS (.t 7)),
 oP 9 (.bin .sub (.t 8) (.c (.int .i64 1))),
 oQ 10 (.call 1 62 [(.t 5), (.c (.int .i64 0)), (.t 9)]),
 oP 11 (.move (.t 10)),
 oG 12 11 true (.fieldAddr 1 (.t 2)),
 ⟨(some 13), .load false 1 (.t 12), (some (11, true)), none, []⟩,
 ⟨(some 14), .call 1 62 [(.t 13), (.c (.int .i64 0)), (.c (.int .i64 40))], (some (11, true)), none, []⟩,
 oP 15 (.pick (.t 11) (.t 14) (.c (.bool false))),
 oP 3 (.move (.t 15))])
 (.ret))⟩
/-- (almadraba/salt.house).valid$3 -/
def f64 : AFn := ⟨5, [.tmp 2],
 .seq (.region 0 [oP 2 (.move (.c (.bool false)))])
 (.seq (.region 0 [oP 3 (.move (.t 0)),
 oQ 4 (.call 1 62 [(.t 3), (.c (.int .i64 0)), (.c (.int .i64 99))]),
 oP 2 (.move (.t 4))])
 (.ret))⟩
/-- almadraba/salt.each[almadraba/api.SaltKind] -/
def f65 : AFn := ⟨9, [.tmp 4],
 .seq (.region 0 [oQ 3 (.box (.t 1)),
 oP 4 (.move (.c (.bool false)))])
 (.seq (.region 0 [oP 5 (.move (.t 0)),
 oP 6 (.mkFn 76 [] [(.t 3)]),
 oQ 7 (.call 3 75 [(.t 5), (.t 6)]),
 oP 8 (.un .not (.t 7)),
 oP 4 (.move (.t 8))])
 (.ret))⟩
/-- almadraba/salt.each[almadraba/api.SaltPart] -/
def f66 : AFn := ⟨9, [.tmp 4],
 .seq (.region 0 [oQ 3 (.box (.t 1)),
 oP 4 (.move (.c (.bool false)))])
 (.seq (.region 0 [oP 5 (.move (.t 0)),
 oP 6 (.mkFn 78 [] [(.t 3)]),
 oQ 7 (.call 3 77 [(.t 5), (.t 6)]),
 oP 8 (.un .not (.t 7)),
 oP 4 (.move (.t 8))])
 (.ret))⟩
/-- almadraba/salt.each[int] -/
def f67 : AFn := ⟨9, [.tmp 4],
 .seq (.region 0 [oQ 3 (.box (.t 1)),
 oP 4 (.move (.c (.bool false)))])
 (.seq (.region 0 [oP 5 (.move (.t 0)),
 oP 6 (.mkFn 80 [] [(.t 3)]),
 oQ 7 (.call 3 79 [(.t 5), (.t 6)]),
 oP 8 (.un .not (.t 7)),
 oP 4 (.move (.t 8))])
 (.ret))⟩
/-- (almadraba/salt.house).longer -/
def f68 : AFn := ⟨51, [.tmp 8],
 .seq (.region 0 [oQ 4 (.box (.t 0)),
 oQ 6 (.box (.t 2)),
 oP 8 (.move (.c (.bool false)))])
 (.seq (.region 0 [oP 13 (.move (.t 1)),
 oP 14 (.lenS (.t 13)),
 oP 9 (.move (.t 14))])
 (.seq (.seq (.region 0 [oP 15 (.move (.t 9)),
 oP 16 (.fieldAddr 2 (.t 4)),
 oQ 17 (.load false 1 (.t 16)),
 oP 18 (.lenS (.t 17)),
 oP 19 (.bin .eql (.t 15) (.t 18))])
 (.cond (.t 19) (.seq (.region 0 [oP 20 (.move (.t 3)),
 oP 21 (.move (.t 1)),
 oQ 22 (.load true 16 (.t 6)),
 oQ 23 (.callv false (.t 20) [(.t 21), (.t 22)]),
 oP 8 (.move (.t 23))])
 (.ret))
 (.skip)))
 (.seq (.seq (.region 0 [oP 24 (.fieldAddr 3 (.t 4)),
 oQ 25 (.load false 1 (.t 24)),
 oP 26 (.lenS (.t 25)),
 oP 27 (.move (.c (.int .i64 0)))])
 (.block 0 (.loop (.seq (.region 0 [oP 28 (.bin .lss (.t 27) (.t 26))])
 (.seq (.cond (.t 28) (.skip)
 (.exit 0))
 (.seq (.block 1 (.seq (.region 0 [oP 29 (.move (.t 27)),
 oP 10 (.move (.t 29))])
 (.seq (.region 0 [oQ 31 (.load true 4 (.t 4)),
 oQ 32 (.load true 16 (.t 6)),
 oP 33 (.move (.t 9)),
 oP 34 (.move (.t 10)),
 oQ 35 (.call 1 81 [(.t 31), (.t 32), (.t 33), (.t 34)]),
 oP 30 (.move (.t 35)),
 oP 36 (.extract (.t 30) 0),
 oP 37 (.extract (.t 30) 1),
 oQ 11 (.alloc [.int .i64 0, .int .i64 0, .int .i64 0, .int .i64 0, .int .i64 0, .int .i64 0, .int .i64 0, .int .i64 0, .int .i64 0, .int .i64 0, .int .i64 0, .int .i64 0, .int .i64 0, .int .i64 0, .int .i64 0, .int .i64 0]),
 ⟨none, .store 16 (.t 11) (.t 36), none, none, []⟩,
 oP 12 (.move (.t 37))])
 (.seq (.region 0 [oP 38 (.move (.t 12)),
 oP 39 (.move (.t 38)),
 ⟨(some 40), .loadN true 4 (.t 4) [1], (some (39, true)), none, []⟩,
 oG 41 39 true (.move (.t 1)),
 oG 42 39 true (.move (.t 10)),
 ⟨(some 43), .litS 1 1 [.int .i64 0] [(0, (.t 42))], (some (39, true)), none, []⟩,
 ⟨(some 44), .w (.app 1 (.t 41) (.t 43) (some 1)), (some (39, true)), none, []⟩,
 ⟨(some 45), .loadN true 16 (.t 11) [1], (some (39, true)), none, []⟩,
 oG 46 39 true (.move (.t 3)),
 ⟨(some 47), .call 0 68 [(.t 40), (.t 44), (.t 45), (.t 46)], (some (39, true)), none, []⟩,
 oG 48 39 true (.un .not (.t 47)),
 oP 49 (.pick (.t 39) (.t 48) (.c (.bool false)))])
 (.cond (.t 49) (.seq (.region 0 [oP 8 (.move (.c (.bool false)))])
 (.ret))
 (.skip))))))
 (.region 0 [oP 50 (.bin .add (.t 27) (.c (.int .i64 1))),
 oP 27 (.move (.t 50))])))))))
 (.seq (.region 0 [oP 8 (.move (.c (.bool true)))])
 (.ret)))))⟩
/-- almadraba/cuts.isSpan -/
def f69 : AFn := ⟨18, [.tmp 2],
 .seq (.region 0 [oQ 1 (.box (.t 0)),
 oP 2 (.move (.c (.bool false)))])
 (.seq (.region 0 [oP 3 (.fieldAddr 0 (.t 1)),
 oQ 4 (.load false 1 (.t 3)),
 oP 5 (.bin .leq (.c (.int .i64 0)) (.t 4)),
 oP 6 (.move (.t 5)),
 oG 7 6 true (.fieldAddr 0 (.t 1)),
 ⟨(some 8), .load false 1 (.t 7), (some (6, true)), none, []⟩,
 oG 9 6 true (.fieldAddr 1 (.t 1)),
 ⟨(some 10), .load false 1 (.t 9), (some (6, true)), none, []⟩,
 oG 11 6 true (.bin .leq (.t 8) (.t 10)),
 oP 12 (.pick (.t 6) (.t 11) (.c (.bool false))),
 oP 13 (.move (.t 12)),
 oG 14 13 true (.fieldAddr 1 (.t 1)),
 ⟨(some 15), .load false 1 (.t 14), (some (13, true)), none, []⟩,
 oG 16 13 true (.bin .leq (.t 15) (.c (.int .i64 30))),
 oP 17 (.pick (.t 13) (.t 16) (.c (.bool false))),
 oP 2 (.move (.t 17))])
 (.ret))⟩
/-- almadraba/cuts.within -/
def f70 : AFn := ⟨15, [.tmp 4],
 .seq (.region 0 [oQ 2 (.box (.t 0)),
 oP 4 (.move (.c (.bool false)))])
 (.seq (.region 0 [oP 5 (.fieldAddr 0 (.t 2)),
 oQ 6 (.load false 1 (.t 5)),
 oP 7 (.move (.t 1)),
 oP 8 (.bin .leq (.t 6) (.t 7)),
 oP 9 (.move (.t 8)),
 oG 10 9 true (.move (.t 1)),
 oG 11 9 true (.fieldAddr 1 (.t 2)),
 ⟨(some 12), .load false 1 (.t 11), (some (9, true)), none, []⟩,
 oG 13 9 true (.bin .leq (.t 10) (.t 12)),
 oP 14 (.pick (.t 9) (.t 13) (.c (.bool false))),
 oP 4 (.move (.t 14))])
 (.ret))⟩
/-- (almadraba/cuts.table).canCut -/
def f71 : AFn := ⟨8, [.tmp 4],
 .seq (.region 0 [oQ 3 (.box (.t 1)),
 oP 4 (.move (.c (.bool false)))])
 (.seq (.region 0 [oP 5 (.move (.t 0)),
 oP 6 (.mkFn 83 [] [(.t 3)]),
 oQ 7 (.call 3 82 [(.t 5), (.t 6)]),
 oP 4 (.move (.t 7))])
 (.ret))⟩
/-- slices.Backward[almadraba/cuts.table,almadraba/api.CutPart]$1 -/
def f72 : AFn := ⟨19, [],
 .seq (.region 0 [oQ 4 (.load false 1 (.t 1)),
 oP 5 (.lenS (.t 4)),
 oP 6 (.bin .sub (.t 5) (.c (.int .i64 1))),
 oP 3 (.move (.t 6))])
 (.block 0 (.loop (.seq (.seq (.region 0 [oP 7 (.move (.t 3)),
 oP 8 (.bin .geq (.t 7) (.c (.int .i64 0)))])
 (.cond (.t 8) (.skip)
 (.exit 0)))
 (.seq (.block 1 (.seq (.region 0 [oP 11 (.move (.t 0)),
 oP 12 (.move (.t 3)),
 oQ 13 (.load false 1 (.t 1)),
 oP 14 (.move (.t 3)),
 oP 15 (.idxSl 6 (.t 13) (.t 14)),
 oQ 16 (.load true 6 (.t 15)),
 oQ 17 (.callv false (.t 11) [(.t 12), (.t 16)]),
 oP 18 (.un .not (.t 17))])
 (.cond (.t 18) (.ret)
 (.skip))))
 (.region 0 [oP 9 (.move (.t 3)),
 oP 10 (.bin .sub (.t 9) (.c (.int .i64 1))),
 oP 3 (.move (.t 10))])))))⟩
/-- slices.Clone[[]int,int] -/
def f73 : AFn := ⟨8, [.tmp 2],
 .seq (.region 0 [oP 2 (.move (.c (.nils)))])
 (.seq (.seq (.region 0 [oP 3 (.move (.t 0)),
 oP 4 (.isNil (.t 3) (.c (.nils)))])
 (.cond (.t 4) (.seq (.region 0 [oP 2 (.move (.c (.nils)))])
 (.ret))
 (.skip)))
 (.seq (.region 0 [oQ 5 (.buildSlice 1 0 [.int .i64 0] []),
 oP 6 (.move (.t 0)),
 oQ 7 (.append false 1 8 (.t 5) (.t 6)),
 oP 2 (.move (.t 7))])
 (.ret)))⟩
/-- (almadraba/salt.house).needs -/
def f74 : AFn := ⟨11, [.tmp 4],
 .seq (.region 0 [oQ 2 (.box (.t 0)),
 oQ 3 (.box (.t 1)),
 oP 4 (.move (.c (.int .i64 0)))])
 (.seq (.region 0 [oP 5 (.fieldAddr 1 (.t 3)),
 oQ 6 (.load false 1 (.t 5)),
 oQ 7 (.load true 4 (.t 2)),
 oQ 8 (.load true 4 (.t 3)),
 oQ 9 (.call 1 48 [(.t 7), (.t 8)]),
 oP 10 (.bin .add (.t 6) (.t 9)),
 oP 4 (.move (.t 10))])
 (.ret))⟩
/-- slices.ContainsFunc[[]almadraba/api.SaltKind,almadraba/api.SaltKind] -/
def f75 : AFn := ⟨9, [.tmp 4],
 .seq (.region 0 [oP 4 (.move (.c (.bool false)))])
 (.seq (.region 0 [oP 5 (.move (.t 0)),
 oP 6 (.move (.t 1)),
 oQ 7 (.call 3 84 [(.t 5), (.t 6)]),
 oP 8 (.bin .geq (.t 7) (.c (.int .i64 0))),
 oP 4 (.move (.t 8))])
 (.ret))⟩
/-- almadraba/salt.each[almadraba/api.SaltKind]$1 -/
def f76 : AFn := ⟨8, [.tmp 3],
 .seq (.region 0 [oQ 2 (.box (.t 0)),
 oP 3 (.move (.c (.bool false)))])
 (.seq (.region 0 [oQ 4 (.load false 1 (.t 1)),
 oQ 5 (.load true 2 (.t 2)),
 oQ 6 (.callv true (.t 4) [(.t 5)]),
 oP 7 (.un .not (.t 6)),
 oP 3 (.move (.t 7))])
 (.ret))⟩
/-- slices.ContainsFunc[[]almadraba/api.SaltPart,almadraba/api.SaltPart] -/
def f77 : AFn := ⟨9, [.tmp 4],
 .seq (.region 0 [oP 4 (.move (.c (.bool false)))])
 (.seq (.region 0 [oP 5 (.move (.t 0)),
 oP 6 (.move (.t 1)),
 oQ 7 (.call 3 85 [(.t 5), (.t 6)]),
 oP 8 (.bin .geq (.t 7) (.c (.int .i64 0))),
 oP 4 (.move (.t 8))])
 (.ret))⟩
/-- almadraba/salt.each[almadraba/api.SaltPart]$1 -/
def f78 : AFn := ⟨8, [.tmp 3],
 .seq (.region 0 [oQ 2 (.box (.t 0)),
 oP 3 (.move (.c (.bool false)))])
 (.seq (.region 0 [oQ 4 (.load false 1 (.t 1)),
 oQ 5 (.load true 2 (.t 2)),
 oQ 6 (.callv true (.t 4) [(.t 5)]),
 oP 7 (.un .not (.t 6)),
 oP 3 (.move (.t 7))])
 (.ret))⟩
/-- slices.ContainsFunc[[]int,int] -/
def f79 : AFn := ⟨9, [.tmp 4],
 .seq (.region 0 [oP 4 (.move (.c (.bool false)))])
 (.seq (.region 0 [oP 5 (.move (.t 0)),
 oP 6 (.move (.t 1)),
 oQ 7 (.call 3 86 [(.t 5), (.t 6)]),
 oP 8 (.bin .geq (.t 7) (.c (.int .i64 0))),
 oP 4 (.move (.t 8))])
 (.ret))⟩
/-- almadraba/salt.each[int]$1 -/
def f80 : AFn := ⟨8, [.tmp 3],
 .seq (.region 0 [oP 3 (.move (.c (.bool false)))])
 (.seq (.region 0 [oQ 4 (.load false 1 (.t 1)),
 oP 5 (.move (.t 0)),
 oQ 6 (.callv true (.t 4) [(.t 5)]),
 oP 7 (.un .not (.t 6)),
 oP 3 (.move (.t 7))])
 (.ret))⟩
/-- (almadraba/salt.house).put -/
def f81 : AFn := ⟨31, [.cell true 16 8, .tmp 9],
 .seq (.region 0 [oQ 4 (.box (.t 0)),
 oQ 5 (.box (.t 1)),
 oQ 8 (.alloc [.int .i64 0, .int .i64 0, .int .i64 0, .int .i64 0, .int .i64 0, .int .i64 0, .int .i64 0, .int .i64 0, .int .i64 0, .int .i64 0, .int .i64 0, .int .i64 0, .int .i64 0, .int .i64 0, .int .i64 0, .int .i64 0]),
 oP 9 (.move (.c (.bool false)))])
 (.seq (.region 0 [oP 10 (.move (.t 3)),
 oQ 11 (.load true 4 (.t 4)),
 oP 12 (.move (.t 3)),
 oP 13 (.idxArr 4 4 (.t 5) (.t 12)),
 oQ 14 (.load true 4 (.t 13)),
 oP 15 (.move (.t 2)),
 oQ 16 (.litS 1 1 [.int .i64 0] [(0, (.t 15))]),
 oQ 17 (.call 1 87 [(.t 11), (.t 14), (.t 16)]),
 oP 18 (.idxArr 4 4 (.t 5) (.t 10)),
 ⟨none, .store 4 (.t 18) (.t 17), none, none, []⟩])
 (.seq (.region 0 [oQ 19 (.load true 16 (.t 5)),
 oQ 20 (.load true 4 (.t 4)),
 oP 21 (.move (.t 3)),
 oP 22 (.idxArr 4 4 (.t 5) (.t 21)),
 oQ 23 (.load true 4 (.t 22)),
 oQ 24 (.call 1 74 [(.t 20), (.t 23)]),
 oP 25 (.fieldAddr 3 (.t 4)),
 oQ 26 (.loadR false 1 (.t 25) 4),
 oP 27 (.move (.t 3)),
 oP 28 (.idxSl 1 (.t 26) (.t 27)),
 oQ 29 (.loadN false 1 (.t 28) [8]),
 oP 30 (.bin .leq (.t 24) (.t 29)),
 ⟨none, .storeR 16 (.t 8) (.t 19) [4], none, none, []⟩,
 oP 9 (.move (.t 30))])
 (.ret)))⟩
/-- slices.ContainsFunc[almadraba/cuts.table,almadraba/api.CutPart] -/
def f82 : AFn := ⟨9, [.tmp 4],
 .seq (.region 0 [oP 4 (.move (.c (.bool false)))])
 (.seq (.region 0 [oP 5 (.move (.t 0)),
 oP 6 (.move (.t 1)),
 oQ 7 (.call 3 88 [(.t 5), (.t 6)]),
 oP 8 (.bin .geq (.t 7) (.c (.int .i64 0))),
 oP 4 (.move (.t 8))])
 (.ret))⟩
/-- (almadraba/cuts.table).canCut$1 -/
def f83 : AFn := ⟨8, [.tmp 3],
 .seq (.region 0 [oQ 2 (.box (.t 0)),
 oP 3 (.move (.c (.bool false)))])
 (.seq (.region 0 [oP 4 (.fieldAddr 0 (.t 2)),
 oQ 5 (.load false 1 (.t 4)),
 oQ 6 (.load false 1 (.t 1)),
 oP 7 (.bin .eql (.t 5) (.t 6)),
 oP 3 (.move (.t 7))])
 (.ret))⟩
/-- slices.IndexFunc[[]almadraba/api.SaltKind,almadraba/api.SaltKind] -/
def f84 : AFn := ⟨19, [.tmp 4],
 .seq (.region 0 [oP 4 (.move (.c (.int .i64 0)))])
 (.seq (.seq (.region 0 [oP 6 (.move (.t 0)),
 oP 7 (.lenS (.t 6)),
 oP 8 (.move (.c (.int .i64 0)))])
 (.block 0 (.loop (.seq (.region 0 [oP 9 (.bin .lss (.t 8) (.t 7))])
 (.seq (.cond (.t 9) (.skip)
 (.exit 0))
 (.seq (.block 1 (.seq (.region 0 [oP 10 (.move (.t 8)),
 oP 5 (.move (.t 10))])
 (.seq (.region 0 [oP 11 (.move (.t 1)),
 oP 12 (.move (.t 0)),
 oP 13 (.move (.t 5)),
 oP 14 (.idxSl 2 (.t 12) (.t 13)),
 oQ 15 (.load true 2 (.t 14)),
 oQ 16 (.callv true (.t 11) [(.t 15)])])
 (.cond (.t 16) (.seq (.region 0 [oP 17 (.move (.t 5)),
 oP 4 (.move (.t 17))])
 (.ret))
 (.skip)))))
 (.region 0 [oP 18 (.bin .add (.t 8) (.c (.int .i64 1))),
 oP 8 (.move (.t 18))])))))))
 (.seq (.region 0 [oP 4 (.move (.c (.int .i64 (-1))))])
 (.ret)))⟩
/-- slices.IndexFunc[[]almadraba/api.SaltPart,almadraba/api.SaltPart] -/
def f85 : AFn := ⟨19, [.tmp 4],
 .seq (.region 0 [oP 4 (.move (.c (.int .i64 0)))])
 (.seq (.seq (.region 0 [oP 6 (.move (.t 0)),
 oP 7 (.lenS (.t 6)),
 oP 8 (.move (.c (.int .i64 0)))])
 (.block 0 (.loop (.seq (.region 0 [oP 9 (.bin .lss (.t 8) (.t 7))])
 (.seq (.cond (.t 9) (.skip)
 (.exit 0))
 (.seq (.block 1 (.seq (.region 0 [oP 10 (.move (.t 8)),
 oP 5 (.move (.t 10))])
 (.seq (.region 0 [oP 11 (.move (.t 1)),
 oP 12 (.move (.t 0)),
 oP 13 (.move (.t 5)),
 oP 14 (.idxSl 2 (.t 12) (.t 13)),
 oQ 15 (.load true 2 (.t 14)),
 oQ 16 (.callv true (.t 11) [(.t 15)])])
 (.cond (.t 16) (.seq (.region 0 [oP 17 (.move (.t 5)),
 oP 4 (.move (.t 17))])
 (.ret))
 (.skip)))))
 (.region 0 [oP 18 (.bin .add (.t 8) (.c (.int .i64 1))),
 oP 8 (.move (.t 18))])))))))
 (.seq (.region 0 [oP 4 (.move (.c (.int .i64 (-1))))])
 (.ret)))⟩
/-- slices.IndexFunc[[]int,int] -/
def f86 : AFn := ⟨19, [.tmp 4],
 .seq (.region 0 [oP 4 (.move (.c (.int .i64 0)))])
 (.seq (.seq (.region 0 [oP 6 (.move (.t 0)),
 oP 7 (.lenS (.t 6)),
 oP 8 (.move (.c (.int .i64 0)))])
 (.block 0 (.loop (.seq (.region 0 [oP 9 (.bin .lss (.t 8) (.t 7))])
 (.seq (.cond (.t 9) (.skip)
 (.exit 0))
 (.seq (.block 1 (.seq (.region 0 [oP 10 (.move (.t 8)),
 oP 5 (.move (.t 10))])
 (.seq (.region 0 [oP 11 (.move (.t 1)),
 oP 12 (.move (.t 0)),
 oP 13 (.move (.t 5)),
 oP 14 (.idxSl 1 (.t 12) (.t 13)),
 oQ 15 (.load false 1 (.t 14)),
 oQ 16 (.callv true (.t 11) [(.t 15)])])
 (.cond (.t 16) (.seq (.region 0 [oP 17 (.move (.t 5)),
 oP 4 (.move (.t 17))])
 (.ret))
 (.skip)))))
 (.region 0 [oP 18 (.bin .add (.t 8) (.c (.int .i64 1))),
 oP 8 (.move (.t 18))])))))))
 (.seq (.region 0 [oP 4 (.move (.c (.int .i64 (-1))))])
 (.ret)))⟩
/-- (almadraba/salt.house).fill -/
def f87 : AFn := ⟨52, [.cell true 4 6],
 .seq (.region 0 [oQ 3 (.box (.t 0)),
 oQ 4 (.box (.t 1)),
 oQ 6 (.alloc [.int .i64 0, .int .i64 0, .int .i64 0, .int .i64 0])])
 (.seq (.seq (.region 0 [oP 11 (.move (.t 2)),
 oP 12 (.lenS (.t 11)),
 oP 13 (.move (.c (.int .i64 0)))])
 (.block 0 (.loop (.seq (.region 0 [oP 14 (.bin .lss (.t 13) (.t 12))])
 (.seq (.cond (.t 14) (.skip)
 (.exit 0))
 (.seq (.block 1 (.seq (.region 0 [oP 15 (.idxSl 1 (.t 11) (.t 13)),
 oQ 16 (.load false 1 (.t 15)),
 oP 8 (.move (.t 16))])
 (.seq (.region 0 [oP 17 (.fieldAddr 2 (.t 3)),
 oQ 18 (.load false 1 (.t 17)),
 oP 19 (.move (.t 8)),
 oP 20 (.idxSl 2 (.t 18) (.t 19)),
 oQ 21 (.load true 2 (.t 20)),
 oQ 9 (.alloc [.int .i64 0, .int .i64 0]),
 ⟨none, .store 2 (.t 9) (.t 21), none, none, []⟩])
 (.seq (.region 0 [oP 22 (.fieldAddr 0 (.t 3)),
 oQ 23 (.load false 1 (.t 22)),
 oP 24 (.fieldAddr 0 (.t 9)),
 oQ 25 (.load false 1 (.t 24)),
 oP 26 (.idxSl 2 (.t 23) (.t 25)),
 oQ 27 (.load true 2 (.t 26)),
 oQ 10 (.alloc [.int .i64 0, .int .i64 0]),
 ⟨none, .store 2 (.t 10) (.t 27), none, none, []⟩])
 (.seq (.region 0 [oP 28 (.fieldAddr 0 (.t 4)),
 oQ 29 (.load false 1 (.t 28)),
 oP 30 (.bin .add (.t 29) (.c (.int .i64 1))),
 oP 31 (.fieldAddr 0 (.t 4)),
 ⟨none, .store 1 (.t 31) (.t 30), none, none, []⟩])
 (.seq (.region 0 [oP 32 (.fieldAddr 1 (.t 4)),
 oQ 33 (.load false 1 (.t 32)),
 oP 34 (.fieldAddr 1 (.t 9)),
 oQ 35 (.load false 1 (.t 34)),
 oP 36 (.bin .add (.t 33) (.t 35)),
 oP 37 (.fieldAddr 1 (.t 4)),
 ⟨none, .store 1 (.t 37) (.t 36), none, none, []⟩])
 (.seq (.region 0 [oP 38 (.fieldAddr 2 (.t 4)),
 oQ 39 (.load false 1 (.t 38)),
 oP 40 (.fieldAddr 0 (.t 10)),
 oQ 41 (.load false 1 (.t 40)),
 oP 42 (.minmax true (.t 39) [(.t 41)]),
 oP 43 (.fieldAddr 2 (.t 4)),
 ⟨none, .store 1 (.t 43) (.t 42), none, none, []⟩])
 (.region 0 [oP 44 (.fieldAddr 3 (.t 4)),
 oQ 45 (.load false 1 (.t 44)),
 oP 46 (.fieldAddr 1 (.t 10)),
 oQ 47 (.load false 1 (.t 46)),
 oP 48 (.minmax true (.t 45) [(.t 47)]),
 oP 49 (.fieldAddr 3 (.t 4)),
 ⟨none, .store 1 (.t 49) (.t 48), none, none, []⟩]))))))))
 (.region 0 [oP 50 (.bin .add (.t 13) (.c (.int .i64 1))),
 oP 13 (.move (.t 50))])))))))
 (.seq (.region 0 [oQ 51 (.load true 4 (.t 4)),
 ⟨none, .store 4 (.t 6) (.t 51), none, none, []⟩])
 (.ret)))⟩
/-- slices.IndexFunc[almadraba/cuts.table,almadraba/api.CutPart] -/
def f88 : AFn := ⟨19, [.tmp 4],
 .seq (.region 0 [oP 4 (.move (.c (.int .i64 0)))])
 (.seq (.seq (.region 0 [oP 6 (.move (.t 0)),
 oP 7 (.lenS (.t 6)),
 oP 8 (.move (.c (.int .i64 0)))])
 (.block 0 (.loop (.seq (.region 0 [oP 9 (.bin .lss (.t 8) (.t 7))])
 (.seq (.cond (.t 9) (.skip)
 (.exit 0))
 (.seq (.block 1 (.seq (.region 0 [oP 10 (.move (.t 8)),
 oP 5 (.move (.t 10))])
 (.seq (.region 0 [oP 11 (.move (.t 1)),
 oP 12 (.move (.t 0)),
 oP 13 (.move (.t 5)),
 oP 14 (.idxSl 6 (.t 12) (.t 13)),
 oQ 15 (.load true 6 (.t 14)),
 oQ 16 (.callv true (.t 11) [(.t 15)])])
 (.cond (.t 16) (.seq (.region 0 [oP 17 (.move (.t 5)),
 oP 4 (.move (.t 17))])
 (.ret))
 (.skip)))))
 (.region 0 [oP 18 (.bin .add (.t 8) (.c (.int .i64 1))),
 oP 8 (.move (.t 18))])))))))
 (.seq (.region 0 [oP 4 (.move (.c (.int .i64 (-1))))])
 (.ret)))⟩
end Go.Proofs.Ytaffjmjahenoaaa.T
