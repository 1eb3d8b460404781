/-
The code of functions of the seat, as the abstract machine has it (printed by a tool of ours off the dump).
-/
import Derived.Test.YtdmhbefdidmliaaTabA
namespace Go.Proofs.Ytdmhbefdidmliaa.T
open Go Go.Am
/-- almadraba/almadrabaref05.Copy -/
def f40 : AFn := ⟨14, [.cell true 4 2],
 .seq (.region 0 [oQ 1 (.box (.t 0)),
 oQ 2 (.alloc [.int .i64 0, .int .i64 0, .nils, .nils])])
 (.seq (.region 4 [oP 3 (.fieldAddr 0 (.t 1)),
 ⟨(some 4), .load true 2 (.t 3), none, none, [0, 1, 2, 3]⟩,
 ⟨(some 5), .buildSlice 2 0 [.int .i64 0, .int .i64 0] [], none, (some 0), []⟩,
 oP 6 (.fieldAddr 2 (.t 1)),
 ⟨(some 7), .load false 1 (.t 6), none, none, [0, 1, 2, 3]⟩,
 ⟨(some 8), .append true 2 16 (.t 5) (.t 7), none, (some 1), [2, 3]⟩,
 ⟨(some 9), .buildSlice 2 0 [.int .i64 0, .int .i64 0] [], none, (some 2), []⟩,
 oP 10 (.fieldAddr 3 (.t 1)),
 ⟨(some 11), .load false 1 (.t 10), none, none, [0, 1, 2, 3]⟩,
 ⟨(some 12), .append true 2 16 (.t 9) (.t 11), none, (some 3), []⟩,
 oP 13 (.build [.int .i64 0, .int .i64 0, .nils, .nils] [(0, 2, (.t 4)), (2, 1, (.t 8)), (3, 1, (.t 12))]),
 ⟨none, .store 4 (.t 2) (.t 13), none, none, []⟩])
 (.ret))⟩
/-- almadraba/almadrabaref05.Stronger -/
def f41 : AFn := ⟨24, [.cell true 4 4],
 .seq (.region 0 [oQ 2 (.box (.t 0)),
 oQ 4 (.alloc [.int .i64 0, .int .i64 0, .nils, .nils])])
 (.seq (.region 0 [oQ 7 (.load true 4 (.t 2)),
 oQ 8 (.call 2 40 [(.t 7)]),
 oQ 5 (.alloc [.int .i64 0, .int .i64 0, .nils, .nils]),
 ⟨none, .store 4 (.t 5) (.t 8), none, none, []⟩])
 (.seq (.region 0 [oP 9 (.fieldAddr 3 (.t 5)),
 oQ 10 (.load false 1 (.t 9)),
 oP 11 (.move (.t 1)),
 oP 12 (.idxSl 2 (.t 10) (.t 11)),
 oQ 13 (.load true 2 (.t 12)),
 oQ 6 (.alloc [.int .i64 0, .int .i64 0]),
 ⟨none, .store 2 (.t 6) (.t 13), none, none, []⟩])
 (.seq (.region 0 [oP 14 (.fieldAddr 0 (.t 6)),
 oQ 15 (.load false 1 (.t 14)),
 oP 16 (.bin .add (.t 15) (.c (.int .i64 1))),
 oP 17 (.fieldAddr 0 (.t 6)),
 ⟨none, .store 1 (.t 17) (.t 16), none, none, []⟩])
 (.seq (.region 0 [oP 18 (.fieldAddr 3 (.t 5)),
 oQ 19 (.load false 1 (.t 18)),
 oP 20 (.move (.t 1)),
 oQ 21 (.load true 2 (.t 6)),
 oP 22 (.idxSl 2 (.t 19) (.t 20)),
 ⟨none, .store 2 (.t 22) (.t 21), none, none, []⟩])
 (.seq (.region 0 [oQ 23 (.load true 4 (.t 5)),
 ⟨none, .store 4 (.t 4) (.t 23), none, none, []⟩])
 (.ret))))))⟩
/-- almadraba/lifts.Swap -/
def f42 : AFn := ⟨27, [.cell true 2 4, .tmp 5],
 .seq (.region 0 [oQ 2 (.box (.t 0)),
 oQ 4 (.alloc [.int .i64 0, .int .i64 0]),
 oP 5 (.move (.c (.int .i64 0)))])
 (.seq (.seq (.region 0 [oQ 9 (.load true 4 (.t 2)),
 oP 10 (.move (.t 1)),
 oQ 11 (.call 1 78 [(.t 9), (.t 10)]),
 oP 6 (.move (.t 11))])
 (.seq (.region 0 [oP 12 (.move (.t 6)),
 oP 13 (.bin .neq (.t 12) (.c (.int .i64 0)))])
 (.cond (.t 13) (.seq (.region 0 [oP 14 (.build [.int .i64 0, .int .i64 0] []),
 oP 15 (.move (.t 6)),
 ⟨none, .store 2 (.t 4) (.t 14), none, none, []⟩,
 oP 5 (.move (.t 15))])
 (.ret))
 (.skip))))
 (.seq (.region 0 [oQ 17 (.load true 4 (.t 2)),
 oP 18 (.build [.int .i64 0, .int .i64 0, .nils, .nils] [(0, 4, (.t 17))]),
 oP 19 (.move (.t 1)),
 oQ 20 (.call 1 84 [(.t 18), (.t 19)]),
 oP 16 (.move (.t 20)),
 oP 21 (.extract (.t 16) 0),
 oP 22 (.extract (.t 16) 1),
 oQ 7 (.alloc [.int .i64 0, .int .i64 0]),
 ⟨none, .store 2 (.t 7) (.t 21), none, none, []⟩,
 oP 8 (.move (.t 22))])
 (.seq (.seq (.region 0 [oP 23 (.move (.t 8)),
 oP 24 (.un .not (.t 23))])
 (.cond (.t 24) (.seq (.region 0 [oP 25 (.build [.int .i64 0, .int .i64 0] []),
 ⟨none, .store 2 (.t 4) (.t 25), none, none, []⟩,
 oP 5 (.move (.c (.int .i64 3)))])
 (.ret))
 (.skip)))
 (.seq (.region 0 [oQ 26 (.load true 2 (.t 7)),
 ⟨none, .store 2 (.t 4) (.t 26), none, none, []⟩,
 oP 5 (.move (.c (.int .i64 0)))])
 (.ret)))))⟩
/-- almadraba/almadrabaref05.Exchanged -/
def f43 : AFn := ⟨28, [.tmp 4],
 .seq (.region 0 [oQ 3 (.box (.t 1)),
 oP 4 (.move (.c (.nils)))])
 (.seq (.region 0 [oQ 6 (.buildSlice 1 0 [.int .i64 0] []),
 oP 7 (.move (.t 0)),
 oQ 8 (.append false 1 8 (.t 6) (.t 7)),
 oP 5 (.move (.t 8))])
 (.seq (.region 0 [oP 9 (.move (.t 5)),
 oP 10 (.fieldAddr 0 (.t 3)),
 oQ 11 (.load false 1 (.t 10)),
 oP 12 (.move (.t 5)),
 oP 13 (.fieldAddr 1 (.t 3)),
 oQ 14 (.loadR false 1 (.t 13) 3),
 oP 15 (.move (.t 0)),
 oP 16 (.fieldAddr 1 (.t 3)),
 oQ 17 (.load false 1 (.t 16)),
 oP 18 (.idxSl 1 (.t 15) (.t 17)),
 oQ 19 (.load false 1 (.t 18)),
 oP 20 (.move (.t 0)),
 oP 21 (.fieldAddr 0 (.t 3)),
 oQ 22 (.load false 1 (.t 21)),
 oP 23 (.idxSl 1 (.t 20) (.t 22)),
 oQ 24 (.load false 1 (.t 23)),
 oP 25 (.idxSl 1 (.t 9) (.t 11)),
 ⟨none, .storeR 1 (.t 25) (.t 19) [3], none, none, []⟩,
 oP 26 (.idxSl 1 (.t 12) (.t 14)),
 ⟨none, .store 1 (.t 26) (.t 24), none, none, []⟩])
 (.seq (.region 0 [oP 27 (.move (.t 5)),
 oP 4 (.move (.t 27))])
 (.ret))))⟩
/-- almadraba/almadrabaref01.Rising -/
def f44 : AFn := ⟨38, [.tmp 6],
 .seq (.region 0 [oP 6 (.move (.c (.bool false)))])
 (.seq (.seq (.region 0 [oP 7 (.move (.c (.int .i64 0)))])
 (.block 0 (.loop (.seq (.seq (.region 0 [oP 8 (.move (.t 7)),
 oP 9 (.move (.t 0)),
 oP 10 (.lenS (.t 9)),
 oP 11 (.bin .lss (.t 8) (.t 10))])
 (.cond (.t 11) (.skip)
 (.exit 0)))
 (.seq (.block 1 (.seq (.region 0 [oP 14 (.move (.t 0)),
 oP 15 (.move (.t 7)),
 oP 16 (.idxSl 1 (.t 14) (.t 15)),
 oQ 17 (.load false 1 (.t 16)),
 oP 18 (.move (.t 1)),
 oP 19 (.move (.t 2)),
 oQ 20 (.call 1 17 [(.t 17), (.t 18), (.t 19)]),
 oP 21 (.un .not (.t 20)),
 oP 22 (.move (.t 21)),
 oG 23 22 false (.move (.t 7)),
 oG 24 22 false (.bin .gtr (.t 23) (.c (.int .i64 0))),
 oG 25 22 false (.move (.t 24)),
 oG 26 25 true (.move (.t 0)),
 oG 27 25 true (.move (.t 7)),
 oG 28 25 true (.idxSl 1 (.t 26) (.t 27)),
 ⟨(some 29), .load false 1 (.t 28), (some (25, true)), none, []⟩,
 oG 30 25 true (.move (.t 0)),
 oG 31 25 true (.move (.t 7)),
 oG 32 25 true (.bin .sub (.t 31) (.c (.int .i64 1))),
 oG 33 25 true (.idxSl 1 (.t 30) (.t 32)),
 ⟨(some 34), .load false 1 (.t 33), (some (25, true)), none, []⟩,
 oG 35 25 true (.bin .leq (.t 29) (.t 34)),
 oG 36 22 false (.pick (.t 25) (.t 35) (.c (.bool false))),
 oP 37 (.pick (.t 22) (.c (.bool true)) (.t 36))])
 (.cond (.t 37) (.seq (.region 0 [oP 6 (.move (.c (.bool false)))])
 (.ret))
 (.skip))))
 (.region 0 [oP 12 (.move (.t 7)),
 oP 13 (.bin .add (.t 12) (.c (.int .i64 1))),
 oP 7 (.move (.t 13))]))))))
 (.seq (.region 0 [oP 6 (.move (.c (.bool true)))])
 (.ret)))⟩
/-- almadraba/almadrabaref05.Can -/
def f45 : AFn := ⟨25, [.tmp 4],
 .seq (.region 0 [oQ 2 (.box (.t 0)),
 oP 4 (.move (.c (.int .i64 0)))])
 (.seq (.region 0 [oP 5 (.move (.c (.int .i64 0)))])
 (.seq (.seq (.region 0 [oP 6 (.move (.c (.int .i64 0)))])
 (.block 0 (.loop (.seq (.seq (.region 0 [oP 7 (.move (.t 6)),
 oP 8 (.fieldAddr 3 (.t 2)),
 oQ 9 (.load false 1 (.t 8)),
 oP 10 (.lenS (.t 9)),
 oP 11 (.bin .lss (.t 7) (.t 10))])
 (.cond (.t 11) (.skip)
 (.exit 0)))
 (.seq (.block 1 (.seq (.region 0 [oP 14 (.fieldAddr 3 (.t 2)),
 oQ 15 (.load false 1 (.t 14)),
 oP 16 (.move (.t 6)),
 oP 17 (.idxSl 2 (.t 15) (.t 16)),
 oP 18 (.fieldAddr 0 (.t 17)),
 oQ 19 (.load false 1 (.t 18)),
 oP 20 (.move (.t 1)),
 oP 21 (.bin .geq (.t 19) (.t 20))])
 (.cond (.t 21) (.region 0 [oP 22 (.move (.t 5)),
 oP 23 (.bin .add (.t 22) (.c (.int .i64 1))),
 oP 5 (.move (.t 23))])
 (.skip))))
 (.region 0 [oP 12 (.move (.t 6)),
 oP 13 (.bin .add (.t 12) (.c (.int .i64 1))),
 oP 6 (.move (.t 13))]))))))
 (.seq (.region 0 [oP 24 (.move (.t 5)),
 oP 4 (.move (.t 24))])
 (.ret))))⟩
/-- almadraba/almadrabaref05.Least -/
def f46 : AFn := ⟨29, [.tmp 4],
 .seq (.region 0 [oP 4 (.move (.c (.int .i64 0)))])
 (.seq (.region 0 [oP 7 (.move (.t 0)),
 oP 8 (.move (.t 1)),
 oP 9 (.idxSl 1 (.t 8) (.c (.int .i64 0))),
 oQ 10 (.load false 1 (.t 9)),
 oP 11 (.idxSl 1 (.t 7) (.t 10)),
 oQ 12 (.load false 1 (.t 11)),
 oP 5 (.move (.t 12))])
 (.seq (.seq (.region 0 [oP 6 (.move (.c (.int .i64 0)))])
 (.block 0 (.loop (.seq (.seq (.region 0 [oP 13 (.move (.t 6)),
 oP 14 (.move (.t 1)),
 oP 15 (.lenS (.t 14)),
 oP 16 (.bin .lss (.t 13) (.t 15))])
 (.cond (.t 16) (.skip)
 (.exit 0)))
 (.seq (.block 1 (.region 0 [oP 19 (.move (.t 5)),
 oP 20 (.move (.t 0)),
 oP 21 (.move (.t 1)),
 oP 22 (.move (.t 6)),
 oP 23 (.idxSl 1 (.t 21) (.t 22)),
 oQ 24 (.load false 1 (.t 23)),
 oP 25 (.idxSl 1 (.t 20) (.t 24)),
 oQ 26 (.load false 1 (.t 25)),
 oP 27 (.minmax false (.t 19) [(.t 26)]),
 oP 5 (.move (.t 27))]))
 (.region 0 [oP 17 (.move (.t 6)),
 oP 18 (.bin .add (.t 17) (.c (.int .i64 1))),
 oP 6 (.move (.t 18))]))))))
 (.seq (.region 0 [oP 28 (.move (.t 5)),
 oP 4 (.move (.t 28))])
 (.ret))))⟩
/-- almadraba/almadrabaref05.IsBoat -/
def f47 : AFn := ⟨11, [.tmp 4],
 .seq (.region 0 [oQ 2 (.box (.t 0)),
 oP 4 (.move (.c (.bool false)))])
 (.seq (.region 0 [oP 5 (.move (.t 1)),
 oP 6 (.fieldAddr 3 (.t 2)),
 oQ 7 (.load false 1 (.t 6)),
 oP 8 (.lenS (.t 7)),
 oP 9 (.bin .sub (.t 8) (.c (.int .i64 1))),
 oQ 10 (.call 1 71 [(.t 5), (.c (.int .i64 0)), (.t 9)]),
 oP 4 (.move (.t 10))])
 (.ret))⟩
/-- almadraba/lifts.Helps -/
def f48 : AFn := ⟨13, [.tmp 2, .tmp 3],
 .seq (.region 0 [oQ 1 (.box (.t 0)),
 oP 2 (.move (.c (.nils))),
 oP 3 (.move (.c (.int .i64 0)))])
 (.seq (.seq (.region 0 [oQ 5 (.load true 4 (.t 1)),
 oQ 6 (.call 1 85 [(.t 5)]),
 oP 4 (.move (.t 6))])
 (.seq (.region 0 [oP 7 (.move (.t 4)),
 oP 8 (.bin .neq (.t 7) (.c (.int .i64 0)))])
 (.cond (.t 8) (.seq (.region 0 [oP 9 (.move (.t 4)),
 oP 2 (.move (.c (.nils))),
 oP 3 (.move (.t 9))])
 (.ret))
 (.skip))))
 (.seq (.region 0 [oQ 10 (.load true 4 (.t 1)),
 oP 11 (.build [.int .i64 0, .int .i64 0, .nils, .nils] [(0, 4, (.t 10))]),
 oQ 12 (.call 1 86 [(.t 11)]),
 oP 2 (.move (.t 12)),
 oP 3 (.move (.c (.int .i64 0)))])
 (.ret)))⟩
/-- almadraba/almadrabaref01.In -/
def f49 : AFn := ⟨18, [.tmp 4],
 .seq (.region 0 [oP 4 (.move (.c (.bool false)))])
 (.seq (.seq (.region 0 [oP 5 (.move (.c (.int .i64 0)))])
 (.block 0 (.loop (.seq (.seq (.region 0 [oP 6 (.move (.t 5)),
 oP 7 (.move (.t 0)),
 oP 8 (.lenS (.t 7)),
 oP 9 (.bin .lss (.t 6) (.t 8))])
 (.cond (.t 9) (.skip)
 (.exit 0)))
 (.seq (.block 1 (.seq (.region 0 [oP 12 (.move (.t 0)),
 oP 13 (.move (.t 5)),
 oP 14 (.idxSl 1 (.t 12) (.t 13)),
 oQ 15 (.load false 1 (.t 14)),
 oP 16 (.move (.t 1)),
 oP 17 (.bin .eql (.t 15) (.t 16))])
 (.cond (.t 17) (.seq (.region 0 [oP 4 (.move (.c (.bool true)))])
 (.ret))
 (.skip))))
 (.region 0 [oP 10 (.move (.t 5)),
 oP 11 (.bin .add (.t 10) (.c (.int .i64 1))),
 oP 5 (.move (.t 11))]))))))
 (.seq (.region 0 [oP 4 (.move (.c (.bool false)))])
 (.ret)))⟩
/-- almadraba/almadrabalaw05.Far -/
def f50 : AFn := ⟨13, [.tmp 2],
 .seq (.region 0 [oQ 1 (.box (.t 0)),
 oP 2 (.move (.c (.bool false)))])
 (.seq (.region 0 [oP 3 (.fieldAddr 2 (.t 1)),
 oQ 4 (.load false 1 (.t 3)),
 oP 5 (.lenS (.t 4)),
 oP 6 (.bin .gtr (.t 5) (.c (.int .i64 40))),
 oP 7 (.move (.t 6)),
 oG 8 7 false (.fieldAddr 3 (.t 1)),
 ⟨(some 9), .load false 1 (.t 8), (some (7, false)), none, []⟩,
 oG 10 7 false (.lenS (.t 9)),
 oG 11 7 false (.bin .gtr (.t 10) (.c (.int .i64 40))),
 oP 12 (.pick (.t 7) (.c (.bool true)) (.t 11)),
 oP 2 (.move (.t 12))])
 (.ret))⟩
/-- almadraba/almadrabaref05.Holds -/
def f51 : AFn := ⟨27, [.tmp 6, .tmp 7],
 .seq (.region 0 [oQ 3 (.box (.t 0)),
 oP 6 (.move (.c (.bool false))),
 oP 7 (.move (.c (.int .i64 0)))])
 (.seq (.seq (.region 0 [oQ 9 (.load true 4 (.t 3)),
 oQ 10 (.call 1 53 [(.t 9)]),
 oP 8 (.move (.t 10))])
 (.seq (.region 0 [oP 11 (.move (.t 8)),
 oP 12 (.bin .neq (.t 11) (.c (.int .i64 0)))])
 (.cond (.t 12) (.seq (.region 0 [oP 13 (.move (.t 8)),
 oP 6 (.move (.c (.bool false))),
 oP 7 (.move (.t 13))])
 (.ret))
 (.skip))))
 (.seq (.region 0 [oP 14 (.move (.t 1)),
 oP 15 (.fieldAddr 0 (.t 3)),
 oP 16 (.fieldAddr 0 (.t 15)),
 oQ 17 (.load false 1 (.t 16)),
 oP 18 (.fieldAddr 0 (.t 3)),
 oP 19 (.fieldAddr 1 (.t 18)),
 oQ 20 (.load false 1 (.t 19)),
 oQ 21 (.call 1 71 [(.t 14), (.t 17), (.t 20)]),
 oP 22 (.move (.t 21)),
 ⟨(some 23), .load true 4 (.t 3), (some (22, true)), none, []⟩,
 oG 24 22 true (.move (.t 2)),
 ⟨(some 25), .call 1 18 [(.t 23), (.t 24)], (some (22, true)), none, []⟩,
 oP 26 (.pick (.t 22) (.t 25) (.c (.bool false))),
 oP 6 (.move (.t 26)),
 oP 7 (.move (.c (.int .i64 0)))])
 (.ret)))⟩
/-- almadraba/lifts.Check -/
def f52 : AFn := ⟨6, [.tmp 2],
 .seq (.region 0 [oQ 1 (.box (.t 0)),
 oP 2 (.move (.c (.int .i64 0)))])
 (.seq (.seq (.region 0 [oQ 3 (.load true 4 (.t 1)),
 oQ 4 (.call 1 87 [(.t 3)]),
 oP 5 (.un .not (.t 4))])
 (.cond (.t 5) (.seq (.region 0 [oP 2 (.move (.c (.int .i64 50)))])
 (.ret))
 (.skip)))
 (.seq (.region 0 [oP 2 (.move (.c (.int .i64 0)))])
 (.ret)))⟩
/-- almadraba/almadrabaref05.Check -/
def f53 : AFn := ⟨82, [.tmp 2],
 .seq (.region 0 [oQ 1 (.box (.t 0)),
 oP 2 (.move (.c (.int .i64 0)))])
 (.seq (.seq (.region 0 [oP 8 (.fieldAddr 0 (.t 1)),
 oQ 9 (.load true 2 (.t 8)),
 oQ 10 (.call 1 88 [(.t 9), (.c (.int .i64 2000))]),
 oP 11 (.un .not (.t 10)),
 oP 12 (.move (.t 11)),
 oG 13 12 false (.fieldAddr 2 (.t 1)),
 ⟨(some 14), .load false 1 (.t 13), (some (12, false)), none, []⟩,
 oG 15 12 false (.lenS (.t 14)),
 oG 16 12 false (.bin .gtr (.t 15) (.c (.int .i64 4))),
 oP 17 (.pick (.t 12) (.c (.bool true)) (.t 16)),
 oP 18 (.move (.t 17)),
 oG 19 18 false (.fieldAddr 3 (.t 1)),
 ⟨(some 20), .load false 1 (.t 19), (some (18, false)), none, []⟩,
 oG 21 18 false (.lenS (.t 20)),
 oG 22 18 false (.bin .gtr (.t 21) (.c (.int .i64 6))),
 oP 23 (.pick (.t 18) (.c (.bool true)) (.t 22))])
 (.cond (.t 23) (.seq (.region 0 [oP 2 (.move (.c (.int .i64 50)))])
 (.ret))
 (.skip)))
 (.seq (.region 0 [oP 3 (.move (.c (.int .i64 0))),
 oP 4 (.move (.c (.int .i64 0)))])
 (.seq (.seq (.region 0 [oP 5 (.move (.c (.int .i64 0)))])
 (.block 0 (.loop (.seq (.seq (.region 0 [oP 24 (.move (.t 5)),
 oP 25 (.fieldAddr 2 (.t 1)),
 oQ 26 (.load false 1 (.t 25)),
 oP 27 (.lenS (.t 26)),
 oP 28 (.bin .lss (.t 24) (.t 27))])
 (.cond (.t 28) (.skip)
 (.exit 0)))
 (.seq (.block 1 (.seq (.seq (.region 0 [oP 31 (.fieldAddr 2 (.t 1)),
 oQ 32 (.load false 1 (.t 31)),
 oP 33 (.move (.t 5)),
 oP 34 (.idxSl 2 (.t 32) (.t 33)),
 oQ 35 (.load true 2 (.t 34)),
 oQ 36 (.call 1 88 [(.t 35), (.c (.int .i64 12))]),
 oP 37 (.un .not (.t 36))])
 (.cond (.t 37) (.seq (.region 0 [oP 2 (.move (.c (.int .i64 50)))])
 (.ret))
 (.skip)))
 (.region 0 [oP 38 (.move (.t 3)),
 oP 39 (.fieldAddr 2 (.t 1)),
 oQ 40 (.load false 1 (.t 39)),
 oP 41 (.move (.t 5)),
 oP 42 (.idxSl 2 (.t 40) (.t 41)),
 oP 43 (.fieldAddr 0 (.t 42)),
 oQ 44 (.load false 1 (.t 43)),
 oP 45 (.bin .add (.t 38) (.t 44)),
 oP 46 (.move (.t 4)),
 oP 47 (.fieldAddr 2 (.t 1)),
 oQ 48 (.load false 1 (.t 47)),
 oP 49 (.move (.t 5)),
 oP 50 (.idxSl 2 (.t 48) (.t 49)),
 oP 51 (.fieldAddr 1 (.t 50)),
 oQ 52 (.load false 1 (.t 51)),
 oP 53 (.bin .add (.t 46) (.t 52)),
 oP 3 (.move (.t 45)),
 oP 4 (.move (.t 53))])))
 (.region 0 [oP 29 (.move (.t 5)),
 oP 30 (.bin .add (.t 29) (.c (.int .i64 1))),
 oP 5 (.move (.t 30))]))))))
 (.seq (.seq (.region 0 [oP 6 (.move (.c (.int .i64 0)))])
 (.block 2 (.loop (.seq (.seq (.region 0 [oP 54 (.move (.t 6)),
 oP 55 (.fieldAddr 3 (.t 1)),
 oQ 56 (.load false 1 (.t 55)),
 oP 57 (.lenS (.t 56)),
 oP 58 (.bin .lss (.t 54) (.t 57))])
 (.cond (.t 58) (.skip)
 (.exit 2)))
 (.seq (.block 3 (.seq (.region 0 [oP 61 (.fieldAddr 3 (.t 1)),
 oQ 62 (.load false 1 (.t 61)),
 oP 63 (.move (.t 6)),
 oP 64 (.idxSl 2 (.t 62) (.t 63)),
 oQ 65 (.load true 2 (.t 64)),
 oQ 7 (.alloc [.int .i64 0, .int .i64 0]),
 ⟨none, .store 2 (.t 7) (.t 65), none, none, []⟩])
 (.seq (.region 0 [oP 66 (.fieldAddr 0 (.t 7)),
 oQ 67 (.load false 1 (.t 66)),
 oQ 68 (.call 1 71 [(.t 67), (.c (.int .i64 0)), (.c (.int .i64 999))]),
 oP 69 (.un .not (.t 68)),
 oP 70 (.move (.t 69)),
 oG 71 70 false (.fieldAddr 1 (.t 7)),
 ⟨(some 72), .load false 1 (.t 71), (some (70, false)), none, []⟩,
 ⟨(some 73), .call 1 71 [(.t 72), (.c (.int .i64 0)), (.c (.int .i64 99))], (some (70, false)), none, []⟩,
 oG 74 70 false (.un .not (.t 73)),
 oP 75 (.pick (.t 70) (.c (.bool true)) (.t 74))])
 (.cond (.t 75) (.seq (.region 0 [oP 2 (.move (.c (.int .i64 50)))])
 (.ret))
 (.skip)))))
 (.region 0 [oP 59 (.move (.t 6)),
 oP 60 (.bin .add (.t 59) (.c (.int .i64 1))),
 oP 6 (.move (.t 60))]))))))
 (.seq (.seq (.region 0 [oP 76 (.move (.t 3)),
 oP 77 (.bin .gtr (.t 76) (.c (.int .i64 12))),
 oP 78 (.move (.t 77)),
 oG 79 78 false (.move (.t 4)),
 oG 80 78 false (.bin .lss (.t 79) (.c (.int .i64 12))),
 oP 81 (.pick (.t 78) (.c (.bool true)) (.t 80))])
 (.cond (.t 81) (.seq (.region 0 [oP 2 (.move (.c (.int .i64 50)))])
 (.ret))
 (.skip)))
 (.seq (.region 0 [oP 2 (.move (.c (.int .i64 0)))])
 (.ret)))))))⟩
/-- almadraba/almadrabaref01.SameInts -/
def f54 : AFn := ⟨26, [.tmp 4],
 .seq (.region 0 [oP 4 (.move (.c (.bool false)))])
 (.seq (.seq (.region 0 [oP 6 (.move (.t 0)),
 oP 7 (.lenS (.t 6)),
 oP 8 (.move (.t 1)),
 oP 9 (.lenS (.t 8)),
 oP 10 (.bin .neq (.t 7) (.t 9))])
 (.cond (.t 10) (.seq (.region 0 [oP 4 (.move (.c (.bool false)))])
 (.ret))
 (.skip)))
 (.seq (.seq (.region 0 [oP 5 (.move (.c (.int .i64 0)))])
 (.block 0 (.loop (.seq (.seq (.region 0 [oP 11 (.move (.t 5)),
 oP 12 (.move (.t 0)),
 oP 13 (.lenS (.t 12)),
 oP 14 (.bin .lss (.t 11) (.t 13))])
 (.cond (.t 14) (.skip)
 (.exit 0)))
 (.seq (.block 1 (.seq (.region 0 [oP 17 (.move (.t 0)),
 oP 18 (.move (.t 5)),
 oP 19 (.idxSl 1 (.t 17) (.t 18)),
 oQ 20 (.load false 1 (.t 19)),
 oP 21 (.move (.t 1)),
 oP 22 (.move (.t 5)),
 oP 23 (.idxSl 1 (.t 21) (.t 22)),
 oQ 24 (.load false 1 (.t 23)),
 oP 25 (.bin .neq (.t 20) (.t 24))])
 (.cond (.t 25) (.seq (.region 0 [oP 4 (.move (.c (.bool false)))])
 (.ret))
 (.skip))))
 (.region 0 [oP 15 (.move (.t 5)),
 oP 16 (.bin .add (.t 15) (.c (.int .i64 1))),
 oP 5 (.move (.t 16))]))))))
 (.seq (.region 0 [oP 4 (.move (.c (.bool true)))])
 (.ret))))⟩
/-- almadraba/almadrabaref05.Share -/
def f55 : AFn := ⟨19, [.cell true 2 4, .tmp 5],
 .seq (.region 0 [oQ 2 (.box (.t 0)),
 oQ 4 (.alloc [.int .i64 0, .int .i64 0]),
 oP 5 (.move (.c (.int .i64 0)))])
 (.seq (.seq (.region 0 [oQ 7 (.load true 4 (.t 2)),
 oQ 8 (.load true 4 (.t 2)),
 oP 9 (.move (.t 1)),
 oQ 10 (.call 1 25 [(.t 8), (.t 9)]),
 oQ 11 (.call 1 89 [(.t 7), (.t 10)]),
 oP 6 (.move (.t 11))])
 (.seq (.region 0 [oP 12 (.move (.t 6)),
 oP 13 (.bin .neq (.t 12) (.c (.int .i64 0)))])
 (.cond (.t 13) (.seq (.region 0 [oP 14 (.build [.int .i64 0, .int .i64 0] []),
 oP 15 (.move (.t 6)),
 ⟨none, .store 2 (.t 4) (.t 14), none, none, []⟩,
 oP 5 (.move (.t 15))])
 (.ret))
 (.skip))))
 (.seq (.region 0 [oQ 16 (.load true 4 (.t 2)),
 oP 17 (.move (.t 1)),
 oQ 18 (.call 1 90 [(.t 16), (.t 17)]),
 ⟨none, .store 2 (.t 4) (.t 18), none, none, []⟩,
 oP 5 (.move (.c (.int .i64 0)))])
 (.ret)))⟩
/-- almadraba/almadrabaref05.Load -/
def f56 : AFn := ⟨31, [.cell true 2 4, .tmp 5],
 .seq (.region 0 [oQ 2 (.box (.t 0)),
 oQ 4 (.alloc [.int .i64 0, .int .i64 0]),
 oP 5 (.move (.c (.int .i64 0)))])
 (.seq (.region 0 [oQ 9 (.load true 4 (.t 2)),
 oP 10 (.move (.t 1)),
 oQ 11 (.call 1 55 [(.t 9), (.t 10)]),
 oP 8 (.move (.t 11)),
 oP 12 (.extract (.t 8) 0),
 oP 13 (.extract (.t 8) 1),
 oQ 6 (.alloc [.int .i64 0, .int .i64 0]),
 ⟨none, .store 2 (.t 6) (.t 12), none, none, []⟩,
 oP 7 (.move (.t 13))])
 (.seq (.seq (.region 0 [oP 14 (.move (.t 7)),
 oP 15 (.bin .neq (.t 14) (.c (.int .i64 0)))])
 (.cond (.t 15) (.seq (.region 0 [oP 16 (.build [.int .i64 0, .int .i64 0] []),
 oP 17 (.move (.t 7)),
 ⟨none, .store 2 (.t 4) (.t 16), none, none, []⟩,
 oP 5 (.move (.t 17))])
 (.ret))
 (.skip)))
 (.seq (.region 0 [oP 18 (.fieldAddr 0 (.t 2)),
 oP 19 (.fieldAddr 0 (.t 18)),
 oQ 20 (.load false 1 (.t 19)),
 oP 21 (.fieldAddr 0 (.t 6)),
 oQ 22 (.load false 1 (.t 21)),
 oP 23 (.bin .mul (.t 20) (.t 22)),
 oP 24 (.fieldAddr 0 (.t 2)),
 oP 25 (.fieldAddr 1 (.t 24)),
 oQ 26 (.load false 1 (.t 25)),
 oP 27 (.fieldAddr 1 (.t 6)),
 oQ 28 (.load false 1 (.t 27)),
 oP 29 (.bin .mul (.t 26) (.t 28)),
 oP 30 (.build [.int .i64 0, .int .i64 0] [(0, 1, (.t 23)), (1, 1, (.t 29))]),
 ⟨none, .store 2 (.t 4) (.t 30), none, none, []⟩,
 oP 5 (.move (.c (.int .i64 0)))])
 (.ret))))⟩
/-- almadraba/lifts.Need -/
def f57 : AFn := ⟨17, [.tmp 4, .tmp 5],
 .seq (.region 0 [oQ 2 (.box (.t 0)),
 oP 4 (.move (.c (.int .i64 0))),
 oP 5 (.move (.c (.int .i64 0)))])
 (.seq (.seq (.region 0 [oQ 7 (.load true 4 (.t 2)),
 oP 8 (.move (.t 1)),
 oQ 9 (.call 1 75 [(.t 7), (.t 8)]),
 oP 6 (.move (.t 9))])
 (.seq (.region 0 [oP 10 (.move (.t 6)),
 oP 11 (.bin .neq (.t 10) (.c (.int .i64 0)))])
 (.cond (.t 11) (.seq (.region 0 [oP 12 (.move (.t 6)),
 oP 4 (.move (.c (.int .i64 0))),
 oP 5 (.move (.t 12))])
 (.ret))
 (.skip))))
 (.seq (.region 0 [oQ 13 (.load true 4 (.t 2)),
 oP 14 (.build [.int .i64 0, .int .i64 0, .nils, .nils] [(0, 4, (.t 13))]),
 oP 15 (.move (.t 1)),
 oQ 16 (.call 1 91 [(.t 14), (.t 15)]),
 oP 4 (.move (.t 16)),
 oP 5 (.move (.c (.int .i64 0)))])
 (.ret)))⟩
/-- almadraba/almadrabaref05.Need -/
def f58 : AFn := ⟨18, [.tmp 4, .tmp 5],
 .seq (.region 0 [oQ 2 (.box (.t 0)),
 oP 4 (.move (.c (.int .i64 0))),
 oP 5 (.move (.c (.int .i64 0)))])
 (.seq (.seq (.region 0 [oQ 7 (.load true 4 (.t 2)),
 oQ 8 (.load true 4 (.t 2)),
 oP 9 (.move (.t 1)),
 oQ 10 (.call 1 25 [(.t 8), (.t 9)]),
 oQ 11 (.call 1 89 [(.t 7), (.t 10)]),
 oP 6 (.move (.t 11))])
 (.seq (.region 0 [oP 12 (.move (.t 6)),
 oP 13 (.bin .neq (.t 12) (.c (.int .i64 0)))])
 (.cond (.t 13) (.seq (.region 0 [oP 14 (.move (.t 6)),
 oP 4 (.move (.c (.int .i64 0))),
 oP 5 (.move (.t 14))])
 (.ret))
 (.skip))))
 (.seq (.region 0 [oQ 15 (.load true 4 (.t 2)),
 oP 16 (.move (.t 1)),
 oQ 17 (.call 1 92 [(.t 15), (.t 16)]),
 oP 4 (.move (.t 17)),
 oP 5 (.move (.c (.int .i64 0)))])
 (.ret)))⟩
/-- almadraba/almadrabalaw05.Same -/
def f59 : AFn := ⟨66, [.tmp 4],
 .seq (.region 0 [oQ 2 (.box (.t 0)),
 oQ 3 (.box (.t 1)),
 oP 4 (.move (.c (.bool false)))])
 (.seq (.seq (.region 0 [oP 7 (.fieldAddr 0 (.t 2)),
 oQ 8 (.load true 2 (.t 7)),
 oP 9 (.fieldAddr 0 (.t 3)),
 oQ 10 (.load true 2 (.t 9)),
 oP 11 (.eqS true [true, true] (.t 8) (.t 10)),
 oP 12 (.move (.t 11)),
 oG 13 12 false (.fieldAddr 2 (.t 2)),
 ⟨(some 14), .load false 1 (.t 13), (some (12, false)), none, []⟩,
 oG 15 12 false (.lenS (.t 14)),
 oG 16 12 false (.fieldAddr 2 (.t 3)),
 ⟨(some 17), .load false 1 (.t 16), (some (12, false)), none, []⟩,
 oG 18 12 false (.lenS (.t 17)),
 oG 19 12 false (.bin .neq (.t 15) (.t 18)),
 oP 20 (.pick (.t 12) (.c (.bool true)) (.t 19)),
 oP 21 (.move (.t 20)),
 oG 22 21 false (.fieldAddr 3 (.t 2)),
 ⟨(some 23), .load false 1 (.t 22), (some (21, false)), none, []⟩,
 oG 24 21 false (.lenS (.t 23)),
 oG 25 21 false (.fieldAddr 3 (.t 3)),
 ⟨(some 26), .load false 1 (.t 25), (some (21, false)), none, []⟩,
 oG 27 21 false (.lenS (.t 26)),
 oG 28 21 false (.bin .neq (.t 24) (.t 27)),
 oP 29 (.pick (.t 21) (.c (.bool true)) (.t 28))])
 (.cond (.t 29) (.seq (.region 0 [oP 4 (.move (.c (.bool false)))])
 (.ret))
 (.skip)))
 (.seq (.seq (.region 0 [oP 5 (.move (.c (.int .i64 0)))])
 (.block 0 (.loop (.seq (.seq (.region 0 [oP 30 (.move (.t 5)),
 oP 31 (.fieldAddr 2 (.t 2)),
 oQ 32 (.load false 1 (.t 31)),
 oP 33 (.lenS (.t 32)),
 oP 34 (.bin .lss (.t 30) (.t 33))])
 (.cond (.t 34) (.skip)
 (.exit 0)))
 (.seq (.block 1 (.seq (.region 0 [oP 37 (.fieldAddr 2 (.t 2)),
 oQ 38 (.load false 1 (.t 37)),
 oP 39 (.move (.t 5)),
 oP 40 (.idxSl 2 (.t 38) (.t 39)),
 oQ 41 (.load true 2 (.t 40)),
 oP 42 (.fieldAddr 2 (.t 3)),
 oQ 43 (.load false 1 (.t 42)),
 oP 44 (.move (.t 5)),
 oP 45 (.idxSl 2 (.t 43) (.t 44)),
 oQ 46 (.load true 2 (.t 45)),
 oP 47 (.eqS true [true, true] (.t 41) (.t 46))])
 (.cond (.t 47) (.seq (.region 0 [oP 4 (.move (.c (.bool false)))])
 (.ret))
 (.skip))))
 (.region 0 [oP 35 (.move (.t 5)),
 oP 36 (.bin .add (.t 35) (.c (.int .i64 1))),
 oP 5 (.move (.t 36))]))))))
 (.seq (.seq (.region 0 [oP 6 (.move (.c (.int .i64 0)))])
 (.block 2 (.loop (.seq (.seq (.region 0 [oP 48 (.move (.t 6)),
 oP 49 (.fieldAddr 3 (.t 2)),
 oQ 50 (.load false 1 (.t 49)),
 oP 51 (.lenS (.t 50)),
 oP 52 (.bin .lss (.t 48) (.t 51))])
 (.cond (.t 52) (.skip)
 (.exit 2)))
 (.seq (.block 3 (.seq (.region 0 [oP 55 (.fieldAddr 3 (.t 2)),
 oQ 56 (.load false 1 (.t 55)),
 oP 57 (.move (.t 6)),
 oP 58 (.idxSl 2 (.t 56) (.t 57)),
 oQ 59 (.load true 2 (.t 58)),
 oP 60 (.fieldAddr 3 (.t 3)),
 oQ 61 (.load false 1 (.t 60)),
 oP 62 (.move (.t 6)),
 oP 63 (.idxSl 2 (.t 61) (.t 62)),
 oQ 64 (.load true 2 (.t 63)),
 oP 65 (.eqS true [true, true] (.t 59) (.t 64))])
 (.cond (.t 65) (.seq (.region 0 [oP 4 (.move (.c (.bool false)))])
 (.ret))
 (.skip))))
 (.region 0 [oP 53 (.move (.t 6)),
 oP 54 (.bin .add (.t 53) (.c (.int .i64 1))),
 oP 6 (.move (.t 54))]))))))
 (.seq (.region 0 [oP 4 (.move (.c (.bool true)))])
 (.ret)))))⟩
/-- almadraba/almadrabaref05.Safe -/
def f60 : AFn := ⟨37, [.tmp 4, .tmp 5],
 .seq (.region 0 [oQ 2 (.box (.t 0)),
 oP 4 (.move (.c (.int .i64 0))),
 oP 5 (.move (.c (.int .i64 0)))])
 (.seq (.seq (.region 0 [oQ 9 (.load true 4 (.t 2)),
 oP 10 (.move (.t 1)),
 oQ 11 (.call 1 93 [(.t 9), (.t 10)]),
 oP 6 (.move (.t 11))])
 (.seq (.region 0 [oP 12 (.move (.t 6)),
 oP 13 (.bin .neq (.t 12) (.c (.int .i64 0)))])
 (.cond (.t 13) (.seq (.region 0 [oP 14 (.move (.t 6)),
 oP 4 (.move (.c (.int .i64 0))),
 oP 5 (.move (.t 14))])
 (.ret))
 (.skip))))
 (.seq (.seq (.region 0 [oQ 15 (.load true 4 (.t 2)),
 oP 16 (.move (.t 1)),
 oQ 17 (.call 1 94 [(.t 15), (.t 16)])])
 (.cond (.t 17) (.seq (.region 0 [oP 4 (.move (.c (.int .i64 1))),
 oP 5 (.move (.c (.int .i64 0)))])
 (.ret))
 (.skip)))
 (.seq (.region 0 [oQ 18 (.load true 4 (.t 2)),
 oQ 19 (.call 1 95 [(.t 18), (.c (.nils))]),
 oP 7 (.move (.t 19))])
 (.seq (.seq (.region 0 [oP 8 (.move (.c (.int .i64 0)))])
 (.block 0 (.loop (.seq (.seq (.region 0 [oP 20 (.move (.t 8)),
 oP 21 (.move (.t 7)),
 oP 22 (.lenS (.t 21)),
 oP 23 (.bin .lss (.t 20) (.t 22))])
 (.cond (.t 23) (.skip)
 (.exit 0)))
 (.seq (.block 1 (.seq (.region 0 [oQ 26 (.load true 4 (.t 2)),
 oP 27 (.move (.t 1)),
 oP 28 (.fieldAddr 0 (.t 2)),
 oP 29 (.fieldAddr 0 (.t 28)),
 oQ 30 (.load false 1 (.t 29)),
 oP 31 (.move (.t 7)),
 oP 32 (.move (.t 8)),
 oP 33 (.idxSl 1 (.t 31) (.t 32)),
 oQ 34 (.load false 1 (.t 33)),
 oQ 35 (.call 1 30 [(.t 26), (.t 27), (.t 30), (.t 34)]),
 oP 36 (.un .not (.t 35))])
 (.cond (.t 36) (.seq (.region 0 [oP 4 (.move (.c (.int .i64 3))),
 oP 5 (.move (.c (.int .i64 0)))])
 (.ret))
 (.skip))))
 (.region 0 [oP 24 (.move (.t 8)),
 oP 25 (.bin .add (.t 24) (.c (.int .i64 1))),
 oP 8 (.move (.t 25))]))))))
 (.seq (.region 0 [oP 4 (.move (.c (.int .i64 2))),
 oP 5 (.move (.c (.int .i64 0)))])
 (.ret))))))⟩
/-- almadraba/lifts.Lifts -/
def f61 : AFn := ⟨17, [.tmp 4, .tmp 5],
 .seq (.region 0 [oQ 2 (.box (.t 0)),
 oP 4 (.move (.c (.int .i64 0))),
 oP 5 (.move (.c (.int .i64 0)))])
 (.seq (.seq (.region 0 [oQ 7 (.load true 4 (.t 2)),
 oP 8 (.move (.t 1)),
 oQ 9 (.call 1 78 [(.t 7), (.t 8)]),
 oP 6 (.move (.t 9))])
 (.seq (.region 0 [oP 10 (.move (.t 6)),
 oP 11 (.bin .neq (.t 10) (.c (.int .i64 0)))])
 (.cond (.t 11) (.seq (.region 0 [oP 12 (.move (.t 6)),
 oP 4 (.move (.c (.int .i64 0))),
 oP 5 (.move (.t 12))])
 (.ret))
 (.skip))))
 (.seq (.region 0 [oQ 13 (.load true 4 (.t 2)),
 oP 14 (.build [.int .i64 0, .int .i64 0, .nils, .nils] [(0, 4, (.t 13))]),
 oP 15 (.move (.t 1)),
 oQ 16 (.call 1 96 [(.t 14), (.t 15)]),
 oP 4 (.move (.t 16)),
 oP 5 (.move (.c (.int .i64 0)))])
 (.ret)))⟩
/-- almadraba/almadrabaref05.Lifts -/
def f62 : AFn := ⟨18, [.tmp 4, .tmp 5],
 .seq (.region 0 [oQ 2 (.box (.t 0)),
 oP 4 (.move (.c (.int .i64 0))),
 oP 5 (.move (.c (.int .i64 0)))])
 (.seq (.seq (.region 0 [oQ 7 (.load true 4 (.t 2)),
 oP 8 (.move (.t 1)),
 oQ 9 (.call 1 93 [(.t 7), (.t 8)]),
 oP 6 (.move (.t 9))])
 (.seq (.region 0 [oP 10 (.move (.t 6)),
 oP 11 (.bin .neq (.t 10) (.c (.int .i64 0)))])
 (.cond (.t 11) (.seq (.region 0 [oP 12 (.move (.t 6)),
 oP 4 (.move (.c (.int .i64 0))),
 oP 5 (.move (.t 12))])
 (.ret))
 (.skip))))
 (.seq (.region 0 [oQ 13 (.load true 4 (.t 2)),
 oP 14 (.move (.t 1)),
 oQ 15 (.load true 4 (.t 2)),
 oQ 16 (.call 1 98 [(.t 15)]),
 oQ 17 (.call 1 97 [(.t 13), (.t 14), (.t 16)]),
 oP 4 (.move (.t 17)),
 oP 5 (.move (.c (.int .i64 0)))])
 (.ret)))⟩
/-- almadraba/almadrabaref05.First -/
def f63 : AFn := ⟨47, [.tmp 4, .tmp 5],
 .seq (.region 0 [oQ 2 (.box (.t 0)),
 oP 4 (.move (.c (.int .i64 0))),
 oP 5 (.move (.c (.int .i64 0)))])
 (.seq (.seq (.region 0 [oQ 9 (.load true 4 (.t 2)),
 oP 10 (.move (.t 1)),
 oQ 11 (.call 1 93 [(.t 9), (.t 10)]),
 oP 6 (.move (.t 11))])
 (.seq (.region 0 [oP 12 (.move (.t 6)),
 oP 13 (.bin .neq (.t 12) (.c (.int .i64 0)))])
 (.cond (.t 13) (.seq (.region 0 [oP 14 (.move (.t 6)),
 oP 4 (.move (.c (.int .i64 0))),
 oP 5 (.move (.t 14))])
 (.ret))
 (.skip))))
 (.seq (.region 0 [oQ 15 (.load true 4 (.t 2)),
 oP 16 (.move (.t 1)),
 oQ 17 (.load true 4 (.t 2)),
 oQ 18 (.call 1 98 [(.t 17)]),
 oQ 19 (.call 1 97 [(.t 15), (.t 16), (.t 18)]),
 oP 7 (.move (.t 19))])
 (.seq (.seq (.region 0 [oP 8 (.move (.c (.int .i64 0)))])
 (.block 0 (.loop (.seq (.seq (.region 0 [oP 20 (.move (.t 8)),
 oP 21 (.move (.t 1)),
 oP 22 (.lenS (.t 21)),
 oP 23 (.bin .lss (.t 20) (.t 22)),
 oP 24 (.move (.t 23)),
 oG 25 24 true (.move (.t 7)),
 oG 26 24 true (.bin .lss (.t 25) (.c (.int .i64 2000))),
 oP 27 (.pick (.t 24) (.t 26) (.c (.bool false)))])
 (.cond (.t 27) (.skip)
 (.exit 0)))
 (.seq (.block 1 (.seq (.region 0 [oP 30 (.fieldAddr 3 (.t 2)),
 oQ 31 (.load false 1 (.t 30)),
 oP 32 (.move (.t 1)),
 oP 33 (.move (.t 8)),
 oP 34 (.idxSl 1 (.t 32) (.t 33)),
 oQ 35 (.load false 1 (.t 34)),
 oP 36 (.idxSl 2 (.t 31) (.t 35)),
 oP 37 (.fieldAddr 0 (.t 36)),
 oQ 38 (.load false 1 (.t 37)),
 oQ 39 (.load true 4 (.t 2)),
 oP 40 (.move (.t 8)),
 oQ 41 (.call 1 90 [(.t 39), (.t 40)]),
 oP 42 (.field false 1 1 (.t 41)),
 oQ 43 (.call 1 99 [(.t 38), (.t 42)]),
 oP 44 (.move (.t 7)),
 oP 45 (.bin .eql (.t 43) (.t 44))])
 (.cond (.t 45) (.seq (.region 0 [oP 46 (.move (.t 8)),
 oP 4 (.move (.t 46)),
 oP 5 (.move (.c (.int .i64 0)))])
 (.ret))
 (.skip))))
 (.region 0 [oP 28 (.move (.t 8)),
 oP 29 (.bin .add (.t 28) (.c (.int .i64 1))),
 oP 8 (.move (.t 29))]))))))
 (.seq (.region 0 [oP 4 (.move (.c (.int .i64 0))),
 oP 5 (.move (.c (.int .i64 3)))])
 (.ret)))))⟩
/-- almadraba/almadrabaref05.Swap -/
def f64 : AFn := ⟨50, [.cell true 2 4, .tmp 5],
 .seq (.region 0 [oQ 2 (.box (.t 0)),
 oQ 4 (.alloc [.int .i64 0, .int .i64 0]),
 oP 5 (.move (.c (.int .i64 0)))])
 (.seq (.seq (.region 0 [oQ 11 (.load true 4 (.t 2)),
 oP 12 (.move (.t 1)),
 oQ 13 (.call 1 93 [(.t 11), (.t 12)]),
 oP 6 (.move (.t 13))])
 (.seq (.region 0 [oP 14 (.move (.t 6)),
 oP 15 (.bin .neq (.t 14) (.c (.int .i64 0)))])
 (.cond (.t 15) (.seq (.region 0 [oP 16 (.build [.int .i64 0, .int .i64 0] []),
 oP 17 (.move (.t 6)),
 ⟨none, .store 2 (.t 4) (.t 16), none, none, []⟩,
 oP 5 (.move (.t 17))])
 (.ret))
 (.skip))))
 (.seq (.region 0 [oQ 18 (.load true 4 (.t 2)),
 oQ 19 (.call 1 98 [(.t 18)]),
 oP 7 (.move (.t 19))])
 (.seq (.seq (.region 0 [oP 8 (.move (.c (.int .i64 0)))])
 (.block 0 (.loop (.seq (.seq (.region 0 [oP 20 (.move (.t 8)),
 oP 21 (.move (.t 1)),
 oP 22 (.lenS (.t 21)),
 oP 23 (.bin .lss (.t 20) (.t 22))])
 (.cond (.t 23) (.skip)
 (.exit 0)))
 (.seq (.block 1 (.seq (.region 0 [oP 26 (.move (.t 8)),
 oP 27 (.bin .add (.t 26) (.c (.int .i64 1))),
 oP 9 (.move (.t 27))])
 (.block 2 (.loop (.seq (.seq (.region 0 [oP 28 (.move (.t 9)),
 oP 29 (.move (.t 1)),
 oP 30 (.lenS (.t 29)),
 oP 31 (.bin .lss (.t 28) (.t 30))])
 (.cond (.t 31) (.skip)
 (.exit 2)))
 (.seq (.block 3 (.seq (.region 0 [oP 34 (.move (.t 8)),
 oP 35 (.move (.t 9)),
 oP 36 (.build [.int .i64 0, .int .i64 0] [(0, 1, (.t 34)), (1, 1, (.t 35))]),
 oQ 10 (.alloc [.int .i64 0, .int .i64 0]),
 ⟨none, .store 2 (.t 10) (.t 36), none, none, []⟩])
 (.seq (.region 0 [oQ 37 (.load true 4 (.t 2)),
 oP 38 (.move (.t 1)),
 oQ 39 (.load true 2 (.t 10)),
 oQ 40 (.call 1 43 [(.t 38), (.t 39)]),
 oP 41 (.move (.t 7)),
 oQ 42 (.call 1 97 [(.t 37), (.t 40), (.t 41)]),
 oQ 43 (.load true 4 (.t 2)),
 oP 44 (.move (.t 1)),
 oP 45 (.move (.t 7)),
 oQ 46 (.call 1 97 [(.t 43), (.t 44), (.t 45)]),
 oP 47 (.bin .gtr (.t 42) (.t 46))])
 (.cond (.t 47) (.seq (.region 0 [oQ 48 (.load true 2 (.t 10)),
 ⟨none, .store 2 (.t 4) (.t 48), none, none, []⟩,
 oP 5 (.move (.c (.int .i64 0)))])
 (.ret))
 (.skip)))))
 (.region 0 [oP 32 (.move (.t 9)),
 oP 33 (.bin .add (.t 32) (.c (.int .i64 1))),
 oP 9 (.move (.t 33))])))))))
 (.region 0 [oP 24 (.move (.t 8)),
 oP 25 (.bin .add (.t 24) (.c (.int .i64 1))),
 oP 8 (.move (.t 25))]))))))
 (.seq (.region 0 [oP 49 (.build [.int .i64 0, .int .i64 0] []),
 ⟨none, .store 2 (.t 4) (.t 49), none, none, []⟩,
 oP 5 (.move (.c (.int .i64 3)))])
 (.ret)))))⟩
/-- almadraba/almadrabaref05.Cheap -/
def f65 : AFn := ⟨17, [.tmp 2, .tmp 3],
 .seq (.region 0 [oQ 1 (.box (.t 0)),
 oP 2 (.move (.c (.int .i64 0))),
 oP 3 (.move (.c (.int .i64 0)))])
 (.seq (.region 0 [oQ 7 (.load true 4 (.t 1)),
 oQ 8 (.call 1 66 [(.t 7)]),
 oP 6 (.move (.t 8)),
 oP 9 (.extract (.t 6) 0),
 oP 10 (.extract (.t 6) 1),
 oP 4 (.move (.t 9)),
 oP 5 (.move (.t 10))])
 (.seq (.seq (.region 0 [oP 11 (.move (.t 5)),
 oP 12 (.bin .neq (.t 11) (.c (.int .i64 0)))])
 (.cond (.t 12) (.seq (.region 0 [oP 13 (.move (.t 5)),
 oP 2 (.move (.c (.int .i64 0))),
 oP 3 (.move (.t 13))])
 (.ret))
 (.skip)))
 (.seq (.region 0 [oQ 14 (.load true 4 (.t 1)),
 oP 15 (.move (.t 4)),
 oQ 16 (.call 1 36 [(.t 14), (.t 15)]),
 oP 2 (.move (.t 16)),
 oP 3 (.move (.c (.int .i64 0)))])
 (.ret))))⟩
/-- almadraba/almadrabaref05.Crew -/
def f66 : AFn := ⟨56, [.tmp 2, .tmp 3],
 .seq (.region 0 [oQ 1 (.box (.t 0)),
 oP 2 (.move (.c (.nils))),
 oP 3 (.move (.c (.int .i64 0)))])
 (.seq (.seq (.region 0 [oQ 9 (.load true 4 (.t 1)),
 oQ 10 (.call 1 53 [(.t 9)]),
 oP 4 (.move (.t 10))])
 (.seq (.region 0 [oP 11 (.move (.t 4)),
 oP 12 (.bin .neq (.t 11) (.c (.int .i64 0)))])
 (.cond (.t 12) (.seq (.region 0 [oP 13 (.move (.t 4)),
 oP 2 (.move (.c (.nils))),
 oP 3 (.move (.t 13))])
 (.ret))
 (.skip))))
 (.seq (.region 0 [oP 5 (.move (.c (.nils)))])
 (.seq (.region 0 [oQ 14 (.load true 4 (.t 1)),
 oQ 15 (.call 1 100 [(.t 14), (.c (.nils))]),
 oQ 16 (.load true 4 (.t 1)),
 oQ 17 (.call 1 101 [(.t 16)]),
 oP 6 (.move (.t 15)),
 oP 7 (.move (.t 17))])
 (.seq (.seq (.region 0 [oP 8 (.move (.c (.int .i64 0)))])
 (.block 0 (.loop (.seq (.seq (.region 0 [oP 18 (.move (.t 8)),
 oP 19 (.move (.t 6)),
 oP 20 (.lenS (.t 19)),
 oP 21 (.bin .lss (.t 18) (.t 20))])
 (.cond (.t 21) (.skip)
 (.exit 0)))
 (.seq (.block 1 (.seq (.region 0 [oQ 24 (.load true 4 (.t 1)),
 oP 25 (.move (.t 6)),
 oP 26 (.move (.t 8)),
 oP 27 (.idxSl 1 (.t 25) (.t 26)),
 oQ 28 (.load false 1 (.t 27)),
 oP 29 (.move (.t 7)),
 oQ 30 (.call 1 29 [(.t 24), (.t 28), (.t 29)]),
 oP 31 (.move (.t 30)),
 oG 32 31 true (.move (.t 5)),
 oG 33 31 true (.lenS (.t 32)),
 oG 34 31 true (.bin .eql (.t 33) (.c (.int .i64 0))),
 oG 35 31 true (.move (.t 34)),
 ⟨(some 36), .load true 4 (.t 1), (some (35, false)), none, []⟩,
 oG 37 35 false (.move (.t 6)),
 oG 38 35 false (.move (.t 8)),
 oG 39 35 false (.idxSl 1 (.t 37) (.t 38)),
 ⟨(some 40), .load false 1 (.t 39), (some (35, false)), none, []⟩,
 ⟨(some 41), .call 1 36 [(.t 36), (.t 40)], (some (35, false)), none, []⟩,
 ⟨(some 42), .load true 4 (.t 1), (some (35, false)), none, []⟩,
 oG 43 35 false (.move (.t 5)),
 ⟨(some 44), .call 1 36 [(.t 42), (.t 43)], (some (35, false)), none, []⟩,
 oG 45 35 false (.bin .lss (.t 41) (.t 44)),
 oG 46 31 true (.pick (.t 35) (.c (.bool true)) (.t 45)),
 oP 47 (.pick (.t 31) (.t 46) (.c (.bool false)))])
 (.cond (.t 47) (.region 0 [oP 48 (.move (.t 6)),
 oP 49 (.move (.t 8)),
 oP 50 (.idxSl 1 (.t 48) (.t 49)),
 oQ 51 (.load false 1 (.t 50)),
 oP 5 (.move (.t 51))])
 (.skip))))
 (.region 0 [oP 22 (.move (.t 8)),
 oP 23 (.bin .add (.t 22) (.c (.int .i64 1))),
 oP 8 (.move (.t 23))]))))))
 (.seq (.seq (.region 0 [oP 52 (.move (.t 5)),
 oP 53 (.lenS (.t 52)),
 oP 54 (.bin .eql (.t 53) (.c (.int .i64 0)))])
 (.cond (.t 54) (.seq (.region 0 [oP 2 (.move (.c (.nils))),
 oP 3 (.move (.c (.int .i64 3)))])
 (.ret))
 (.skip)))
 (.seq (.region 0 [oP 55 (.move (.t 5)),
 oP 2 (.move (.t 55)),
 oP 3 (.move (.c (.int .i64 0)))])
 (.ret)))))))⟩
/-- almadraba/lifts.Most -/
def f67 : AFn := ⟨13, [.tmp 2, .tmp 3],
 .seq (.region 0 [oQ 1 (.box (.t 0)),
 oP 2 (.move (.c (.int .i64 0))),
 oP 3 (.move (.c (.int .i64 0)))])
 (.seq (.seq (.region 0 [oQ 5 (.load true 4 (.t 1)),
 oQ 6 (.call 1 85 [(.t 5)]),
 oP 4 (.move (.t 6))])
 (.seq (.region 0 [oP 7 (.move (.t 4)),
 oP 8 (.bin .neq (.t 7) (.c (.int .i64 0)))])
 (.cond (.t 8) (.seq (.region 0 [oP 9 (.move (.t 4)),
 oP 2 (.move (.c (.int .i64 0))),
 oP 3 (.move (.t 9))])
 (.ret))
 (.skip))))
 (.seq (.region 0 [oQ 10 (.load true 4 (.t 1)),
 oP 11 (.build [.int .i64 0, .int .i64 0, .nils, .nils] [(0, 4, (.t 10))]),
 oQ 12 (.call 1 102 [(.t 11)]),
 oP 2 (.move (.t 12)),
 oP 3 (.move (.c (.int .i64 0)))])
 (.ret)))⟩
/-- almadraba/almadrabaref05.Most -/
def f68 : AFn := ⟨12, [.tmp 2, .tmp 3],
 .seq (.region 0 [oQ 1 (.box (.t 0)),
 oP 2 (.move (.c (.int .i64 0))),
 oP 3 (.move (.c (.int .i64 0)))])
 (.seq (.seq (.region 0 [oQ 5 (.load true 4 (.t 1)),
 oQ 6 (.call 1 103 [(.t 5)]),
 oP 4 (.move (.t 6))])
 (.seq (.region 0 [oP 7 (.move (.t 4)),
 oP 8 (.bin .neq (.t 7) (.c (.int .i64 0)))])
 (.cond (.t 8) (.seq (.region 0 [oP 9 (.move (.t 4)),
 oP 2 (.move (.c (.int .i64 0))),
 oP 3 (.move (.t 9))])
 (.ret))
 (.skip))))
 (.seq (.region 0 [oQ 10 (.load true 4 (.t 1)),
 oQ 11 (.call 1 104 [(.t 10)]),
 oP 2 (.move (.t 11)),
 oP 3 (.move (.c (.int .i64 0)))])
 (.ret)))⟩
/-- almadraba/almadrabaref05.Short -/
def f69 : AFn := ⟨48, [.tmp 2, .tmp 3],
 .seq (.region 0 [oQ 1 (.box (.t 0)),
 oP 2 (.move (.c (.nils))),
 oP 3 (.move (.c (.int .i64 0)))])
 (.seq (.seq (.region 0 [oQ 9 (.load true 4 (.t 1)),
 oQ 10 (.call 1 53 [(.t 9)]),
 oP 4 (.move (.t 10))])
 (.seq (.region 0 [oP 11 (.move (.t 4)),
 oP 12 (.bin .neq (.t 11) (.c (.int .i64 0)))])
 (.cond (.t 12) (.seq (.region 0 [oP 13 (.move (.t 4)),
 oP 2 (.move (.c (.nils))),
 oP 3 (.move (.t 13))])
 (.ret))
 (.skip))))
 (.seq (.region 0 [oQ 14 (.load true 4 (.t 1)),
 oQ 15 (.call 1 101 [(.t 14)]),
 oP 5 (.move (.t 15))])
 (.seq (.seq (.region 0 [oP 6 (.move (.c (.int .i64 1)))])
 (.block 0 (.loop (.seq (.seq (.region 0 [oP 16 (.move (.t 6)),
 oP 17 (.fieldAddr 2 (.t 1)),
 oQ 18 (.load false 1 (.t 17)),
 oP 19 (.lenS (.t 18)),
 oP 20 (.bin .leq (.t 16) (.t 19))])
 (.cond (.t 20) (.skip)
 (.exit 0)))
 (.seq (.block 1 (.seq (.region 0 [oP 23 (.move (.t 6)),
 oP 24 (.fieldAddr 2 (.t 1)),
 oQ 25 (.load false 1 (.t 24)),
 oP 26 (.lenS (.t 25)),
 oQ 27 (.call 1 105 [(.c (.nils)), (.t 23), (.t 26)]),
 oP 7 (.move (.t 27))])
 (.seq (.region 0 [oP 8 (.move (.c (.int .i64 0)))])
 (.block 2 (.loop (.seq (.seq (.region 0 [oP 28 (.move (.t 8)),
 oP 29 (.move (.t 7)),
 oP 30 (.lenS (.t 29)),
 oP 31 (.bin .lss (.t 28) (.t 30))])
 (.cond (.t 31) (.skip)
 (.exit 2)))
 (.seq (.block 3 (.seq (.region 0 [oQ 34 (.load true 4 (.t 1)),
 oP 35 (.move (.t 5)),
 oP 36 (.move (.t 7)),
 oP 37 (.move (.t 8)),
 oP 38 (.idxSl 1 (.t 36) (.t 37)),
 oQ 39 (.load false 1 (.t 38)),
 oQ 40 (.call 1 46 [(.t 35), (.t 39)]),
 oQ 41 (.call 1 45 [(.t 34), (.t 40)]),
 oP 42 (.move (.t 6)),
 oP 43 (.bin .lss (.t 41) (.t 42))])
 (.cond (.t 43) (.seq (.region 0 [oP 44 (.move (.t 7)),
 oP 45 (.move (.t 8)),
 oP 46 (.idxSl 1 (.t 44) (.t 45)),
 oQ 47 (.load false 1 (.t 46)),
 oP 2 (.move (.t 47)),
 oP 3 (.move (.c (.int .i64 0)))])
 (.ret))
 (.skip))))
 (.region 0 [oP 32 (.move (.t 8)),
 oP 33 (.bin .add (.t 32) (.c (.int .i64 1))),
 oP 8 (.move (.t 33))]))))))))
 (.region 0 [oP 21 (.move (.t 6)),
 oP 22 (.bin .add (.t 21) (.c (.int .i64 1))),
 oP 6 (.move (.t 22))]))))))
 (.seq (.region 0 [oP 2 (.move (.c (.nils))),
 oP 3 (.move (.c (.int .i64 3)))])
 (.ret)))))⟩
/-- almadraba/almadrabaref05.Helps -/
def f70 : AFn := ⟨31, [.tmp 2, .tmp 3],
 .seq (.region 0 [oQ 1 (.box (.t 0)),
 oP 2 (.move (.c (.nils))),
 oP 3 (.move (.c (.int .i64 0)))])
 (.seq (.seq (.region 0 [oQ 7 (.load true 4 (.t 1)),
 oQ 8 (.call 1 103 [(.t 7)]),
 oP 4 (.move (.t 8))])
 (.seq (.region 0 [oP 9 (.move (.t 4)),
 oP 10 (.bin .neq (.t 9) (.c (.int .i64 0)))])
 (.cond (.t 10) (.seq (.region 0 [oP 11 (.move (.t 4)),
 oP 2 (.move (.c (.nils))),
 oP 3 (.move (.t 11))])
 (.ret))
 (.skip))))
 (.seq (.region 0 [oP 5 (.move (.c (.nils)))])
 (.seq (.seq (.region 0 [oP 6 (.move (.c (.int .i64 0)))])
 (.block 0 (.loop (.seq (.seq (.region 0 [oP 12 (.move (.t 6)),
 oP 13 (.fieldAddr 3 (.t 1)),
 oQ 14 (.load false 1 (.t 13)),
 oP 15 (.lenS (.t 14)),
 oP 16 (.bin .lss (.t 12) (.t 15))])
 (.cond (.t 16) (.skip)
 (.exit 0)))
 (.seq (.block 1 (.seq (.region 0 [oQ 19 (.load true 4 (.t 1)),
 oP 20 (.move (.t 6)),
 oQ 21 (.call 1 41 [(.t 19), (.t 20)]),
 oQ 22 (.call 1 104 [(.t 21)]),
 oQ 23 (.load true 4 (.t 1)),
 oQ 24 (.call 1 104 [(.t 23)]),
 oP 25 (.bin .gtr (.t 22) (.t 24))])
 (.cond (.t 25) (.region 0 [oP 26 (.move (.t 5)),
 oP 27 (.move (.t 6)),
 oQ 28 (.litS 1 1 [.int .i64 0] [(0, (.t 27))]),
 oQ 29 (.append false 1 8 (.t 26) (.t 28)),
 oP 5 (.move (.t 29))])
 (.skip))))
 (.region 0 [oP 17 (.move (.t 6)),
 oP 18 (.bin .add (.t 17) (.c (.int .i64 1))),
 oP 6 (.move (.t 18))]))))))
 (.seq (.region 0 [oP 30 (.move (.t 5)),
 oP 2 (.move (.t 30)),
 oP 3 (.move (.c (.int .i64 0)))])
 (.ret)))))⟩
/-- almadraba/almadrabaref05.within -/
def f71 : AFn := ⟨11, [.tmp 6],
 .seq (.region 0 [oP 6 (.move (.c (.bool false)))])
 (.seq (.region 0 [oP 7 (.move (.t 0)),
 oP 8 (.move (.t 1)),
 oP 9 (.move (.t 2)),
 oQ 10 (.call 1 17 [(.t 7), (.t 8), (.t 9)]),
 oP 6 (.move (.t 10))])
 (.ret))⟩
/-- almadraba/almadrabaref01.Sum -/
def f72 : AFn := ⟨18, [.tmp 2],
 .seq (.region 0 [oP 2 (.move (.c (.int .i64 0)))])
 (.seq (.region 0 [oP 3 (.move (.c (.int .i64 0)))])
 (.seq (.seq (.region 0 [oP 4 (.move (.c (.int .i64 0)))])
 (.block 0 (.loop (.seq (.seq (.region 0 [oP 5 (.move (.t 4)),
 oP 6 (.move (.t 0)),
 oP 7 (.lenS (.t 6)),
 oP 8 (.bin .lss (.t 5) (.t 7))])
 (.cond (.t 8) (.skip)
 (.exit 0)))
 (.seq (.block 1 (.region 0 [oP 11 (.move (.t 3)),
 oP 12 (.move (.t 0)),
 oP 13 (.move (.t 4)),
 oP 14 (.idxSl 1 (.t 12) (.t 13)),
 oQ 15 (.load false 1 (.t 14)),
 oP 16 (.bin .add (.t 11) (.t 15)),
 oP 3 (.move (.t 16))]))
 (.region 0 [oP 9 (.move (.t 4)),
 oP 10 (.bin .add (.t 9) (.c (.int .i64 1))),
 oP 4 (.move (.t 10))]))))))
 (.seq (.region 0 [oP 17 (.move (.t 3)),
 oP 2 (.move (.t 17))])
 (.ret))))⟩
/-- almadraba/almadrabalaw05.Example -/
def f73 : AFn := ⟨27, [.cell true 4 0, .cell true 4 1],
 .seq (.region 0 [oQ 0 (.alloc [.int .i64 0, .int .i64 0, .nils, .nils]),
 oQ 1 (.alloc [.int .i64 0, .int .i64 0, .nils, .nils])])
 (.seq (.region 0 [oP 2 (.build [.int .i64 0, .int .i64 0] [(0, 1, (.c (.int .i64 100))), (1, 1, (.c (.int .i64 120)))]),
 oP 3 (.build [.int .i64 0, .int .i64 0] [(0, 1, (.c (.int .i64 2))), (1, 1, (.c (.int .i64 6)))]),
 oP 4 (.build [.int .i64 0, .int .i64 0] [(0, 1, (.c (.int .i64 3))), (1, 1, (.c (.int .i64 5)))]),
 oP 5 (.build [.int .i64 0, .int .i64 0] [(0, 1, (.c (.int .i64 4))), (1, 1, (.c (.int .i64 6)))]),
 oQ 6 (.litS 2 3 [.int .i64 0, .int .i64 0] [(0, (.t 3)), (1, (.t 4)), (2, (.t 5))]),
 oP 7 (.build [.int .i64 0, .int .i64 0] [(0, 1, (.c (.int .i64 50))), (1, 1, (.c (.int .i64 4)))]),
 oP 8 (.build [.int .i64 0, .int .i64 0] [(0, 1, (.c (.int .i64 60))), (1, 1, (.c (.int .i64 7)))]),
 oP 9 (.build [.int .i64 0, .int .i64 0] [(0, 1, (.c (.int .i64 45))), (1, 1, (.c (.int .i64 2)))]),
 oP 10 (.build [.int .i64 0, .int .i64 0] [(0, 1, (.c (.int .i64 70))), (1, 1, (.c (.int .i64 9)))]),
 oQ 11 (.litS 2 4 [.int .i64 0, .int .i64 0] [(0, (.t 7)), (1, (.t 8)), (2, (.t 9)), (3, (.t 10))]),
 oP 12 (.build [.int .i64 0, .int .i64 0, .nils, .nils] [(0, 2, (.t 2)), (2, 1, (.t 6)), (3, 1, (.t 11))]),
 ⟨none, .store 4 (.t 0) (.t 12), none, none, []⟩])
 (.seq (.region 0 [oQ 13 (.load true 4 (.t 0)),
 oQ 14 (.call 1 40 [(.t 13)]),
 ⟨none, .store 4 (.t 1) (.t 14), none, none, []⟩])
 (.seq (.region 0 [oP 15 (.fieldAddr 3 (.t 0)),
 oQ 16 (.load false 1 (.t 15)),
 oP 17 (.idxSl 2 (.t 16) (.c (.int .i64 0))),
 oQ 18 (.load true 2 (.t 17)),
 oP 19 (.fieldAddr 3 (.t 0)),
 oQ 20 (.load false 1 (.t 19)),
 oP 21 (.idxSl 2 (.t 20) (.c (.int .i64 2))),
 oQ 22 (.load true 2 (.t 21)),
 oQ 23 (.litS 2 2 [.int .i64 0, .int .i64 0] [(0, (.t 18)), (1, (.t 22))]),
 oP 24 (.fieldAddr 3 (.t 1)),
 ⟨none, .store 1 (.t 24) (.t 23), none, none, []⟩])
 (.seq (.region 0 [oQ 25 (.load true 4 (.t 0)),
 oQ 26 (.loadR true 4 (.t 1) 1),
 ⟨none, .storeR 4 (.t 0) (.t 25) [1], none, none, []⟩,
 ⟨none, .store 4 (.t 1) (.t 26), none, none, []⟩])
 (.ret)))))⟩
/-- almadraba/lifts.isTruth -/
def f74 : AFn := ⟨44, [.tmp 6],
 .seq (.region 0 [oQ 3 (.box (.t 0)),
 oP 6 (.move (.c (.bool false)))])
 (.seq (.seq (.region 0 [oP 10 (.fieldAddr 0 (.t 3)),
 oQ 11 (.load true 2 (.t 10)),
 oP 12 (.move (.t 1)),
 oQ 13 (.call 1 106 [(.t 11), (.t 12)]),
 oP 14 (.un .not (.t 13)),
 oP 15 (.move (.t 14)),
 oG 16 15 false (.move (.t 2)),
 oG 17 15 false (.lenS (.t 16)),
 oG 18 15 false (.fieldAddr 2 (.t 3)),
 ⟨(some 19), .load false 1 (.t 18), (some (15, false)), none, []⟩,
 oG 20 15 false (.lenS (.t 19)),
 oG 21 15 false (.bin .neq (.t 17) (.t 20)),
 oP 22 (.pick (.t 15) (.c (.bool true)) (.t 21))])
 (.cond (.t 22) (.seq (.region 0 [oP 6 (.move (.c (.bool false)))])
 (.ret))
 (.skip)))
 (.seq (.region 0 [oP 7 (.move (.c (.int .i64 0)))])
 (.seq (.seq (.region 0 [oP 23 (.move (.t 2)),
 oP 24 (.lenS (.t 23)),
 oP 25 (.move (.c (.int .i64 0)))])
 (.block 0 (.loop (.seq (.region 0 [oP 26 (.bin .lss (.t 25) (.t 24))])
 (.seq (.cond (.t 26) (.skip)
 (.exit 0))
 (.seq (.block 1 (.seq (.region 0 [oP 27 (.move (.t 25)),
 oP 28 (.idxSl 1 (.t 23) (.t 25)),
 oQ 29 (.load false 1 (.t 28)),
 oP 8 (.move (.t 27)),
 oP 9 (.move (.t 29))])
 (.seq (.seq (.region 0 [oP 30 (.fieldAddr 2 (.t 3)),
 oQ 31 (.load false 1 (.t 30)),
 oP 32 (.move (.t 8)),
 oP 33 (.idxSl 2 (.t 31) (.t 32)),
 oQ 34 (.load true 2 (.t 33)),
 oP 35 (.move (.t 9)),
 oQ 36 (.call 1 106 [(.t 34), (.t 35)]),
 oP 37 (.un .not (.t 36))])
 (.cond (.t 37) (.seq (.region 0 [oP 6 (.move (.c (.bool false)))])
 (.ret))
 (.skip)))
 (.region 0 [oP 38 (.move (.t 7)),
 oP 39 (.move (.t 9)),
 oP 40 (.bin .add (.t 38) (.t 39)),
 oP 7 (.move (.t 40))]))))
 (.region 0 [oP 41 (.bin .add (.t 25) (.c (.int .i64 1))),
 oP 25 (.move (.t 41))])))))))
 (.seq (.region 0 [oP 42 (.move (.t 7)),
 oP 43 (.bin .eql (.t 42) (.c (.int .i64 12))),
 oP 6 (.move (.t 43))])
 (.ret)))))⟩
/-- almadraba/lifts.fitPlace -/
def f75 : AFn := ⟨17, [.tmp 4],
 .seq (.region 0 [oQ 2 (.box (.t 0)),
 oP 4 (.move (.c (.int .i64 0)))])
 (.seq (.region 0 [oQ 6 (.load true 4 (.t 2)),
 oQ 7 (.call 1 52 [(.t 6)]),
 oP 5 (.move (.t 7))])
 (.seq (.seq (.region 0 [oP 8 (.move (.t 5)),
 oP 9 (.bin .eql (.t 8) (.c (.int .i64 0))),
 oP 10 (.move (.t 9)),
 ⟨(some 11), .load true 4 (.t 2), (some (10, true)), none, []⟩,
 oG 12 10 true (.move (.t 1)),
 ⟨(some 13), .call 1 107 [(.t 11), (.t 12)], (some (10, true)), none, []⟩,
 oG 14 10 true (.un .not (.t 13)),
 oP 15 (.pick (.t 10) (.t 14) (.c (.bool false)))])
 (.cond (.t 15) (.seq (.region 0 [oP 4 (.move (.c (.int .i64 1)))])
 (.ret))
 (.skip)))
 (.seq (.region 0 [oP 16 (.move (.t 5)),
 oP 4 (.move (.t 16))])
 (.ret))))⟩
/-- (almadraba/lifts.sea).share -/
def f76 : AFn := ⟨36, [.cell true 2 4],
 .seq (.region 0 [oQ 2 (.box (.t 0)),
 oQ 4 (.alloc [.int .i64 0, .int .i64 0])])
 (.seq (.region 2 [oP 7 (.fieldAddr 0 (.t 2)),
 oP 8 (.fieldAddr 2 (.t 7)),
 ⟨(some 9), .load false 1 (.t 8), none, none, [0, 1]⟩,
 ⟨(some 10), .call 1 108 [(.t 9)], none, none, [0, 1]⟩,
 oP 11 (.fieldAddr 0 (.t 2)),
 oP 12 (.fieldAddr 2 (.t 11)),
 ⟨(some 13), .load false 1 (.t 12), none, none, [0, 1]⟩,
 oP 14 (.move (.t 1)),
 oP 15 (.idxSl 2 (.t 13) (.t 14)),
 ⟨(some 16), .load true 2 (.t 15), none, none, [0, 1]⟩,
 ⟨(some 5), .alloc [.int .i64 0, .int .i64 0], none, (some 0), []⟩,
 ⟨(some 6), .alloc [.int .i64 0, .int .i64 0], none, (some 1), []⟩,
 ⟨none, .store 2 (.t 5) (.t 10), none, (some 0), []⟩,
 ⟨none, .store 2 (.t 6) (.t 16), none, (some 1), []⟩])
 (.seq (.region 0 [oP 17 (.fieldAddr 0 (.t 6)),
 oQ 18 (.load false 1 (.t 17)),
 oP 19 (.fieldAddr 1 (.t 5)),
 oQ 20 (.load false 1 (.t 19)),
 oP 21 (.fieldAddr 1 (.t 6)),
 oQ 22 (.load false 1 (.t 21)),
 oP 23 (.bin .sub (.t 20) (.t 22)),
 oP 24 (.bin .sub (.c (.int .i64 12)) (.t 23)),
 oP 25 (.minmax true (.t 18) [(.t 24)]),
 oP 26 (.fieldAddr 1 (.t 6)),
 oQ 27 (.load false 1 (.t 26)),
 oP 28 (.fieldAddr 0 (.t 5)),
 oQ 29 (.load false 1 (.t 28)),
 oP 30 (.fieldAddr 0 (.t 6)),
 oQ 31 (.load false 1 (.t 30)),
 oP 32 (.bin .sub (.t 29) (.t 31)),
 oP 33 (.bin .sub (.c (.int .i64 12)) (.t 32)),
 oP 34 (.minmax false (.t 27) [(.t 33)]),
 oP 35 (.build [.int .i64 0, .int .i64 0] [(0, 1, (.t 25)), (1, 1, (.t 34))]),
 ⟨none, .store 2 (.t 4) (.t 35), none, none, []⟩])
 (.ret)))⟩
/-- (almadraba/lifts.sea).load -/
def f77 : AFn := ⟨24, [.cell true 2 4],
 .seq (.region 0 [oQ 2 (.box (.t 0)),
 oQ 4 (.alloc [.int .i64 0, .int .i64 0])])
 (.seq (.region 0 [oQ 6 (.load true 4 (.t 2)),
 oP 7 (.move (.t 1)),
 oQ 8 (.call 1 76 [(.t 6), (.t 7)]),
 oQ 5 (.alloc [.int .i64 0, .int .i64 0]),
 ⟨none, .store 2 (.t 5) (.t 8), none, none, []⟩])
 (.seq (.region 0 [oP 9 (.fieldAddr 0 (.t 2)),
 oP 10 (.fieldAddr 0 (.t 9)),
 oP 11 (.fieldAddr 0 (.t 10)),
 oQ 12 (.load false 1 (.t 11)),
 oP 13 (.fieldAddr 0 (.t 5)),
 oQ 14 (.load false 1 (.t 13)),
 oP 15 (.bin .mul (.t 12) (.t 14)),
 oP 16 (.fieldAddr 0 (.t 2)),
 oP 17 (.fieldAddr 0 (.t 16)),
 oP 18 (.fieldAddr 1 (.t 17)),
 oQ 19 (.load false 1 (.t 18)),
 oP 20 (.fieldAddr 1 (.t 5)),
 oQ 21 (.load false 1 (.t 20)),
 oP 22 (.bin .mul (.t 19) (.t 21)),
 oP 23 (.build [.int .i64 0, .int .i64 0] [(0, 1, (.t 15)), (1, 1, (.t 22))]),
 ⟨none, .store 2 (.t 4) (.t 23), none, none, []⟩])
 (.ret)))⟩
/-- almadraba/lifts.fitCrew -/
def f78 : AFn := ⟨17, [.tmp 4],
 .seq (.region 0 [oQ 2 (.box (.t 0)),
 oP 4 (.move (.c (.int .i64 0)))])
 (.seq (.region 0 [oQ 6 (.load true 4 (.t 2)),
 oQ 7 (.call 1 52 [(.t 6)]),
 oP 5 (.move (.t 7))])
 (.seq (.seq (.region 0 [oP 8 (.move (.t 5)),
 oP 9 (.bin .eql (.t 8) (.c (.int .i64 0))),
 oP 10 (.move (.t 9)),
 ⟨(some 11), .load true 4 (.t 2), (some (10, true)), none, []⟩,
 oG 12 10 true (.move (.t 1)),
 ⟨(some 13), .call 1 109 [(.t 11), (.t 12)], (some (10, true)), none, []⟩,
 oG 14 10 true (.un .not (.t 13)),
 oP 15 (.pick (.t 10) (.t 14) (.c (.bool false)))])
 (.cond (.t 15) (.seq (.region 0 [oP 4 (.move (.c (.int .i64 1)))])
 (.ret))
 (.skip)))
 (.seq (.region 0 [oP 16 (.move (.t 5)),
 oP 4 (.move (.t 16))])
 (.ret))))⟩
/-- (almadraba/lifts.sea).holds -/
def f79 : AFn := ⟨13, [.tmp 4],
 .seq (.region 0 [oQ 2 (.box (.t 0)),
 oP 4 (.move (.c (.bool false)))])
 (.seq (.region 0 [oQ 5 (.load true 4 (.t 2)),
 oP 6 (.move (.t 1)),
 oQ 7 (.call 1 96 [(.t 5), (.t 6)]),
 oP 8 (.fieldAddr 0 (.t 2)),
 oP 9 (.fieldAddr 0 (.t 8)),
 oP 10 (.fieldAddr 1 (.t 9)),
 oQ 11 (.load false 1 (.t 10)),
 oP 12 (.bin .geq (.t 7) (.t 11)),
 oP 4 (.move (.t 12))])
 (.ret))⟩
/-- (almadraba/lifts.sea).can -/
def f80 : AFn := ⟨57, [.tmp 4],
 .seq (.region 0 [oQ 2 (.box (.t 0)),
 oP 4 (.move (.c (.bool false)))])
 (.seq (.region 0 [oP 5 (.move (.c (.int .i64 0)))])
 (.seq (.seq (.region 0 [oP 10 (.move (.t 1)),
 oP 11 (.lenS (.t 10)),
 oP 12 (.move (.c (.int .i64 0)))])
 (.block 0 (.loop (.seq (.region 0 [oP 13 (.bin .lss (.t 12) (.t 11))])
 (.seq (.cond (.t 13) (.skip)
 (.exit 0))
 (.seq (.block 1 (.seq (.region 0 [oP 14 (.move (.t 12)),
 oP 15 (.idxSl 1 (.t 10) (.t 12)),
 oQ 16 (.load false 1 (.t 15)),
 oP 6 (.move (.t 14)),
 oP 7 (.move (.t 16))])
 (.seq (.region 0 [oP 17 (.fieldAddr 0 (.t 2)),
 oP 18 (.fieldAddr 2 (.t 17)),
 oQ 19 (.load false 1 (.t 18)),
 oP 20 (.move (.t 6)),
 oP 21 (.idxSl 2 (.t 19) (.t 20)),
 oP 22 (.fieldAddr 1 (.t 21)),
 oQ 23 (.load false 1 (.t 22)),
 oP 8 (.move (.t 23))])
 (.seq (.seq (.region 0 [oP 24 (.fieldAddr 0 (.t 2)),
 oP 25 (.fieldAddr 0 (.t 24)),
 oP 26 (.fieldAddr 0 (.t 25)),
 oQ 27 (.load false 1 (.t 26)),
 oP 9 (.move (.t 27))])
 (.seq (.region 0 [oP 28 (.move (.t 9)),
 oP 29 (.bin .gtr (.t 28) (.c (.int .i64 0)))])
 (.cond (.t 29) (.region 0 [oP 30 (.move (.t 8)),
 oP 31 (.fieldAddr 0 (.t 2)),
 oP 32 (.fieldAddr 3 (.t 31)),
 oQ 33 (.load false 1 (.t 32)),
 oP 34 (.move (.t 7)),
 oP 35 (.idxSl 2 (.t 33) (.t 34)),
 oP 36 (.fieldAddr 0 (.t 35)),
 oQ 37 (.load false 1 (.t 36)),
 oP 38 (.bin .mul (.c (.int .i64 12)) (.t 37)),
 oP 39 (.move (.t 9)),
 oP 40 (.bin .quo (.t 38) (.t 39)),
 oP 41 (.minmax false (.t 30) [(.t 40)]),
 oP 8 (.move (.t 41))])
 (.skip))))
 (.seq (.seq (.region 0 [oP 42 (.move (.t 8)),
 oP 43 (.fieldAddr 0 (.t 2)),
 oP 44 (.fieldAddr 2 (.t 43)),
 oQ 45 (.load false 1 (.t 44)),
 oP 46 (.move (.t 6)),
 oP 47 (.idxSl 2 (.t 45) (.t 46)),
 oP 48 (.fieldAddr 0 (.t 47)),
 oQ 49 (.load false 1 (.t 48)),
 oP 50 (.bin .lss (.t 42) (.t 49))])
 (.cond (.t 50) (.seq (.region 0 [oP 4 (.move (.c (.bool false)))])
 (.ret))
 (.skip)))
 (.region 0 [oP 51 (.move (.t 5)),
 oP 52 (.move (.t 8)),
 oP 53 (.bin .add (.t 51) (.t 52)),
 oP 5 (.move (.t 53))]))))))
 (.region 0 [oP 54 (.bin .add (.t 12) (.c (.int .i64 1))),
 oP 12 (.move (.t 54))])))))))
 (.seq (.region 0 [oP 55 (.move (.t 5)),
 oP 56 (.bin .geq (.t 55) (.c (.int .i64 12))),
 oP 4 (.move (.t 56))])
 (.ret))))⟩
/-- almadraba/lifts.cheapest -/
def f81 : AFn := ⟨23, [.tmp 2, .tmp 3, .tmp 4],
 .seq (.region 0 [oQ 1 (.box (.t 0)),
 oP 2 (.move (.c (.nils))),
 oP 3 (.move (.c (.int .i64 0))),
 oP 4 (.move (.c (.int .i64 0)))])
 (.seq (.seq (.region 0 [oQ 8 (.load true 4 (.t 1)),
 oQ 9 (.call 1 52 [(.t 8)]),
 oP 5 (.move (.t 9))])
 (.seq (.region 0 [oP 10 (.move (.t 5)),
 oP 11 (.bin .neq (.t 10) (.c (.int .i64 0)))])
 (.cond (.t 11) (.seq (.region 0 [oP 12 (.move (.t 5)),
 oP 2 (.move (.c (.nils))),
 oP 3 (.move (.c (.int .i64 0))),
 oP 4 (.move (.t 12))])
 (.ret))
 (.skip))))
 (.seq (.region 0 [oQ 14 (.load true 4 (.t 1)),
 oP 15 (.build [.int .i64 0, .int .i64 0, .nils, .nils] [(0, 4, (.t 14))]),
 oQ 16 (.call 1 110 [(.t 15)]),
 oP 13 (.move (.t 16)),
 oP 17 (.extract (.t 13) 0),
 oP 18 (.extract (.t 13) 1),
 oP 6 (.move (.t 17)),
 oP 7 (.move (.t 18))])
 (.seq (.seq (.region 0 [oP 19 (.move (.t 6)),
 oP 20 (.isNil (.t 19) (.c (.nils)))])
 (.cond (.t 20) (.seq (.region 0 [oP 2 (.move (.c (.nils))),
 oP 3 (.move (.c (.int .i64 0))),
 oP 4 (.move (.c (.int .i64 3)))])
 (.ret))
 (.skip)))
 (.seq (.region 0 [oP 21 (.move (.t 6)),
 oP 22 (.move (.t 7)),
 oP 2 (.move (.t 21)),
 oP 3 (.move (.t 22)),
 oP 4 (.move (.c (.int .i64 0)))])
 (.ret)))))⟩
/-- (almadraba/lifts.sea).short -/
def f82 : AFn := ⟨38, [.tmp 2],
 .seq (.region 0 [oQ 1 (.box (.t 0)),
 oP 2 (.move (.c (.nils)))])
 (.seq (.seq (.region 0 [oP 3 (.move (.c (.int .i64 1)))])
 (.block 0 (.loop (.seq (.seq (.region 0 [oP 6 (.move (.t 3)),
 oP 7 (.fieldAddr 0 (.t 1)),
 oP 8 (.fieldAddr 2 (.t 7)),
 oQ 9 (.load false 1 (.t 8)),
 oP 10 (.lenS (.t 9)),
 oP 11 (.bin .leq (.t 6) (.t 10))])
 (.cond (.t 11) (.skip)
 (.exit 0)))
 (.seq (.block 1 (.seq (.region 0 [oP 4 (.move (.c (.nils)))])
 (.seq (.seq (.region 0 [oP 14 (.fieldAddr 0 (.t 1)),
 oP 15 (.fieldAddr 2 (.t 14)),
 oQ 16 (.load false 1 (.t 15)),
 oP 17 (.lenS (.t 16)),
 oP 18 (.move (.c (.int .i64 0)))])
 (.block 2 (.loop (.seq (.region 0 [oP 19 (.bin .lss (.t 18) (.t 17))])
 (.seq (.cond (.t 19) (.skip)
 (.exit 2))
 (.seq (.block 3 (.seq (.region 0 [oP 20 (.move (.t 18)),
 oP 5 (.move (.t 20))])
 (.seq (.region 0 [oQ 21 (.load true 4 (.t 1)),
 oP 22 (.move (.t 5)),
 oQ 23 (.call 1 111 [(.t 21), (.t 22)]),
 oP 24 (.move (.t 3)),
 oP 25 (.bin .lss (.t 23) (.t 24))])
 (.cond (.t 25) (.region 0 [oP 26 (.move (.t 4)),
 oP 27 (.move (.t 5)),
 oQ 28 (.litS 1 1 [.int .i64 0] [(0, (.t 27))]),
 oQ 29 (.append false 1 8 (.t 26) (.t 28)),
 oP 4 (.move (.t 29))])
 (.skip)))))
 (.region 0 [oP 30 (.bin .add (.t 18) (.c (.int .i64 1))),
 oP 18 (.move (.t 30))])))))))
 (.seq (.region 0 [oP 31 (.move (.t 4)),
 oP 32 (.lenS (.t 31)),
 oP 33 (.move (.t 3)),
 oP 34 (.bin .geq (.t 32) (.t 33))])
 (.cond (.t 34) (.seq (.region 0 [oP 35 (.move (.t 4)),
 oP 36 (.move (.t 3)),
 oP 37 (.slice 1 (.t 35) none (some (.t 36))),
 oP 2 (.move (.t 37))])
 (.ret))
 (.skip))))))
 (.region 0 [oP 12 (.move (.t 3)),
 oP 13 (.bin .add (.t 12) (.c (.int .i64 1))),
 oP 3 (.move (.t 13))]))))))
 (.seq (.region 0 [oP 2 (.move (.c (.nils)))])
 (.ret)))⟩
/-- (almadraba/lifts.sea).first -/
def f83 : AFn := ⟨31, [.tmp 4, .tmp 5],
 .seq (.region 0 [oQ 2 (.box (.t 0)),
 oP 4 (.move (.c (.int .i64 0))),
 oP 5 (.move (.c (.bool false)))])
 (.seq (.region 0 [oP 6 (.move (.c (.int .i64 0))),
 oP 7 (.move (.c (.int .i64 2000)))])
 (.seq (.seq (.region 0 [oP 11 (.move (.t 1)),
 oP 12 (.lenS (.t 11)),
 oP 13 (.move (.c (.int .i64 0)))])
 (.block 0 (.loop (.seq (.region 0 [oP 14 (.bin .lss (.t 13) (.t 12))])
 (.seq (.cond (.t 14) (.skip)
 (.exit 0))
 (.seq (.block 1 (.seq (.region 0 [oP 15 (.move (.t 13)),
 oP 16 (.idxSl 1 (.t 11) (.t 13)),
 oQ 17 (.load false 1 (.t 16)),
 oP 8 (.move (.t 15)),
 oP 9 (.move (.t 17))])
 (.seq (.region 0 [oQ 18 (.load true 4 (.t 2)),
 oP 19 (.move (.t 8)),
 oP 20 (.move (.t 9)),
 oQ 21 (.call 1 112 [(.t 18), (.t 19), (.t 20)]),
 oP 10 (.move (.t 21))])
 (.seq (.region 0 [oP 22 (.move (.t 10)),
 oP 23 (.move (.t 7)),
 oP 24 (.bin .lss (.t 22) (.t 23))])
 (.cond (.t 24) (.region 0 [oP 25 (.move (.t 8)),
 oP 26 (.move (.t 10)),
 oP 6 (.move (.t 25)),
 oP 7 (.move (.t 26))])
 (.skip))))))
 (.region 0 [oP 27 (.bin .add (.t 13) (.c (.int .i64 1))),
 oP 13 (.move (.t 27))])))))))
 (.seq (.region 0 [oP 28 (.move (.t 6)),
 oP 29 (.move (.t 7)),
 oP 30 (.bin .lss (.t 29) (.c (.int .i64 2000))),
 oP 4 (.move (.t 28)),
 oP 5 (.move (.t 30))])
 (.ret))))⟩
/-- (almadraba/lifts.sea).swap -/
def f84 : AFn := ⟨52, [.cell true 2 4, .tmp 5],
 .seq (.region 0 [oQ 2 (.box (.t 0)),
 oQ 4 (.alloc [.int .i64 0, .int .i64 0]),
 oP 5 (.move (.c (.bool false)))])
 (.seq (.region 0 [oQ 10 (.load true 4 (.t 2)),
 oP 11 (.move (.t 1)),
 oQ 12 (.call 1 96 [(.t 10), (.t 11)]),
 oP 6 (.move (.t 12))])
 (.seq (.seq (.region 0 [oP 13 (.move (.t 1)),
 oP 14 (.lenS (.t 13)),
 oP 15 (.move (.c (.int .i64 0)))])
 (.block 0 (.loop (.seq (.region 0 [oP 16 (.bin .lss (.t 15) (.t 14))])
 (.seq (.cond (.t 16) (.skip)
 (.exit 0))
 (.seq (.block 1 (.seq (.region 0 [oP 17 (.move (.t 15)),
 oP 7 (.move (.t 17))])
 (.seq (.region 0 [oP 18 (.move (.t 7)),
 oP 19 (.bin .add (.t 18) (.c (.int .i64 1))),
 oP 8 (.move (.t 19))])
 (.block 2 (.loop (.seq (.seq (.region 0 [oP 20 (.move (.t 8)),
 oP 21 (.move (.t 1)),
 oP 22 (.lenS (.t 21)),
 oP 23 (.bin .lss (.t 20) (.t 22))])
 (.cond (.t 23) (.skip)
 (.exit 2)))
 (.seq (.block 3 (.seq (.region 0 [oP 26 (.move (.t 1)),
 oQ 27 (.call 2 113 [(.t 26)]),
 oP 9 (.move (.t 27))])
 (.seq (.region 0 [oP 28 (.move (.t 9)),
 oP 29 (.move (.t 7)),
 oP 30 (.move (.t 9)),
 oP 31 (.move (.t 8)),
 oP 32 (.move (.t 1)),
 oP 33 (.move (.t 8)),
 oP 34 (.idxSl 1 (.t 32) (.t 33)),
 oQ 35 (.load false 1 (.t 34)),
 oP 36 (.move (.t 1)),
 oP 37 (.move (.t 7)),
 oP 38 (.idxSl 1 (.t 36) (.t 37)),
 oQ 39 (.load false 1 (.t 38)),
 oP 40 (.idxSl 1 (.t 28) (.t 29)),
 ⟨none, .store 1 (.t 40) (.t 35), none, none, []⟩,
 oP 41 (.idxSl 1 (.t 30) (.t 31)),
 ⟨none, .store 1 (.t 41) (.t 39), none, none, []⟩])
 (.seq (.region 0 [oQ 42 (.load true 4 (.t 2)),
 oP 43 (.move (.t 9)),
 oQ 44 (.call 1 96 [(.t 42), (.t 43)]),
 oP 45 (.move (.t 6)),
 oP 46 (.bin .gtr (.t 44) (.t 45))])
 (.cond (.t 46) (.seq (.region 0 [oP 47 (.move (.t 7)),
 oP 48 (.move (.t 8)),
 oP 49 (.build [.int .i64 0, .int .i64 0] [(0, 1, (.t 47)), (1, 1, (.t 48))]),
 ⟨none, .store 2 (.t 4) (.t 49), none, none, []⟩,
 oP 5 (.move (.c (.bool true)))])
 (.ret))
 (.skip))))))
 (.region 0 [oP 24 (.move (.t 8)),
 oP 25 (.bin .add (.t 24) (.c (.int .i64 1))),
 oP 8 (.move (.t 25))]))))))))
 (.region 0 [oP 50 (.bin .add (.t 15) (.c (.int .i64 1))),
 oP 15 (.move (.t 50))])))))))
 (.seq (.region 0 [oP 51 (.build [.int .i64 0, .int .i64 0] []),
 ⟨none, .store 2 (.t 4) (.t 51), none, none, []⟩,
 oP 5 (.move (.c (.bool false)))])
 (.ret))))⟩
/-- almadraba/lifts.fitBoats -/
def f85 : AFn := ⟨18, [.tmp 2],
 .seq (.region 0 [oQ 1 (.box (.t 0)),
 oP 2 (.move (.c (.int .i64 0)))])
 (.seq (.region 0 [oQ 4 (.load true 4 (.t 1)),
 oQ 5 (.call 1 52 [(.t 4)]),
 oP 3 (.move (.t 5))])
 (.seq (.seq (.region 0 [oP 6 (.move (.t 3)),
 oP 7 (.bin .eql (.t 6) (.c (.int .i64 0))),
 oP 8 (.move (.t 7)),
 oG 9 8 true (.fieldAddr 3 (.t 1)),
 ⟨(some 10), .load false 1 (.t 9), (some (8, true)), none, []⟩,
 oG 11 8 true (.lenS (.t 10)),
 oG 12 8 true (.fieldAddr 2 (.t 1)),
 ⟨(some 13), .load false 1 (.t 12), (some (8, true)), none, []⟩,
 oG 14 8 true (.lenS (.t 13)),
 oG 15 8 true (.bin .lss (.t 11) (.t 14)),
 oP 16 (.pick (.t 8) (.t 15) (.c (.bool false)))])
 (.cond (.t 16) (.seq (.region 0 [oP 2 (.move (.c (.int .i64 3)))])
 (.ret))
 (.skip)))
 (.seq (.region 0 [oP 17 (.move (.t 3)),
 oP 2 (.move (.t 17))])
 (.ret))))⟩
/-- (almadraba/lifts.sea).helps -/
def f86 : AFn := ⟨27, [.tmp 2],
 .seq (.region 0 [oQ 1 (.box (.t 0)),
 oP 2 (.move (.c (.nils)))])
 (.seq (.region 0 [oP 3 (.move (.c (.nils)))])
 (.seq (.region 0 [oQ 6 (.load true 4 (.t 1)),
 oQ 7 (.call 1 102 [(.t 6)]),
 oP 4 (.move (.t 7))])
 (.seq (.seq (.region 0 [oP 8 (.fieldAddr 0 (.t 1)),
 oP 9 (.fieldAddr 3 (.t 8)),
 oQ 10 (.load false 1 (.t 9)),
 oP 11 (.lenS (.t 10)),
 oP 12 (.move (.c (.int .i64 0)))])
 (.block 0 (.loop (.seq (.region 0 [oP 13 (.bin .lss (.t 12) (.t 11))])
 (.seq (.cond (.t 13) (.skip)
 (.exit 0))
 (.seq (.block 1 (.seq (.region 0 [oP 14 (.move (.t 12)),
 oP 5 (.move (.t 14))])
 (.seq (.region 0 [oQ 15 (.load true 4 (.t 1)),
 oP 16 (.move (.t 5)),
 oQ 17 (.call 1 114 [(.t 15), (.t 16)]),
 oQ 18 (.call 1 102 [(.t 17)]),
 oP 19 (.move (.t 4)),
 oP 20 (.bin .gtr (.t 18) (.t 19))])
 (.cond (.t 20) (.region 0 [oP 21 (.move (.t 3)),
 oP 22 (.move (.t 5)),
 oQ 23 (.litS 1 1 [.int .i64 0] [(0, (.t 22))]),
 oQ 24 (.append false 1 8 (.t 21) (.t 23)),
 oP 3 (.move (.t 24))])
 (.skip)))))
 (.region 0 [oP 25 (.bin .add (.t 12) (.c (.int .i64 1))),
 oP 12 (.move (.t 25))])))))))
 (.seq (.region 0 [oP 26 (.move (.t 3)),
 oP 2 (.move (.t 26))])
 (.ret)))))⟩
/-- almadraba/lifts.valid -/
def f87 : AFn := ⟨38, [.tmp 2],
 .seq (.region 0 [oQ 1 (.box (.t 0)),
 oP 2 (.move (.c (.bool false)))])
 (.seq (.region 0 [oP 3 (.move (.c (.fn 115 [] [])))])
 (.seq (.region 0 [oP 4 (.move (.c (.fn 117 [] [])))])
 (.seq (.region 0 [oP 5 (.fieldAddr 0 (.t 1)),
 oQ 6 (.load true 2 (.t 5)),
 oQ 7 (.call 1 116 [(.t 6), (.c (.int .i64 2000))]),
 oP 8 (.move (.t 7)),
 oG 9 8 true (.fieldAddr 2 (.t 1)),
 ⟨(some 10), .load false 1 (.t 9), (some (8, true)), none, []⟩,
 oG 11 8 true (.lenS (.t 10)),
 oG 12 8 true (.bin .leq (.t 11) (.c (.int .i64 4))),
 oP 13 (.pick (.t 8) (.t 12) (.c (.bool false))),
 oP 14 (.move (.t 13)),
 oG 15 14 true (.fieldAddr 2 (.t 1)),
 ⟨(some 16), .load false 1 (.t 15), (some (14, true)), none, []⟩,
 oG 17 14 true (.move (.t 3)),
 ⟨(some 18), .call 1 119 [(.t 16), (.t 17)], (some (14, true)), none, []⟩,
 oP 19 (.pick (.t 14) (.t 18) (.c (.bool false))),
 oP 20 (.move (.t 19)),
 oG 21 20 true (.fieldAddr 2 (.t 1)),
 ⟨(some 22), .load false 1 (.t 21), (some (20, true)), none, []⟩,
 ⟨(some 23), .call 1 108 [(.t 22)], (some (20, true)), none, []⟩,
 ⟨(some 24), .call 1 106 [(.t 23), (.c (.int .i64 12))], (some (20, true)), none, []⟩,
 oP 25 (.pick (.t 20) (.t 24) (.c (.bool false))),
 oP 26 (.move (.t 25)),
 oG 27 26 true (.fieldAddr 3 (.t 1)),
 ⟨(some 28), .load false 1 (.t 27), (some (26, true)), none, []⟩,
 oG 29 26 true (.lenS (.t 28)),
 oG 30 26 true (.bin .leq (.t 29) (.c (.int .i64 6))),
 oP 31 (.pick (.t 26) (.t 30) (.c (.bool false))),
 oP 32 (.move (.t 31)),
 oG 33 32 true (.fieldAddr 3 (.t 1)),
 ⟨(some 34), .load false 1 (.t 33), (some (32, true)), none, []⟩,
 oG 35 32 true (.move (.t 4)),
 ⟨(some 36), .call 1 120 [(.t 34), (.t 35)], (some (32, true)), none, []⟩,
 oP 37 (.pick (.t 32) (.t 36) (.c (.bool false))),
 oP 2 (.move (.t 37))])
 (.ret))))⟩
/-- almadraba/almadrabaref05.isSpan -/
def f88 : AFn := ⟨16, [.tmp 4],
 .seq (.region 0 [oQ 2 (.box (.t 0)),
 oP 4 (.move (.c (.bool false)))])
 (.seq (.region 0 [oP 5 (.fieldAddr 1 (.t 2)),
 oQ 6 (.load false 1 (.t 5)),
 oP 7 (.move (.t 1)),
 oQ 8 (.call 1 71 [(.t 6), (.c (.int .i64 0)), (.t 7)]),
 oP 9 (.move (.t 8)),
 oG 10 9 true (.fieldAddr 0 (.t 2)),
 ⟨(some 11), .load false 1 (.t 10), (some (9, true)), none, []⟩,
 oG 12 9 true (.fieldAddr 1 (.t 2)),
 ⟨(some 13), .load false 1 (.t 12), (some (9, true)), none, []⟩,
 ⟨(some 14), .call 1 71 [(.t 11), (.c (.int .i64 0)), (.t 13)], (some (9, true)), none, []⟩,
 oP 15 (.pick (.t 9) (.t 14) (.c (.bool false))),
 oP 4 (.move (.t 15))])
 (.ret))⟩
/-- almadraba/almadrabaref05.ask -/
def f89 : AFn := ⟨13, [.tmp 4],
 .seq (.region 0 [oQ 2 (.box (.t 0)),
 oP 4 (.move (.c (.int .i64 0)))])
 (.seq (.seq (.region 0 [oQ 6 (.load true 4 (.t 2)),
 oQ 7 (.call 1 53 [(.t 6)]),
 oP 5 (.move (.t 7))])
 (.seq (.region 0 [oP 8 (.move (.t 5)),
 oP 9 (.bin .neq (.t 8) (.c (.int .i64 0)))])
 (.cond (.t 9) (.seq (.region 0 [oP 10 (.move (.t 5)),
 oP 4 (.move (.t 10))])
 (.ret))
 (.skip))))
 (.seq (.seq (.region 0 [oP 11 (.move (.t 1)),
 oP 12 (.un .not (.t 11))])
 (.cond (.t 12) (.seq (.region 0 [oP 4 (.move (.c (.int .i64 1)))])
 (.ret))
 (.skip)))
 (.seq (.region 0 [oP 4 (.move (.c (.int .i64 0)))])
 (.ret))))⟩
/-- almadraba/almadrabaref05.ShareOf -/
def f90 : AFn := ⟨51, [.cell true 2 4],
 .seq (.region 0 [oQ 2 (.box (.t 0)),
 oQ 4 (.alloc [.int .i64 0, .int .i64 0])])
 (.seq (.region 0 [oQ 8 (.load true 4 (.t 2)),
 oQ 9 (.call 1 95 [(.t 8), (.c (.nils))]),
 oP 5 (.move (.t 9))])
 (.seq (.region 1 [oP 10 (.move (.t 5)),
 oP 11 (.idxSl 1 (.t 10) (.c (.int .i64 0))),
 ⟨(some 12), .load false 1 (.t 11), none, none, [0]⟩,
 oP 13 (.move (.t 1)),
 oP 14 (.idxSl 1 (.t 12) (.t 13)),
 ⟨(some 15), .load false 1 (.t 14), none, none, [0]⟩,
 oP 16 (.move (.t 5)),
 oP 17 (.idxSl 1 (.t 16) (.c (.int .i64 0))),
 ⟨(some 18), .load false 1 (.t 17), none, none, [0]⟩,
 oP 19 (.move (.t 1)),
 oP 20 (.idxSl 1 (.t 18) (.t 19)),
 ⟨(some 21), .load false 1 (.t 20), none, none, [0]⟩,
 oP 22 (.build [.int .i64 0, .int .i64 0] [(0, 1, (.t 15)), (1, 1, (.t 21))]),
 ⟨(some 6), .alloc [.int .i64 0, .int .i64 0], none, (some 0), []⟩,
 ⟨none, .store 2 (.t 6) (.t 22), none, (some 0), []⟩])
 (.seq (.seq (.region 0 [oP 7 (.move (.c (.int .i64 0)))])
 (.block 0 (.loop (.seq (.seq (.region 0 [oP 23 (.move (.t 7)),
 oP 24 (.move (.t 5)),
 oP 25 (.lenS (.t 24)),
 oP 26 (.bin .lss (.t 23) (.t 25))])
 (.cond (.t 26) (.skip)
 (.exit 0)))
 (.seq (.block 1 (.region 0 [oP 29 (.fieldAddr 0 (.t 6)),
 oQ 30 (.load false 1 (.t 29)),
 oP 31 (.move (.t 5)),
 oP 32 (.move (.t 7)),
 oP 33 (.idxSl 1 (.t 31) (.t 32)),
 oQ 34 (.load false 1 (.t 33)),
 oP 35 (.move (.t 1)),
 oP 36 (.idxSl 1 (.t 34) (.t 35)),
 oQ 37 (.load false 1 (.t 36)),
 oP 38 (.minmax false (.t 30) [(.t 37)]),
 oP 39 (.fieldAddr 1 (.t 6)),
 oQ 40 (.load false 1 (.t 39)),
 oP 41 (.move (.t 5)),
 oP 42 (.move (.t 7)),
 oP 43 (.idxSl 1 (.t 41) (.t 42)),
 oQ 44 (.load false 1 (.t 43)),
 oP 45 (.move (.t 1)),
 oP 46 (.idxSl 1 (.t 44) (.t 45)),
 oQ 47 (.load false 1 (.t 46)),
 oP 48 (.minmax true (.t 40) [(.t 47)]),
 oP 49 (.build [.int .i64 0, .int .i64 0] [(0, 1, (.t 38)), (1, 1, (.t 48))]),
 ⟨none, .store 2 (.t 6) (.t 49), none, none, []⟩]))
 (.region 0 [oP 27 (.move (.t 7)),
 oP 28 (.bin .add (.t 27) (.c (.int .i64 1))),
 oP 7 (.move (.t 28))]))))))
 (.seq (.region 0 [oQ 50 (.load true 2 (.t 6)),
 ⟨none, .store 2 (.t 4) (.t 50), none, none, []⟩])
 (.ret)))))⟩
/-- (almadraba/lifts.sea).need -/
def f91 : AFn := ⟨12, [.tmp 4],
 .seq (.region 0 [oQ 2 (.box (.t 0)),
 oP 4 (.move (.c (.int .i64 0)))])
 (.seq (.region 0 [oQ 5 (.load true 4 (.t 2)),
 oP 6 (.move (.t 1)),
 oQ 7 (.call 1 77 [(.t 5), (.t 6)]),
 oP 8 (.field false 1 1 (.t 7)),
 oP 9 (.bin .add (.t 8) (.c (.int .i64 12))),
 oP 10 (.bin .sub (.t 9) (.c (.int .i64 1))),
 oP 11 (.bin .quo (.t 10) (.c (.int .i64 12))),
 oP 4 (.move (.t 11))])
 (.ret))⟩
/-- almadraba/almadrabaref05.NeedOf -/
def f92 : AFn := ⟨20, [.tmp 4],
 .seq (.region 0 [oQ 2 (.box (.t 0)),
 oP 4 (.move (.c (.int .i64 0)))])
 (.seq (.region 0 [oP 5 (.move (.c (.int .i64 0)))])
 (.seq (.block 0 (.loop (.seq (.seq (.region 0 [oP 6 (.move (.t 5)),
 oP 7 (.bin .mul (.c (.int .i64 12)) (.t 6)),
 oP 8 (.fieldAddr 0 (.t 2)),
 oP 9 (.fieldAddr 1 (.t 8)),
 oQ 10 (.load false 1 (.t 9)),
 oQ 11 (.load true 4 (.t 2)),
 oP 12 (.move (.t 1)),
 oQ 13 (.call 1 90 [(.t 11), (.t 12)]),
 oP 14 (.field false 1 1 (.t 13)),
 oP 15 (.bin .mul (.t 10) (.t 14)),
 oP 16 (.bin .lss (.t 7) (.t 15))])
 (.cond (.t 16) (.skip)
 (.exit 0)))
 (.block 1 (.region 0 [oP 17 (.move (.t 5)),
 oP 18 (.bin .add (.t 17) (.c (.int .i64 1))),
 oP 5 (.move (.t 18))])))))
 (.seq (.region 0 [oP 19 (.move (.t 5)),
 oP 4 (.move (.t 19))])
 (.ret))))⟩
/-- almadraba/almadrabaref05.open -/
def f93 : AFn := ⟨16, [.tmp 4],
 .seq (.region 0 [oQ 2 (.box (.t 0)),
 oP 4 (.move (.c (.int .i64 0)))])
 (.seq (.seq (.region 0 [oQ 6 (.load true 4 (.t 2)),
 oQ 7 (.call 1 53 [(.t 6)]),
 oP 5 (.move (.t 7))])
 (.seq (.region 0 [oP 8 (.move (.t 5)),
 oP 9 (.bin .neq (.t 8) (.c (.int .i64 0)))])
 (.cond (.t 9) (.seq (.region 0 [oP 10 (.move (.t 5)),
 oP 4 (.move (.t 10))])
 (.ret))
 (.skip))))
 (.seq (.region 0 [oQ 11 (.load true 4 (.t 2)),
 oQ 12 (.load true 4 (.t 2)),
 oP 13 (.move (.t 1)),
 oQ 14 (.call 1 26 [(.t 12), (.t 13)]),
 oQ 15 (.call 1 89 [(.t 11), (.t 14)]),
 oP 4 (.move (.t 15))])
 (.ret)))⟩
/-- almadraba/almadrabaref05.isSafe -/
def f94 : AFn := ⟨25, [.tmp 4],
 .seq (.region 0 [oQ 2 (.box (.t 0)),
 oP 4 (.move (.c (.bool false)))])
 (.seq (.region 0 [oQ 7 (.load true 4 (.t 2)),
 oQ 8 (.call 1 95 [(.t 7), (.c (.nils))]),
 oP 5 (.move (.t 8))])
 (.seq (.seq (.region 0 [oP 6 (.move (.c (.int .i64 0)))])
 (.block 0 (.loop (.seq (.seq (.region 0 [oP 9 (.move (.t 6)),
 oP 10 (.move (.t 5)),
 oP 11 (.lenS (.t 10)),
 oP 12 (.bin .lss (.t 9) (.t 11))])
 (.cond (.t 12) (.skip)
 (.exit 0)))
 (.seq (.block 1 (.seq (.region 0 [oQ 15 (.load true 4 (.t 2)),
 oP 16 (.move (.t 1)),
 oP 17 (.fieldAddr 0 (.t 2)),
 oP 18 (.fieldAddr 1 (.t 17)),
 oQ 19 (.load false 1 (.t 18)),
 oP 20 (.move (.t 5)),
 oP 21 (.move (.t 6)),
 oP 22 (.idxSl 1 (.t 20) (.t 21)),
 oQ 23 (.load false 1 (.t 22)),
 oQ 24 (.call 1 30 [(.t 15), (.t 16), (.t 19), (.t 23)])])
 (.cond (.t 24) (.seq (.region 0 [oP 4 (.move (.c (.bool false)))])
 (.ret))
 (.skip))))
 (.region 0 [oP 13 (.move (.t 6)),
 oP 14 (.bin .add (.t 13) (.c (.int .i64 1))),
 oP 6 (.move (.t 14))]))))))
 (.seq (.region 0 [oP 4 (.move (.c (.bool true)))])
 (.ret))))⟩
/-- almadraba/almadrabaref05.partings -/
def f95 : AFn := ⟨44, [.tmp 4],
 .seq (.region 0 [oQ 2 (.box (.t 0)),
 oP 4 (.move (.c (.nils)))])
 (.seq (.seq (.region 0 [oP 8 (.move (.t 1)),
 oP 9 (.lenS (.t 8)),
 oP 10 (.fieldAddr 2 (.t 2)),
 oQ 11 (.load false 1 (.t 10)),
 oP 12 (.lenS (.t 11)),
 oP 13 (.bin .eql (.t 9) (.t 12))])
 (.cond (.t 13) (.seq (.seq (.region 0 [oQ 14 (.load true 4 (.t 2)),
 oP 15 (.move (.t 1)),
 oQ 16 (.call 1 18 [(.t 14), (.t 15)])])
 (.cond (.t 16) (.seq (.region 0 [oP 17 (.move (.t 1)),
 oQ 18 (.buildSlice 1 1 [.nils] [(0, (.t 17))]),
 oP 4 (.move (.t 18))])
 (.ret))
 (.skip)))
 (.seq (.region 0 [oP 4 (.move (.c (.nils)))])
 (.ret)))
 (.skip)))
 (.seq (.region 0 [oP 5 (.move (.c (.nils)))])
 (.seq (.region 0 [oP 19 (.fieldAddr 2 (.t 2)),
 oQ 20 (.load false 1 (.t 19)),
 oP 21 (.move (.t 1)),
 oP 22 (.lenS (.t 21)),
 oP 23 (.idxSl 2 (.t 20) (.t 22)),
 oQ 24 (.load true 2 (.t 23)),
 oQ 6 (.alloc [.int .i64 0, .int .i64 0]),
 ⟨none, .store 2 (.t 6) (.t 24), none, none, []⟩])
 (.seq (.seq (.region 0 [oP 25 (.fieldAddr 0 (.t 6)),
 oQ 26 (.load false 1 (.t 25)),
 oP 7 (.move (.t 26))])
 (.block 0 (.loop (.seq (.seq (.region 0 [oP 27 (.move (.t 7)),
 oP 28 (.fieldAddr 1 (.t 6)),
 oQ 29 (.load false 1 (.t 28)),
 oP 30 (.bin .leq (.t 27) (.t 29))])
 (.cond (.t 30) (.skip)
 (.exit 0)))
 (.seq (.block 1 (.region 5 [oP 33 (.move (.t 5)),
 ⟨(some 34), .load true 4 (.t 2), none, none, [0, 1, 2, 3, 4]⟩,
 ⟨(some 35), .buildSlice 1 0 [.int .i64 0] [], none, (some 0), []⟩,
 oP 36 (.move (.t 1)),
 ⟨(some 37), .append true 1 8 (.t 35) (.t 36), none, (some 1), [2, 3, 4]⟩,
 oP 38 (.move (.t 7)),
 ⟨(some 39), .buildSlice 1 1 [.int .i64 0] [(0, (.t 38))], none, (some 2), []⟩,
 ⟨(some 40), .append true 1 8 (.t 37) (.t 39), none, (some 3), [4]⟩,
 ⟨(some 41), .call 0 95 [(.t 34), (.t 40)], none, none, [4]⟩,
 ⟨(some 42), .append false 1 24 (.t 33) (.t 41), none, (some 4), []⟩,
 oP 5 (.move (.t 42))]))
 (.region 0 [oP 31 (.move (.t 7)),
 oP 32 (.bin .add (.t 31) (.c (.int .i64 1))),
 oP 7 (.move (.t 32))]))))))
 (.seq (.region 0 [oP 43 (.move (.t 5)),
 oP 4 (.move (.t 43))])
 (.ret))))))⟩
/-- (almadraba/lifts.sea).lifts -/
def f96 : AFn := ⟨23, [.tmp 4],
 .seq (.region 0 [oQ 2 (.box (.t 0)),
 oP 4 (.move (.c (.int .i64 0)))])
 (.seq (.region 0 [oP 5 (.move (.c (.int .i64 2000)))])
 (.seq (.seq (.region 0 [oP 8 (.move (.t 1)),
 oP 9 (.lenS (.t 8)),
 oP 10 (.move (.c (.int .i64 0)))])
 (.block 0 (.loop (.seq (.region 0 [oP 11 (.bin .lss (.t 10) (.t 9))])
 (.seq (.cond (.t 11) (.skip)
 (.exit 0))
 (.seq (.block 1 (.seq (.region 0 [oP 12 (.move (.t 10)),
 oP 13 (.idxSl 1 (.t 8) (.t 10)),
 oQ 14 (.load false 1 (.t 13)),
 oP 6 (.move (.t 12)),
 oP 7 (.move (.t 14))])
 (.region 0 [oP 15 (.move (.t 5)),
 oQ 16 (.load true 4 (.t 2)),
 oP 17 (.move (.t 6)),
 oP 18 (.move (.t 7)),
 oQ 19 (.call 1 112 [(.t 16), (.t 17), (.t 18)]),
 oP 20 (.minmax false (.t 15) [(.t 19)]),
 oP 5 (.move (.t 20))])))
 (.region 0 [oP 21 (.bin .add (.t 10) (.c (.int .i64 1))),
 oP 10 (.move (.t 21))])))))))
 (.seq (.region 0 [oP 22 (.move (.t 5)),
 oP 4 (.move (.t 22))])
 (.ret))))⟩
/-- almadraba/almadrabaref05.LiftsOf -/
def f97 : AFn := ⟨32, [.tmp 6],
 .seq (.region 0 [oQ 3 (.box (.t 0)),
 oP 6 (.move (.c (.int .i64 0)))])
 (.seq (.region 0 [oP 7 (.move (.c (.int .i64 2000)))])
 (.seq (.seq (.region 0 [oP 8 (.move (.c (.int .i64 0)))])
 (.block 0 (.loop (.seq (.seq (.region 0 [oP 9 (.move (.t 8)),
 oP 10 (.move (.t 1)),
 oP 11 (.lenS (.t 10)),
 oP 12 (.bin .lss (.t 9) (.t 11))])
 (.cond (.t 12) (.skip)
 (.exit 0)))
 (.seq (.block 1 (.region 0 [oP 15 (.move (.t 7)),
 oP 16 (.fieldAddr 3 (.t 3)),
 oQ 17 (.load false 1 (.t 16)),
 oP 18 (.move (.t 1)),
 oP 19 (.move (.t 8)),
 oP 20 (.idxSl 1 (.t 18) (.t 19)),
 oQ 21 (.load false 1 (.t 20)),
 oP 22 (.idxSl 2 (.t 17) (.t 21)),
 oP 23 (.fieldAddr 0 (.t 22)),
 oQ 24 (.load false 1 (.t 23)),
 oP 25 (.move (.t 2)),
 oP 26 (.move (.t 8)),
 oP 27 (.idxSl 1 (.t 25) (.t 26)),
 oQ 28 (.load false 1 (.t 27)),
 oQ 29 (.call 1 99 [(.t 24), (.t 28)]),
 oP 30 (.minmax false (.t 15) [(.t 29)]),
 oP 7 (.move (.t 30))]))
 (.region 0 [oP 13 (.move (.t 8)),
 oP 14 (.bin .add (.t 13) (.c (.int .i64 1))),
 oP 8 (.move (.t 14))]))))))
 (.seq (.region 0 [oP 31 (.move (.t 7)),
 oP 6 (.move (.t 31))])
 (.ret))))⟩
/-- almadraba/almadrabaref05.SharesOf -/
def f98 : AFn := ⟨20, [.tmp 2],
 .seq (.region 0 [oQ 1 (.box (.t 0)),
 oP 2 (.move (.c (.nils)))])
 (.seq (.region 0 [oP 3 (.move (.c (.nils)))])
 (.seq (.seq (.region 0 [oP 4 (.move (.c (.int .i64 0)))])
 (.block 0 (.loop (.seq (.seq (.region 0 [oP 5 (.move (.t 4)),
 oP 6 (.fieldAddr 2 (.t 1)),
 oQ 7 (.load false 1 (.t 6)),
 oP 8 (.lenS (.t 7)),
 oP 9 (.bin .lss (.t 5) (.t 8))])
 (.cond (.t 9) (.skip)
 (.exit 0)))
 (.seq (.block 1 (.region 0 [oP 12 (.move (.t 3)),
 oQ 13 (.load true 4 (.t 1)),
 oP 14 (.move (.t 4)),
 oQ 15 (.call 1 90 [(.t 13), (.t 14)]),
 oP 16 (.field false 1 1 (.t 15)),
 oQ 17 (.litS 1 1 [.int .i64 0] [(0, (.t 16))]),
 oQ 18 (.append false 1 8 (.t 12) (.t 17)),
 oP 3 (.move (.t 18))]))
 (.region 0 [oP 10 (.move (.t 4)),
 oP 11 (.bin .add (.t 10) (.c (.int .i64 1))),
 oP 4 (.move (.t 11))]))))))
 (.seq (.region 0 [oP 19 (.move (.t 3)),
 oP 2 (.move (.t 19))])
 (.ret))))⟩
/-- almadraba/almadrabaref05.holds -/
def f99 : AFn := ⟨12, [.tmp 4],
 .seq (.region 0 [oP 4 (.move (.c (.int .i64 0)))])
 (.seq (.seq (.region 0 [oP 5 (.move (.t 1)),
 oP 6 (.bin .eql (.t 5) (.c (.int .i64 0)))])
 (.cond (.t 6) (.seq (.region 0 [oP 4 (.move (.c (.int .i64 2000)))])
 (.ret))
 (.skip)))
 (.seq (.region 0 [oP 7 (.move (.t 0)),
 oP 8 (.bin .mul (.c (.int .i64 12)) (.t 7)),
 oP 9 (.move (.t 1)),
 oP 10 (.bin .quo (.t 8) (.t 9)),
 oP 11 (.minmax false (.c (.int .i64 2000)) [(.t 10)]),
 oP 4 (.move (.t 11))])
 (.ret)))⟩
/-- almadraba/almadrabaref05.crews -/
def f100 : AFn := ⟨37, [.tmp 4],
 .seq (.region 0 [oQ 2 (.box (.t 0)),
 oP 4 (.move (.c (.nils)))])
 (.seq (.seq (.region 0 [oP 7 (.move (.t 1)),
 oP 8 (.lenS (.t 7)),
 oP 9 (.fieldAddr 2 (.t 2)),
 oQ 10 (.load false 1 (.t 9)),
 oP 11 (.lenS (.t 10)),
 oP 12 (.bin .eql (.t 8) (.t 11))])
 (.cond (.t 12) (.seq (.region 0 [oP 13 (.move (.t 1)),
 oQ 14 (.buildSlice 1 1 [.nils] [(0, (.t 13))]),
 oP 4 (.move (.t 14))])
 (.ret))
 (.skip)))
 (.seq (.region 0 [oP 5 (.move (.c (.nils)))])
 (.seq (.seq (.region 0 [oP 6 (.move (.c (.int .i64 0)))])
 (.block 0 (.loop (.seq (.seq (.region 0 [oP 15 (.move (.t 6)),
 oP 16 (.fieldAddr 3 (.t 2)),
 oQ 17 (.load false 1 (.t 16)),
 oP 18 (.lenS (.t 17)),
 oP 19 (.bin .lss (.t 15) (.t 18))])
 (.cond (.t 19) (.skip)
 (.exit 0)))
 (.seq (.block 1 (.seq (.region 0 [oP 22 (.move (.t 1)),
 oP 23 (.move (.t 6)),
 oQ 24 (.call 1 49 [(.t 22), (.t 23)]),
 oP 25 (.un .not (.t 24))])
 (.cond (.t 25) (.region 5 [oP 26 (.move (.t 5)),
 ⟨(some 27), .load true 4 (.t 2), none, none, [0, 1, 2, 3, 4]⟩,
 ⟨(some 28), .buildSlice 1 0 [.int .i64 0] [], none, (some 0), []⟩,
 oP 29 (.move (.t 1)),
 ⟨(some 30), .append true 1 8 (.t 28) (.t 29), none, (some 1), [2, 3, 4]⟩,
 oP 31 (.move (.t 6)),
 ⟨(some 32), .buildSlice 1 1 [.int .i64 0] [(0, (.t 31))], none, (some 2), []⟩,
 ⟨(some 33), .append true 1 8 (.t 30) (.t 32), none, (some 3), [4]⟩,
 ⟨(some 34), .call 0 100 [(.t 27), (.t 33)], none, none, [4]⟩,
 ⟨(some 35), .append false 1 24 (.t 26) (.t 34), none, (some 4), []⟩,
 oP 5 (.move (.t 35))])
 (.skip))))
 (.region 0 [oP 20 (.move (.t 6)),
 oP 21 (.bin .add (.t 20) (.c (.int .i64 1))),
 oP 6 (.move (.t 21))]))))))
 (.seq (.region 0 [oP 36 (.move (.t 5)),
 oP 4 (.move (.t 36))])
 (.ret)))))⟩
/-- almadraba/almadrabaref05.NeedsOf -/
def f101 : AFn := ⟨19, [.tmp 2],
 .seq (.region 0 [oQ 1 (.box (.t 0)),
 oP 2 (.move (.c (.nils)))])
 (.seq (.region 0 [oP 3 (.move (.c (.nils)))])
 (.seq (.seq (.region 0 [oP 4 (.move (.c (.int .i64 0)))])
 (.block 0 (.loop (.seq (.seq (.region 0 [oP 5 (.move (.t 4)),
 oP 6 (.fieldAddr 2 (.t 1)),
 oQ 7 (.load false 1 (.t 6)),
 oP 8 (.lenS (.t 7)),
 oP 9 (.bin .lss (.t 5) (.t 8))])
 (.cond (.t 9) (.skip)
 (.exit 0)))
 (.seq (.block 1 (.region 0 [oP 12 (.move (.t 3)),
 oQ 13 (.load true 4 (.t 1)),
 oP 14 (.move (.t 4)),
 oQ 15 (.call 1 92 [(.t 13), (.t 14)]),
 oQ 16 (.litS 1 1 [.int .i64 0] [(0, (.t 15))]),
 oQ 17 (.append false 1 8 (.t 12) (.t 16)),
 oP 3 (.move (.t 17))]))
 (.region 0 [oP 10 (.move (.t 4)),
 oP 11 (.bin .add (.t 10) (.c (.int .i64 1))),
 oP 4 (.move (.t 11))]))))))
 (.seq (.region 0 [oP 18 (.move (.t 3)),
 oP 2 (.move (.t 18))])
 (.ret))))⟩
/-- (almadraba/lifts.sea).most -/
def f102 : AFn := ⟨14, [.tmp 2],
 .seq (.region 0 [oQ 1 (.box (.t 0)),
 oP 2 (.move (.c (.int .i64 0)))])
 (.seq (.region 0 [oQ 3 (.alloc [.int .i64 0]),
 ⟨none, .store 1 (.t 3) (.c (.int .i64 0)), none, none, []⟩])
 (.seq (.seq (.region 0 [oQ 5 (.load true 4 (.t 1)),
 oP 6 (.mkFn 121 [(.t 5)] [])])
 (.block 0 (.rangeFunc (.t 6) [7] (.region 0 [oP 4 (.move (.t 7))])
 (.block 1 (.region 0 [oQ 8 (.load false 1 (.t 3)),
 oQ 9 (.load true 4 (.t 1)),
 oP 10 (.move (.t 4)),
 oQ 11 (.call 1 96 [(.t 9), (.t 10)]),
 oP 12 (.minmax true (.t 8) [(.t 11)]),
 ⟨none, .store 1 (.t 3) (.t 12), none, none, []⟩])))))
 (.seq (.region 0 [oQ 13 (.load false 1 (.t 3)),
 oP 2 (.move (.t 13))])
 (.ret))))⟩
/-- almadraba/almadrabaref05.enough -/
def f103 : AFn := ⟨16, [.tmp 2],
 .seq (.region 0 [oQ 1 (.box (.t 0)),
 oP 2 (.move (.c (.int .i64 0)))])
 (.seq (.seq (.region 0 [oQ 4 (.load true 4 (.t 1)),
 oQ 5 (.call 1 53 [(.t 4)]),
 oP 3 (.move (.t 5))])
 (.seq (.region 0 [oP 6 (.move (.t 3)),
 oP 7 (.bin .neq (.t 6) (.c (.int .i64 0)))])
 (.cond (.t 7) (.seq (.region 0 [oP 8 (.move (.t 3)),
 oP 2 (.move (.t 8))])
 (.ret))
 (.skip))))
 (.seq (.seq (.region 0 [oP 9 (.fieldAddr 3 (.t 1)),
 oQ 10 (.load false 1 (.t 9)),
 oP 11 (.lenS (.t 10)),
 oP 12 (.fieldAddr 2 (.t 1)),
 oQ 13 (.load false 1 (.t 12)),
 oP 14 (.lenS (.t 13)),
 oP 15 (.bin .lss (.t 11) (.t 14))])
 (.cond (.t 15) (.seq (.region 0 [oP 2 (.move (.c (.int .i64 3)))])
 (.ret))
 (.skip)))
 (.seq (.region 0 [oP 2 (.move (.c (.int .i64 0)))])
 (.ret))))⟩
/-- almadraba/almadrabaref05.most -/
def f104 : AFn := ⟨27, [.tmp 2],
 .seq (.region 0 [oQ 1 (.box (.t 0)),
 oP 2 (.move (.c (.int .i64 0)))])
 (.seq (.region 0 [oP 3 (.move (.c (.int .i64 0)))])
 (.seq (.region 0 [oQ 7 (.load true 4 (.t 1)),
 oQ 8 (.call 1 100 [(.t 7), (.c (.nils))]),
 oQ 9 (.load true 4 (.t 1)),
 oQ 10 (.call 1 98 [(.t 9)]),
 oP 4 (.move (.t 8)),
 oP 5 (.move (.t 10))])
 (.seq (.seq (.region 0 [oP 6 (.move (.c (.int .i64 0)))])
 (.block 0 (.loop (.seq (.seq (.region 0 [oP 11 (.move (.t 6)),
 oP 12 (.move (.t 4)),
 oP 13 (.lenS (.t 12)),
 oP 14 (.bin .lss (.t 11) (.t 13))])
 (.cond (.t 14) (.skip)
 (.exit 0)))
 (.seq (.block 1 (.region 0 [oP 17 (.move (.t 3)),
 oQ 18 (.load true 4 (.t 1)),
 oP 19 (.move (.t 4)),
 oP 20 (.move (.t 6)),
 oP 21 (.idxSl 1 (.t 19) (.t 20)),
 oQ 22 (.load false 1 (.t 21)),
 oP 23 (.move (.t 5)),
 oQ 24 (.call 1 97 [(.t 18), (.t 22), (.t 23)]),
 oP 25 (.minmax true (.t 17) [(.t 24)]),
 oP 3 (.move (.t 25))]))
 (.region 0 [oP 15 (.move (.t 6)),
 oP 16 (.bin .add (.t 15) (.c (.int .i64 1))),
 oP 6 (.move (.t 16))]))))))
 (.seq (.region 0 [oP 26 (.move (.t 3)),
 oP 2 (.move (.t 26))])
 (.ret)))))⟩
/-- almadraba/almadrabaref05.lists -/
def f105 : AFn := ⟨44, [.tmp 6],
 .seq (.region 0 [oP 6 (.move (.c (.nils)))])
 (.seq (.seq (.region 0 [oP 10 (.move (.t 0)),
 oP 11 (.lenS (.t 10)),
 oP 12 (.move (.t 1)),
 oP 13 (.bin .eql (.t 11) (.t 12))])
 (.cond (.t 13) (.seq (.region 0 [oP 14 (.move (.t 0)),
 oQ 15 (.buildSlice 1 1 [.nils] [(0, (.t 14))]),
 oP 6 (.move (.t 15))])
 (.ret))
 (.skip)))
 (.seq (.region 0 [oP 7 (.move (.c (.int .i64 0)))])
 (.seq (.seq (.region 0 [oP 16 (.move (.t 0)),
 oP 17 (.lenS (.t 16)),
 oP 18 (.bin .gtr (.t 17) (.c (.int .i64 0)))])
 (.cond (.t 18) (.region 0 [oP 19 (.move (.t 0)),
 oP 20 (.move (.t 0)),
 oP 21 (.lenS (.t 20)),
 oP 22 (.bin .sub (.t 21) (.c (.int .i64 1))),
 oP 23 (.idxSl 1 (.t 19) (.t 22)),
 oQ 24 (.load false 1 (.t 23)),
 oP 25 (.bin .add (.t 24) (.c (.int .i64 1))),
 oP 7 (.move (.t 25))])
 (.skip)))
 (.seq (.region 0 [oP 8 (.move (.c (.nils)))])
 (.seq (.seq (.region 0 [oP 26 (.move (.t 7)),
 oP 9 (.move (.t 26))])
 (.block 0 (.loop (.seq (.seq (.region 0 [oP 27 (.move (.t 9)),
 oP 28 (.move (.t 2)),
 oP 29 (.bin .lss (.t 27) (.t 28))])
 (.cond (.t 29) (.skip)
 (.exit 0)))
 (.seq (.block 1 (.region 0 [oP 32 (.move (.t 8)),
 oQ 33 (.buildSlice 1 0 [.int .i64 0] []),
 oP 34 (.move (.t 0)),
 oQ 35 (.append false 1 8 (.t 33) (.t 34)),
 oP 36 (.move (.t 9)),
 oQ 37 (.buildSlice 1 1 [.int .i64 0] [(0, (.t 36))]),
 oQ 38 (.append false 1 8 (.t 35) (.t 37)),
 oP 39 (.move (.t 1)),
 oP 40 (.move (.t 2)),
 oQ 41 (.call 0 105 [(.t 38), (.t 39), (.t 40)]),
 oQ 42 (.append false 1 24 (.t 32) (.t 41)),
 oP 8 (.move (.t 42))]))
 (.region 0 [oP 30 (.move (.t 9)),
 oP 31 (.bin .add (.t 30) (.c (.int .i64 1))),
 oP 9 (.move (.t 31))]))))))
 (.seq (.region 0 [oP 43 (.move (.t 8)),
 oP 6 (.move (.t 43))])
 (.ret)))))))⟩
/-- almadraba/lifts.within -/
def f106 : AFn := ⟨15, [.tmp 4],
 .seq (.region 0 [oQ 2 (.box (.t 0)),
 oP 4 (.move (.c (.bool false)))])
 (.seq (.region 0 [oP 5 (.fieldAddr 0 (.t 2)),
 oQ 6 (.load false 1 (.t 5)),
 oP 7 (.move (.t 1)),
 oP 8 (.bin .leq (.t 6) (.t 7)),
 oP 9 (.move (.t 8)),
 oG 10 9 true (.move (.t 1)),
 oG 11 9 true (.fieldAddr 1 (.t 2)),
 ⟨(some 12), .load false 1 (.t 11), (some (9, true)), none, []⟩,
 oG 13 9 true (.bin .leq (.t 10) (.t 12)),
 oP 14 (.pick (.t 9) (.t 13) (.c (.bool false))),
 oP 4 (.move (.t 14))])
 (.ret))⟩
/-- almadraba/lifts.hasPlace -/
def f107 : AFn := ⟨11, [.tmp 4],
 .seq (.region 0 [oQ 2 (.box (.t 0)),
 oP 4 (.move (.c (.bool false)))])
 (.seq (.region 0 [oP 5 (.move (.t 1)),
 oP 6 (.fieldAddr 2 (.t 2)),
 oQ 7 (.load false 1 (.t 6)),
 oP 8 (.lenS (.t 7)),
 oP 9 (.bin .sub (.t 8) (.c (.int .i64 1))),
 oQ 10 (.call 1 118 [(.t 5), (.t 9)]),
 oP 4 (.move (.t 10))])
 (.ret))⟩
/-- almadraba/lifts.together -/
def f108 : AFn := ⟨26, [.cell true 2 2],
 .seq (.region 0 [oQ 2 (.alloc [.int .i64 0, .int .i64 0])])
 (.seq (.region 0 [oQ 3 (.alloc [.int .i64 0, .int .i64 0])])
 (.seq (.seq (.region 0 [oP 6 (.move (.t 0)),
 oP 7 (.lenS (.t 6)),
 oP 8 (.move (.c (.int .i64 0)))])
 (.block 0 (.loop (.seq (.region 0 [oP 9 (.bin .lss (.t 8) (.t 7))])
 (.seq (.cond (.t 9) (.skip)
 (.exit 0))
 (.seq (.block 1 (.seq (.region 0 [oP 10 (.idxSl 2 (.t 6) (.t 8)),
 oQ 11 (.load true 2 (.t 10)),
 oQ 5 (.alloc [.int .i64 0, .int .i64 0]),
 ⟨none, .store 2 (.t 5) (.t 11), none, none, []⟩])
 (.seq (.region 0 [oP 12 (.fieldAddr 0 (.t 3)),
 oQ 13 (.load false 1 (.t 12)),
 oP 14 (.fieldAddr 0 (.t 5)),
 oQ 15 (.load false 1 (.t 14)),
 oP 16 (.bin .add (.t 13) (.t 15)),
 oP 17 (.fieldAddr 0 (.t 3)),
 ⟨none, .store 1 (.t 17) (.t 16), none, none, []⟩])
 (.region 0 [oP 18 (.fieldAddr 1 (.t 3)),
 oQ 19 (.load false 1 (.t 18)),
 oP 20 (.fieldAddr 1 (.t 5)),
 oQ 21 (.load false 1 (.t 20)),
 oP 22 (.bin .add (.t 19) (.t 21)),
 oP 23 (.fieldAddr 1 (.t 3)),
 ⟨none, .store 1 (.t 23) (.t 22), none, none, []⟩]))))
 (.region 0 [oP 24 (.bin .add (.t 8) (.c (.int .i64 1))),
 oP 8 (.move (.t 24))])))))))
 (.seq (.region 0 [oQ 25 (.load true 2 (.t 3)),
 ⟨none, .store 2 (.t 2) (.t 25), none, none, []⟩])
 (.ret))))⟩
/-- almadraba/lifts.isCrew -/
def f109 : AFn := ⟨35, [.tmp 4],
 .seq (.region 0 [oQ 2 (.box (.t 0)),
 oP 4 (.move (.c (.bool false)))])
 (.seq (.seq (.region 0 [oP 7 (.move (.t 1)),
 oP 8 (.lenS (.t 7)),
 oP 9 (.fieldAddr 2 (.t 2)),
 oQ 10 (.load false 1 (.t 9)),
 oP 11 (.lenS (.t 10)),
 oP 12 (.bin .neq (.t 8) (.t 11))])
 (.cond (.t 12) (.seq (.region 0 [oP 4 (.move (.c (.bool false)))])
 (.ret))
 (.skip)))
 (.seq (.seq (.region 0 [oP 13 (.move (.t 1)),
 oP 14 (.lenS (.t 13)),
 oP 15 (.move (.c (.int .i64 0)))])
 (.block 0 (.loop (.seq (.region 0 [oP 16 (.bin .lss (.t 15) (.t 14))])
 (.seq (.cond (.t 16) (.skip)
 (.exit 0))
 (.seq (.block 1 (.seq (.region 0 [oP 17 (.move (.t 15)),
 oP 18 (.idxSl 1 (.t 13) (.t 15)),
 oQ 19 (.load false 1 (.t 18)),
 oP 5 (.move (.t 17)),
 oP 6 (.move (.t 19))])
 (.seq (.region 0 [oP 20 (.move (.t 6)),
 oP 21 (.fieldAddr 3 (.t 2)),
 oQ 22 (.load false 1 (.t 21)),
 oP 23 (.lenS (.t 22)),
 oP 24 (.bin .sub (.t 23) (.c (.int .i64 1))),
 oQ 25 (.call 1 118 [(.t 20), (.t 24)]),
 oP 26 (.un .not (.t 25)),
 oP 27 (.move (.t 26)),
 oG 28 27 false (.move (.t 1)),
 oG 29 27 false (.move (.t 5)),
 oG 30 27 false (.slice 1 (.t 28) none (some (.t 29))),
 oG 31 27 false (.move (.t 6)),
 ⟨(some 32), .call 1 122 [(.t 30), (.t 31)], (some (27, false)), none, []⟩,
 oP 33 (.pick (.t 27) (.c (.bool true)) (.t 32))])
 (.cond (.t 33) (.seq (.region 0 [oP 4 (.move (.c (.bool false)))])
 (.ret))
 (.skip)))))
 (.region 0 [oP 34 (.bin .add (.t 15) (.c (.int .i64 1))),
 oP 15 (.move (.t 34))])))))))
 (.seq (.region 0 [oP 4 (.move (.c (.bool true)))])
 (.ret))))⟩
/-- (almadraba/lifts.sea).cheapest -/
def f110 : AFn := ⟨29, [.tmp 2, .tmp 3],
 .seq (.region 0 [oQ 1 (.box (.t 0)),
 oP 2 (.move (.c (.nils))),
 oP 3 (.move (.c (.int .i64 0)))])
 (.seq (.region 0 [oQ 4 (.alloc [.nils])])
 (.seq (.region 0 [oQ 5 (.alloc [.int .i64 0]),
 ⟨none, .store 1 (.t 5) (.c (.int .i64 0)), none, none, []⟩])
 (.seq (.seq (.region 0 [oQ 8 (.load true 4 (.t 1)),
 oP 9 (.mkFn 121 [(.t 8)] [])])
 (.block 0 (.rangeFunc (.t 9) [10] (.region 0 [oP 6 (.move (.t 10))])
 (.block 1 (.seq (.seq (.region 0 [oQ 11 (.load true 4 (.t 1)),
 oP 12 (.move (.t 6)),
 oQ 13 (.call 1 79 [(.t 11), (.t 12)]),
 oP 14 (.un .not (.t 13))])
 (.cond (.t 14) (.exit 1)
 (.skip)))
 (.seq (.region 0 [oQ 15 (.load true 4 (.t 1)),
 oP 16 (.move (.t 6)),
 oQ 17 (.call 1 123 [(.t 15), (.t 16)]),
 oP 7 (.move (.t 17))])
 (.seq (.region 0 [oQ 18 (.load false 1 (.t 4)),
 oP 19 (.isNil (.t 18) (.c (.nils))),
 oP 20 (.move (.t 19)),
 oG 21 20 false (.move (.t 7)),
 ⟨(some 22), .load false 1 (.t 5), (some (20, false)), none, []⟩,
 oG 23 20 false (.bin .lss (.t 21) (.t 22)),
 oP 24 (.pick (.t 20) (.c (.bool true)) (.t 23))])
 (.cond (.t 24) (.region 0 [oP 25 (.move (.t 6)),
 oP 26 (.move (.t 7)),
 ⟨none, .store 1 (.t 4) (.t 25), none, none, []⟩,
 ⟨none, .store 1 (.t 5) (.t 26), none, none, []⟩])
 (.skip)))))))))
 (.seq (.region 0 [oQ 27 (.load false 1 (.t 4)),
 oQ 28 (.load false 1 (.t 5)),
 oP 2 (.move (.t 27)),
 oP 3 (.move (.t 28))])
 (.ret)))))⟩
/-- (almadraba/lifts.sea).able -/
def f111 : AFn := ⟨26, [.tmp 4],
 .seq (.region 0 [oQ 2 (.box (.t 0)),
 oP 4 (.move (.c (.int .i64 0)))])
 (.seq (.region 0 [oP 5 (.move (.c (.int .i64 0)))])
 (.seq (.seq (.region 0 [oP 8 (.fieldAddr 0 (.t 2)),
 oP 9 (.fieldAddr 3 (.t 8)),
 oQ 10 (.load false 1 (.t 9)),
 oP 11 (.lenS (.t 10)),
 oP 12 (.move (.c (.int .i64 0)))])
 (.block 0 (.loop (.seq (.region 0 [oP 13 (.bin .lss (.t 12) (.t 11))])
 (.seq (.cond (.t 13) (.skip)
 (.exit 0))
 (.seq (.block 1 (.seq (.region 0 [oP 14 (.idxSl 2 (.t 10) (.t 12)),
 oQ 15 (.load true 2 (.t 14)),
 oQ 7 (.alloc [.int .i64 0, .int .i64 0]),
 ⟨none, .store 2 (.t 7) (.t 15), none, none, []⟩])
 (.seq (.region 0 [oP 16 (.fieldAddr 0 (.t 7)),
 oQ 17 (.load false 1 (.t 16)),
 oQ 18 (.load true 4 (.t 2)),
 oP 19 (.move (.t 1)),
 oQ 20 (.call 1 91 [(.t 18), (.t 19)]),
 oP 21 (.bin .geq (.t 17) (.t 20))])
 (.cond (.t 21) (.region 0 [oP 22 (.move (.t 5)),
 oP 23 (.bin .add (.t 22) (.c (.int .i64 1))),
 oP 5 (.move (.t 23))])
 (.skip)))))
 (.region 0 [oP 24 (.bin .add (.t 12) (.c (.int .i64 1))),
 oP 12 (.move (.t 24))])))))))
 (.seq (.region 0 [oP 25 (.move (.t 5)),
 oP 4 (.move (.t 25))])
 (.ret))))⟩
/-- (almadraba/lifts.sea).bears -/
def f112 : AFn := ⟨25, [.tmp 6],
 .seq (.region 0 [oQ 3 (.box (.t 0)),
 oP 6 (.move (.c (.int .i64 0)))])
 (.seq (.region 0 [oQ 8 (.load true 4 (.t 3)),
 oP 9 (.move (.t 1)),
 oQ 10 (.call 1 76 [(.t 8), (.t 9)]),
 oP 11 (.field false 1 1 (.t 10)),
 oP 7 (.move (.t 11))])
 (.seq (.seq (.region 0 [oP 12 (.move (.t 7)),
 oP 13 (.bin .eql (.t 12) (.c (.int .i64 0)))])
 (.cond (.t 13) (.seq (.region 0 [oP 6 (.move (.c (.int .i64 2000)))])
 (.ret))
 (.skip)))
 (.seq (.region 0 [oP 14 (.fieldAddr 0 (.t 3)),
 oP 15 (.fieldAddr 3 (.t 14)),
 oQ 16 (.load false 1 (.t 15)),
 oP 17 (.move (.t 2)),
 oP 18 (.idxSl 2 (.t 16) (.t 17)),
 oP 19 (.fieldAddr 0 (.t 18)),
 oQ 20 (.load false 1 (.t 19)),
 oP 21 (.bin .mul (.c (.int .i64 12)) (.t 20)),
 oP 22 (.move (.t 7)),
 oP 23 (.bin .quo (.t 21) (.t 22)),
 oP 24 (.minmax false (.t 23) [(.c (.int .i64 2000))]),
 oP 6 (.move (.t 24))])
 (.ret))))⟩
/-- slices.Clone[[]int,int] -/
def f113 : AFn := ⟨8, [.tmp 2],
 .seq (.region 0 [oP 2 (.move (.c (.nils)))])
 (.seq (.seq (.region 0 [oP 3 (.move (.t 0)),
 oP 4 (.isNil (.t 3) (.c (.nils)))])
 (.cond (.t 4) (.seq (.region 0 [oP 2 (.move (.c (.nils)))])
 (.ret))
 (.skip)))
 (.seq (.region 0 [oQ 5 (.buildSlice 1 0 [.int .i64 0] []),
 oP 6 (.move (.t 0)),
 oQ 7 (.append false 1 8 (.t 5) (.t 6)),
 oP 2 (.move (.t 7))])
 (.ret)))⟩
/-- (almadraba/lifts.sea).stronger -/
def f114 : AFn := ⟨22, [.cell true 4 4],
 .seq (.region 0 [oQ 2 (.box (.t 0)),
 oQ 4 (.alloc [.int .i64 0, .int .i64 0, .nils, .nils])])
 (.seq (.region 0 [oP 5 (.fieldAddr 0 (.t 2)),
 oP 6 (.fieldAddr 3 (.t 5)),
 oQ 7 (.load false 1 (.t 6)),
 oQ 8 (.call 2 124 [(.t 7)]),
 oP 9 (.fieldAddr 0 (.t 2)),
 oP 10 (.fieldAddr 3 (.t 9)),
 ⟨none, .store 1 (.t 10) (.t 8), none, none, []⟩])
 (.seq (.region 0 [oP 11 (.fieldAddr 0 (.t 2)),
 oP 12 (.fieldAddr 3 (.t 11)),
 oQ 13 (.load false 1 (.t 12)),
 oP 14 (.move (.t 1)),
 oP 15 (.idxSl 2 (.t 13) (.t 14)),
 oP 16 (.fieldAddr 0 (.t 15)),
 oQ 17 (.load false 1 (.t 16)),
 oP 18 (.bin .add (.t 17) (.c (.int .i64 1))),
 oP 19 (.idxSl 2 (.t 13) (.t 14)),
 oP 20 (.fieldAddr 0 (.t 19)),
 ⟨none, .store 1 (.t 20) (.t 18), none, none, []⟩])
 (.seq (.region 0 [oQ 21 (.load true 4 (.t 2)),
 ⟨none, .store 4 (.t 4) (.t 21), none, none, []⟩])
 (.ret))))⟩
/-- almadraba/lifts.valid$1 -/
def f115 : AFn := ⟨5, [.tmp 2],
 .seq (.region 0 [oQ 1 (.box (.t 0)),
 oP 2 (.move (.c (.bool false)))])
 (.seq (.region 0 [oQ 3 (.load true 2 (.t 1)),
 oQ 4 (.call 1 116 [(.t 3), (.c (.int .i64 12))]),
 oP 2 (.move (.t 4))])
 (.ret))⟩
/-- almadraba/lifts.isSpan -/
def f116 : AFn := ⟨21, [.tmp 4],
 .seq (.region 0 [oQ 2 (.box (.t 0)),
 oP 4 (.move (.c (.bool false)))])
 (.seq (.region 0 [oP 5 (.fieldAddr 0 (.t 2)),
 oQ 6 (.load false 1 (.t 5)),
 oP 7 (.bin .leq (.c (.int .i64 0)) (.t 6)),
 oP 8 (.move (.t 7)),
 oG 9 8 true (.fieldAddr 0 (.t 2)),
 ⟨(some 10), .load false 1 (.t 9), (some (8, true)), none, []⟩,
 oG 11 8 true (.fieldAddr 1 (.t 2)),
 ⟨(some 12), .load false 1 (.t 11), (some (8, true)), none, []⟩,
 oG 13 8 true (.bin .leq (.t 10) (.t 12)),
 oP 14 (.pick (.t 8) (.t 13) (.c (.bool false))),
 oP 15 (.move (.t 14)),
 oG 16 15 true (.fieldAddr 1 (.t 2)),
 ⟨(some 17), .load false 1 (.t 16), (some (15, true)), none, []⟩,
 oG 18 15 true (.move (.t 1)),
 oG 19 15 true (.bin .leq (.t 17) (.t 18)),
 oP 20 (.pick (.t 15) (.t 19) (.c (.bool false))),
 oP 4 (.move (.t 20))])
 (.ret))⟩
/-- almadraba/lifts.valid$2 -/
def f117 : AFn := ⟨11, [.tmp 2],
 .seq (.region 0 [oQ 1 (.box (.t 0)),
 oP 2 (.move (.c (.bool false)))])
 (.seq (.region 0 [oP 3 (.fieldAddr 0 (.t 1)),
 oQ 4 (.load false 1 (.t 3)),
 oQ 5 (.call 1 118 [(.t 4), (.c (.int .i64 999))]),
 oP 6 (.move (.t 5)),
 oG 7 6 true (.fieldAddr 1 (.t 1)),
 ⟨(some 8), .load false 1 (.t 7), (some (6, true)), none, []⟩,
 ⟨(some 9), .call 1 118 [(.t 8), (.c (.int .i64 99))], (some (6, true)), none, []⟩,
 oP 10 (.pick (.t 6) (.t 9) (.c (.bool false))),
 oP 2 (.move (.t 10))])
 (.ret))⟩
/-- almadraba/lifts.upTo -/
def f118 : AFn := ⟨12, [.tmp 4],
 .seq (.region 0 [oP 4 (.move (.c (.bool false)))])
 (.seq (.region 0 [oP 5 (.move (.t 0)),
 oP 6 (.bin .leq (.c (.int .i64 0)) (.t 5)),
 oP 7 (.move (.t 6)),
 oG 8 7 true (.move (.t 0)),
 oG 9 7 true (.move (.t 1)),
 oG 10 7 true (.bin .leq (.t 8) (.t 9)),
 oP 11 (.pick (.t 7) (.t 10) (.c (.bool false))),
 oP 4 (.move (.t 11))])
 (.ret))⟩
/-- almadraba/lifts.each[almadraba/api.Span] -/
def f119 : AFn := ⟨9, [.tmp 4],
 .seq (.region 0 [oQ 3 (.box (.t 1)),
 oP 4 (.move (.c (.bool false)))])
 (.seq (.region 0 [oP 5 (.move (.t 0)),
 oP 6 (.mkFn 126 [] [(.t 3)]),
 oQ 7 (.call 3 125 [(.t 5), (.t 6)]),
 oP 8 (.un .not (.t 7)),
 oP 4 (.move (.t 8))])
 (.ret))⟩
/-- almadraba/lifts.each[almadraba/api.LiftBoat] -/
def f120 : AFn := ⟨9, [.tmp 4],
 .seq (.region 0 [oQ 3 (.box (.t 1)),
 oP 4 (.move (.c (.bool false)))])
 (.seq (.region 0 [oP 5 (.move (.t 0)),
 oP 6 (.mkFn 128 [] [(.t 3)]),
 oQ 7 (.call 3 127 [(.t 5), (.t 6)]),
 oP 8 (.un .not (.t 7)),
 oP 4 (.move (.t 8))])
 (.ret))⟩
/-- (almadraba/lifts.sea).crews -/
def f121 : AFn := ⟨7, [],
 .seq (.region 0 [oQ 2 (.box (.t 0))])
 (.region 0 [oQ 4 (.load true 4 (.t 2)),
 oP 5 (.move (.t 1)),
 oQ 6 (.call 0 129 [(.t 4), (.c (.nils)), (.t 5)])])⟩
/-- slices.Contains[[]int,int] -/
def f122 : AFn := ⟨9, [.tmp 4],
 .seq (.region 0 [oP 4 (.move (.c (.bool false)))])
 (.seq (.region 0 [oP 5 (.move (.t 0)),
 oP 6 (.move (.t 1)),
 oQ 7 (.call 1 130 [(.t 5), (.t 6)]),
 oP 8 (.bin .geq (.t 7) (.c (.int .i64 0))),
 oP 4 (.move (.t 8))])
 (.ret))⟩
/-- (almadraba/lifts.sea).cost -/
def f123 : AFn := ⟨25, [.tmp 4],
 .seq (.region 0 [oQ 2 (.box (.t 0)),
 oP 4 (.move (.c (.int .i64 0)))])
 (.seq (.region 0 [oP 5 (.move (.c (.int .i64 0)))])
 (.seq (.seq (.region 0 [oP 8 (.move (.t 1)),
 oP 9 (.lenS (.t 8)),
 oP 10 (.move (.c (.int .i64 0)))])
 (.block 0 (.loop (.seq (.region 0 [oP 11 (.bin .lss (.t 10) (.t 9))])
 (.seq (.cond (.t 11) (.skip)
 (.exit 0))
 (.seq (.block 1 (.seq (.region 0 [oP 12 (.idxSl 1 (.t 8) (.t 10)),
 oQ 13 (.load false 1 (.t 12)),
 oP 7 (.move (.t 13))])
 (.region 0 [oP 14 (.move (.t 5)),
 oP 15 (.fieldAddr 0 (.t 2)),
 oP 16 (.fieldAddr 3 (.t 15)),
 oQ 17 (.load false 1 (.t 16)),
 oP 18 (.move (.t 7)),
 oP 19 (.idxSl 2 (.t 17) (.t 18)),
 oP 20 (.fieldAddr 1 (.t 19)),
 oQ 21 (.load false 1 (.t 20)),
 oP 22 (.bin .add (.t 14) (.t 21)),
 oP 5 (.move (.t 22))])))
 (.region 0 [oP 23 (.bin .add (.t 10) (.c (.int .i64 1))),
 oP 10 (.move (.t 23))])))))))
 (.seq (.region 0 [oP 24 (.move (.t 5)),
 oP 4 (.move (.t 24))])
 (.ret))))⟩
/-- slices.Clone[[]almadraba/api.LiftBoat,almadraba/api.LiftBoat] -/
def f124 : AFn := ⟨8, [.tmp 2],
 .seq (.region 0 [oP 2 (.move (.c (.nils)))])
 (.seq (.seq (.region 0 [oP 3 (.move (.t 0)),
 oP 4 (.isNil (.t 3) (.c (.nils)))])
 (.cond (.t 4) (.seq (.region 0 [oP 2 (.move (.c (.nils)))])
 (.ret))
 (.skip)))
 (.seq (.region 0 [oQ 5 (.buildSlice 2 0 [.int .i64 0, .int .i64 0] []),
 oP 6 (.move (.t 0)),
 oQ 7 (.append false 2 16 (.t 5) (.t 6)),
 oP 2 (.move (.t 7))])
 (.ret)))⟩
/-- slices.ContainsFunc[[]almadraba/api.Span,almadraba/api.Span] -/
def f125 : AFn := ⟨9, [.tmp 4],
 .seq (.region 0 [oP 4 (.move (.c (.bool false)))])
 (.seq (.region 0 [oP 5 (.move (.t 0)),
 oP 6 (.move (.t 1)),
 oQ 7 (.call 3 131 [(.t 5), (.t 6)]),
 oP 8 (.bin .geq (.t 7) (.c (.int .i64 0))),
 oP 4 (.move (.t 8))])
 (.ret))⟩
/-- almadraba/lifts.each[almadraba/api.Span]$1 -/
def f126 : AFn := ⟨8, [.tmp 3],
 .seq (.region 0 [oQ 2 (.box (.t 0)),
 oP 3 (.move (.c (.bool false)))])
 (.seq (.region 0 [oQ 4 (.load false 1 (.t 1)),
 oQ 5 (.load true 2 (.t 2)),
 oQ 6 (.callv true (.t 4) [(.t 5)]),
 oP 7 (.un .not (.t 6)),
 oP 3 (.move (.t 7))])
 (.ret))⟩
/-- slices.ContainsFunc[[]almadraba/api.LiftBoat,almadraba/api.LiftBoat] -/
def f127 : AFn := ⟨9, [.tmp 4],
 .seq (.region 0 [oP 4 (.move (.c (.bool false)))])
 (.seq (.region 0 [oP 5 (.move (.t 0)),
 oP 6 (.move (.t 1)),
 oQ 7 (.call 3 132 [(.t 5), (.t 6)]),
 oP 8 (.bin .geq (.t 7) (.c (.int .i64 0))),
 oP 4 (.move (.t 8))])
 (.ret))⟩
/-- almadraba/lifts.each[almadraba/api.LiftBoat]$1 -/
def f128 : AFn := ⟨8, [.tmp 3],
 .seq (.region 0 [oQ 2 (.box (.t 0)),
 oP 3 (.move (.c (.bool false)))])
 (.seq (.region 0 [oQ 4 (.load false 1 (.t 1)),
 oQ 5 (.load true 2 (.t 2)),
 oQ 6 (.callv true (.t 4) [(.t 5)]),
 oP 7 (.un .not (.t 6)),
 oP 3 (.move (.t 7))])
 (.ret))⟩
/-- (almadraba/lifts.sea).longer -/
def f129 : AFn := ⟨51, [.tmp 6],
 .seq (.region 0 [oQ 3 (.box (.t 0)),
 oP 6 (.move (.c (.bool false)))])
 (.scope (.seq (.seq (.region 0 [oP 10 (.move (.t 1)),
 oP 11 (.lenS (.t 10)),
 oP 12 (.fieldAddr 0 (.t 3)),
 oP 13 (.fieldAddr 2 (.t 12)),
 oQ 14 (.load false 1 (.t 13)),
 oP 15 (.lenS (.t 14)),
 oP 16 (.bin .eql (.t 11) (.t 15))])
 (.cond (.t 16) (.seq (.region 0 [oP 17 (.move (.t 2)),
 oP 18 (.move (.t 1)),
 oQ 19 (.callv false (.t 17) [(.t 18)]),
 oP 6 (.move (.t 19))])
 (.ret))
 (.skip)))
 (.seq (.skip)
 (.seq (.seq (.region 0 [oP 20 (.fieldAddr 0 (.t 3)),
 oP 21 (.fieldAddr 3 (.t 20)),
 oQ 22 (.load false 1 (.t 21)),
 oP 23 (.lenS (.t 22)),
 oP 24 (.move (.c (.int .i64 0)))])
 (.block 0 (.loop (.seq (.region 0 [oP 25 (.bin .lss (.t 24) (.t 23))])
 (.seq (.cond (.t 25) (.skip)
 (.exit 0))
 (.seq (.block 1 (.seq (.region 0 [oP 26 (.move (.t 24)),
 oP 7 (.move (.t 26))])
 (.seq (.seq (.region 0 [oP 27 (.move (.t 1)),
 oP 28 (.lenS (.t 27)),
 oP 29 (.move (.c (.int .i64 0)))])
 (.block 2 (.loop (.seq (.region 0 [oP 30 (.bin .lss (.t 29) (.t 28))])
 (.seq (.cond (.t 30) (.skip)
 (.exit 2))
 (.seq (.block 3 (.seq (.region 0 [oP 31 (.idxSl 1 (.t 27) (.t 29)),
 oQ 32 (.load false 1 (.t 31)),
 oP 9 (.move (.t 32))])
 (.seq (.region 0 [oP 33 (.move (.t 9)),
 oP 34 (.move (.t 7)),
 oP 35 (.bin .eql (.t 33) (.t 34))])
 (.cond (.t 35) (.exit 1)
 (.skip)))))
 (.region 0 [oP 36 (.bin .add (.t 29) (.c (.int .i64 1))),
 oP 29 (.move (.t 36))])))))))
 (.seq (.region 1 [⟨(some 37), .load true 4 (.t 3), none, none, [0]⟩,
 oP 38 (.move (.t 1)),
 oP 39 (.move (.t 1)),
 oP 40 (.lenS (.t 39)),
 oP 41 (.move (.t 1)),
 oP 42 (.lenS (.t 41)),
 oP 43 (.slice3 1 (.t 38) (.t 40) (.t 42)),
 oP 44 (.move (.t 7)),
 oQ 45 (.litS 1 1 [.int .i64 0] [(0, (.t 44))]),
 ⟨(some 46), .append true 1 8 (.t 43) (.t 45), none, (some 0), []⟩,
 oP 47 (.move (.t 2)),
 oQ 48 (.call 0 129 [(.t 37), (.t 46), (.t 47)]),
 oP 49 (.un .not (.t 48))])
 (.cond (.t 49) (.seq (.region 0 [oP 6 (.move (.c (.bool false)))])
 (.ret))
 (.skip))))))
 (.region 0 [oP 50 (.bin .add (.t 24) (.c (.int .i64 1))),
 oP 24 (.move (.t 50))])))))))
 (.seq (.region 0 [oP 6 (.move (.c (.bool true)))])
 (.ret))))))⟩
/-- slices.Index[[]int,int] -/
def f130 : AFn := ⟨19, [.tmp 4],
 .seq (.region 0 [oP 4 (.move (.c (.int .i64 0)))])
 (.seq (.seq (.region 0 [oP 6 (.move (.t 0)),
 oP 7 (.lenS (.t 6)),
 oP 8 (.move (.c (.int .i64 0)))])
 (.block 0 (.loop (.seq (.region 0 [oP 9 (.bin .lss (.t 8) (.t 7))])
 (.seq (.cond (.t 9) (.skip)
 (.exit 0))
 (.seq (.block 1 (.seq (.region 0 [oP 10 (.move (.t 8)),
 oP 5 (.move (.t 10))])
 (.seq (.region 0 [oP 11 (.move (.t 1)),
 oP 12 (.move (.t 0)),
 oP 13 (.move (.t 5)),
 oP 14 (.idxSl 1 (.t 12) (.t 13)),
 oQ 15 (.load false 1 (.t 14)),
 oP 16 (.bin .eql (.t 11) (.t 15))])
 (.cond (.t 16) (.seq (.region 0 [oP 17 (.move (.t 5)),
 oP 4 (.move (.t 17))])
 (.ret))
 (.skip)))))
 (.region 0 [oP 18 (.bin .add (.t 8) (.c (.int .i64 1))),
 oP 8 (.move (.t 18))])))))))
 (.seq (.region 0 [oP 4 (.move (.c (.int .i64 (-1))))])
 (.ret)))⟩
/-- slices.IndexFunc[[]almadraba/api.Span,almadraba/api.Span] -/
def f131 : AFn := ⟨19, [.tmp 4],
 .seq (.region 0 [oP 4 (.move (.c (.int .i64 0)))])
 (.seq (.seq (.region 0 [oP 6 (.move (.t 0)),
 oP 7 (.lenS (.t 6)),
 oP 8 (.move (.c (.int .i64 0)))])
 (.block 0 (.loop (.seq (.region 0 [oP 9 (.bin .lss (.t 8) (.t 7))])
 (.seq (.cond (.t 9) (.skip)
 (.exit 0))
 (.seq (.block 1 (.seq (.region 0 [oP 10 (.move (.t 8)),
 oP 5 (.move (.t 10))])
 (.seq (.region 0 [oP 11 (.move (.t 1)),
 oP 12 (.move (.t 0)),
 oP 13 (.move (.t 5)),
 oP 14 (.idxSl 2 (.t 12) (.t 13)),
 oQ 15 (.load true 2 (.t 14)),
 oQ 16 (.callv true (.t 11) [(.t 15)])])
 (.cond (.t 16) (.seq (.region 0 [oP 17 (.move (.t 5)),
 oP 4 (.move (.t 17))])
 (.ret))
 (.skip)))))
 (.region 0 [oP 18 (.bin .add (.t 8) (.c (.int .i64 1))),
 oP 8 (.move (.t 18))])))))))
 (.seq (.region 0 [oP 4 (.move (.c (.int .i64 (-1))))])
 (.ret)))⟩
/-- slices.IndexFunc[[]almadraba/api.LiftBoat,almadraba/api.LiftBoat] -/
def f132 : AFn := ⟨19, [.tmp 4],
 .seq (.region 0 [oP 4 (.move (.c (.int .i64 0)))])
 (.seq (.seq (.region 0 [oP 6 (.move (.t 0)),
 oP 7 (.lenS (.t 6)),
 oP 8 (.move (.c (.int .i64 0)))])
 (.block 0 (.loop (.seq (.region 0 [oP 9 (.bin .lss (.t 8) (.t 7))])
 (.seq (.cond (.t 9) (.skip)
 (.exit 0))
 (.seq (.block 1 (.seq (.region 0 [oP 10 (.move (.t 8)),
 oP 5 (.move (.t 10))])
 (.seq (.region 0 [oP 11 (.move (.t 1)),
 oP 12 (.move (.t 0)),
 oP 13 (.move (.t 5)),
 oP 14 (.idxSl 2 (.t 12) (.t 13)),
 oQ 15 (.load true 2 (.t 14)),
 oQ 16 (.callv true (.t 11) [(.t 15)])])
 (.cond (.t 16) (.seq (.region 0 [oP 17 (.move (.t 5)),
 oP 4 (.move (.t 17))])
 (.ret))
 (.skip)))))
 (.region 0 [oP 18 (.bin .add (.t 8) (.c (.int .i64 1))),
 oP 8 (.move (.t 18))])))))))
 (.seq (.region 0 [oP 4 (.move (.c (.int .i64 (-1))))])
 (.ret)))⟩
end Go.Proofs.Ytdmhbefdidmliaa.T
