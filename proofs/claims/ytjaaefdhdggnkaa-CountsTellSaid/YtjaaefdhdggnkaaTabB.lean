/-
The code of functions of the seat, as the abstract machine has it (printed by a tool of ours off the dump).
-/
import Derived.Test.YtjaaefdhdggnkaaAmX
namespace Go.Proofs.Ytjaaefdhdggnkaa.T
open Go Go.Am
/-- almadraba/counts.Tell -/
def f48 : AFn := ⟨25, [.tmp 4, .tmp 5],
 .seq (.region 0 [⟨(some 2), .box (.t 0), none, none, []⟩,
 ⟨(some 3), .box (.t 1), none, none, []⟩,
 ⟨(some 4), .p (.move (.c (.int .i64 0))), none, none, []⟩,
 ⟨(some 5), .p (.move (.c (.int .i64 0))), none, none, []⟩])
 (.seq (.region 0 [⟨(some 9), .load true 4 (.t 2), none, none, []⟩,
 ⟨(some 10), .load true 4 (.t 2), none, none, []⟩,
 ⟨(some 11), .p (.fieldAddr 0 (.t 3)), none, none, []⟩,
 ⟨(some 12), .load false 1 (.t 11), none, none, []⟩,
 ⟨(some 13), .p (.fieldAddr 1 (.t 3)), none, none, []⟩,
 ⟨(some 14), .load false 1 (.t 13), none, none, []⟩,
 ⟨(some 15), .call 1 81 [(.t 10), (.t 12), (.t 14)], none, none, []⟩,
 ⟨(some 16), .call 2 73 [(.t 9), (.t 15)], none, none, []⟩,
 ⟨(some 8), .p (.move (.t 16)), none, none, []⟩,
 ⟨(some 17), .p (.extract (.t 8) 0), none, none, []⟩,
 ⟨(some 18), .p (.extract (.t 8) 1), none, none, []⟩,
 ⟨(some 6), .p (.move (.t 17)), none, none, []⟩,
 ⟨(some 7), .p (.move (.t 18)), none, none, []⟩])
 (.seq (.seq (.region 0 [⟨(some 19), .p (.move (.t 7)), none, none, []⟩,
 ⟨(some 20), .p (.bin .neq (.t 19) (.c (.int .i64 0))), none, none, []⟩])
 (.cond (.t 20) (.seq (.region 0 [⟨(some 21), .p (.move (.t 7)), none, none, []⟩,
 ⟨(some 4), .p (.move (.c (.int .i64 0))), none, none, []⟩,
 ⟨(some 5), .p (.move (.t 21)), none, none, []⟩])
 (.ret))
 (.skip)))
 (.seq (.region 0 [⟨(some 22), .p (.move (.t 6)), none, none, []⟩,
 ⟨(some 23), .load true 2 (.t 3), none, none, []⟩,
 ⟨(some 24), .call 3 87 [(.t 22), (.t 23)], none, none, []⟩,
 ⟨(some 4), .p (.move (.t 24)), none, none, []⟩,
 ⟨(some 5), .p (.move (.c (.int .i64 0))), none, none, []⟩])
 (.ret))))⟩
/-- almadraba/counts.Ask -/
def f49 : AFn := ⟨19, [.cell true 2 2, .tmp 3],
 .seq (.region 0 [⟨(some 1), .box (.t 0), none, none, []⟩,
 ⟨(some 2), .alloc [.int .i64 0, .int .i64 0], none, none, []⟩,
 ⟨(some 3), .p (.move (.c (.int .i64 0))), none, none, []⟩])
 (.seq (.region 0 [⟨(some 7), .load true 4 (.t 1), none, none, []⟩,
 ⟨(some 8), .call 2 73 [(.t 7), (.c (.bool true))], none, none, []⟩,
 ⟨(some 6), .p (.move (.t 8)), none, none, []⟩,
 ⟨(some 9), .p (.extract (.t 6) 0), none, none, []⟩,
 ⟨(some 10), .p (.extract (.t 6) 1), none, none, []⟩,
 ⟨(some 4), .p (.move (.t 9)), none, none, []⟩,
 ⟨(some 5), .p (.move (.t 10)), none, none, []⟩])
 (.seq (.seq (.region 0 [⟨(some 11), .p (.move (.t 5)), none, none, []⟩,
 ⟨(some 12), .p (.bin .neq (.t 11) (.c (.int .i64 0))), none, none, []⟩])
 (.cond (.t 12) (.seq (.region 0 [⟨(some 13), .p (.build [.int .i64 0, .int .i64 0] []), none, none, []⟩,
 ⟨(some 14), .p (.move (.t 5)), none, none, []⟩,
 ⟨none, .store 2 (.t 2) (.t 13), none, none, []⟩,
 ⟨(some 3), .p (.move (.t 14)), none, none, []⟩])
 (.ret))
 (.skip)))
 (.seq (.region 0 [⟨(some 15), .p (.move (.t 4)), none, none, []⟩,
 ⟨(some 16), .call 3 88 [(.t 15)], none, none, []⟩,
 ⟨(some 17), .p (.extract (.t 16) 0), none, none, []⟩,
 ⟨(some 18), .p (.extract (.t 16) 1), none, none, []⟩,
 ⟨none, .store 2 (.t 2) (.t 17), none, none, []⟩,
 ⟨(some 3), .p (.move (.t 18)), none, none, []⟩])
 (.ret))))⟩
/-- almadraba/almadrabaref01.Rising -/
def f52 : AFn := ⟨38, [.tmp 6],
 .seq (.region 0 [⟨(some 6), .p (.move (.c (.bool false))), none, none, []⟩])
 (.seq (.seq (.region 0 [⟨(some 7), .p (.move (.c (.int .i64 0))), none, none, []⟩])
 (.block 0 (.loop (.seq (.seq (.region 0 [⟨(some 8), .p (.move (.t 7)), none, none, []⟩,
 ⟨(some 9), .p (.move (.t 0)), none, none, []⟩,
 ⟨(some 10), .p (.lenS (.t 9)), none, none, []⟩,
 ⟨(some 11), .p (.bin .lss (.t 8) (.t 10)), none, none, []⟩])
 (.cond (.t 11) (.skip)
 (.exit 0)))
 (.seq (.block 1 (.seq (.region 0 [⟨(some 14), .p (.move (.t 0)), none, none, []⟩,
 ⟨(some 15), .p (.move (.t 7)), none, none, []⟩,
 ⟨(some 16), .p (.idxSl 1 (.t 14) (.t 15)), none, none, []⟩,
 ⟨(some 17), .load false 1 (.t 16), none, none, []⟩,
 ⟨(some 18), .p (.move (.t 1)), none, none, []⟩,
 ⟨(some 19), .p (.move (.t 2)), none, none, []⟩,
 ⟨(some 20), .call 1 30 [(.t 17), (.t 18), (.t 19)], none, none, []⟩,
 ⟨(some 21), .p (.un .not (.t 20)), none, none, []⟩,
 ⟨(some 22), .p (.move (.t 21)), none, none, []⟩,
 ⟨(some 23), .p (.move (.t 7)), (some (22, false)), none, []⟩,
 ⟨(some 24), .p (.bin .gtr (.t 23) (.c (.int .i64 0))), (some (22, false)), none, []⟩,
 ⟨(some 25), .p (.move (.t 24)), (some (22, false)), none, []⟩,
 ⟨(some 26), .p (.move (.t 0)), (some (25, true)), none, []⟩,
 ⟨(some 27), .p (.move (.t 7)), (some (25, true)), none, []⟩,
 ⟨(some 28), .p (.idxSl 1 (.t 26) (.t 27)), (some (25, true)), none, []⟩,
 ⟨(some 29), .load false 1 (.t 28), (some (25, true)), none, []⟩,
 ⟨(some 30), .p (.move (.t 0)), (some (25, true)), none, []⟩,
 ⟨(some 31), .p (.move (.t 7)), (some (25, true)), none, []⟩,
 ⟨(some 32), .p (.bin .sub (.t 31) (.c (.int .i64 1))), (some (25, true)), none, []⟩,
 ⟨(some 33), .p (.idxSl 1 (.t 30) (.t 32)), (some (25, true)), none, []⟩,
 ⟨(some 34), .load false 1 (.t 33), (some (25, true)), none, []⟩,
 ⟨(some 35), .p (.bin .leq (.t 29) (.t 34)), (some (25, true)), none, []⟩,
 ⟨(some 36), .p (.pick (.t 25) (.t 35) (.c (.bool false))), (some (22, false)), none, []⟩,
 ⟨(some 37), .p (.pick (.t 22) (.c (.bool true)) (.t 36)), none, none, []⟩])
 (.cond (.t 37) (.seq (.region 0 [⟨(some 6), .p (.move (.c (.bool false))), none, none, []⟩])
 (.ret))
 (.skip))))
 (.region 0 [⟨(some 12), .p (.move (.t 7)), none, none, []⟩,
 ⟨(some 13), .p (.bin .add (.t 12) (.c (.int .i64 1))), none, none, []⟩,
 ⟨(some 7), .p (.move (.t 13)), none, none, []⟩]))))))
 (.seq (.region 0 [⟨(some 6), .p (.move (.c (.bool true))), none, none, []⟩])
 (.ret)))⟩
/-- almadraba/almadrabalaw01.Huge -/
def f53 : AFn := ⟨12, [.tmp 2],
 .seq (.region 0 [⟨(some 1), .box (.t 0), none, none, []⟩,
 ⟨(some 2), .p (.move (.c (.bool false))), none, none, []⟩])
 (.seq (.region 0 [⟨(some 3), .p (.fieldAddr 2 (.t 1)), none, none, []⟩,
 ⟨(some 4), .load false 1 (.t 3), none, none, []⟩,
 ⟨(some 5), .call 1 17 [(.t 4)], none, none, []⟩,
 ⟨(some 6), .p (.move (.t 5)), none, none, []⟩,
 ⟨(some 7), .p (.fieldAddr 3 (.t 1)), (some (6, false)), none, []⟩,
 ⟨(some 8), .load false 1 (.t 7), (some (6, false)), none, []⟩,
 ⟨(some 9), .p (.lenS (.t 8)), (some (6, false)), none, []⟩,
 ⟨(some 10), .p (.bin .gtr (.t 9) (.c (.int .i64 40))), (some (6, false)), none, []⟩,
 ⟨(some 11), .p (.pick (.t 6) (.c (.bool true)) (.t 10)), none, none, []⟩,
 ⟨(some 2), .p (.move (.t 11)), none, none, []⟩])
 (.ret))⟩
/-- almadraba/counts.Check -/
def f54 : AFn := ⟨6, [.tmp 2],
 .seq (.region 0 [⟨(some 1), .box (.t 0), none, none, []⟩,
 ⟨(some 2), .p (.move (.c (.int .i64 0))), none, none, []⟩])
 (.seq (.seq (.region 0 [⟨(some 3), .load true 4 (.t 1), none, none, []⟩,
 ⟨(some 4), .call 1 91 [(.t 3)], none, none, []⟩,
 ⟨(some 5), .p (.un .not (.t 4)), none, none, []⟩])
 (.cond (.t 5) (.seq (.region 0 [⟨(some 2), .p (.move (.c (.int .i64 10))), none, none, []⟩])
 (.ret))
 (.skip)))
 (.seq (.region 0 [⟨(some 2), .p (.move (.c (.int .i64 0))), none, none, []⟩])
 (.ret)))⟩
/-- almadraba/almadrabaref01.Check -/
def f55 : AFn := ⟨62, [.tmp 2],
 .seq (.region 0 [⟨(some 1), .box (.t 0), none, none, []⟩,
 ⟨(some 2), .p (.move (.c (.int .i64 0))), none, none, []⟩])
 (.seq (.seq (.region 0 [⟨(some 5), .p (.fieldAddr 0 (.t 1)), none, none, []⟩,
 ⟨(some 6), .load false 1 (.t 5), none, none, []⟩,
 ⟨(some 7), .call 1 30 [(.t 6), (.c (.int .i64 1)), (.c (.int .i64 4))], none, none, []⟩,
 ⟨(some 8), .p (.un .not (.t 7)), none, none, []⟩,
 ⟨(some 9), .p (.move (.t 8)), none, none, []⟩,
 ⟨(some 10), .p (.fieldAddr 1 (.t 1)), (some (9, false)), none, []⟩,
 ⟨(some 11), .load false 1 (.t 10), (some (9, false)), none, []⟩,
 ⟨(some 12), .call 1 30 [(.t 11), (.c (.int .i64 1)), (.c (.int .i64 5))], (some (9, false)), none, []⟩,
 ⟨(some 13), .p (.un .not (.t 12)), (some (9, false)), none, []⟩,
 ⟨(some 14), .p (.pick (.t 9) (.c (.bool true)) (.t 13)), none, none, []⟩,
 ⟨(some 15), .p (.move (.t 14)), none, none, []⟩,
 ⟨(some 16), .p (.fieldAddr 2 (.t 1)), (some (15, false)), none, []⟩,
 ⟨(some 17), .load false 1 (.t 16), (some (15, false)), none, []⟩,
 ⟨(some 18), .p (.lenS (.t 17)), (some (15, false)), none, []⟩,
 ⟨(some 19), .p (.fieldAddr 1 (.t 1)), (some (15, false)), none, []⟩,
 ⟨(some 20), .load false 1 (.t 19), (some (15, false)), none, []⟩,
 ⟨(some 21), .p (.bin .sub (.t 20) (.c (.int .i64 1))), (some (15, false)), none, []⟩,
 ⟨(some 22), .p (.bin .neq (.t 18) (.t 21)), (some (15, false)), none, []⟩,
 ⟨(some 23), .p (.pick (.t 15) (.c (.bool true)) (.t 22)), none, none, []⟩,
 ⟨(some 24), .p (.move (.t 23)), none, none, []⟩,
 ⟨(some 25), .p (.fieldAddr 3 (.t 1)), (some (24, false)), none, []⟩,
 ⟨(some 26), .load false 1 (.t 25), (some (24, false)), none, []⟩,
 ⟨(some 27), .p (.lenS (.t 26)), (some (24, false)), none, []⟩,
 ⟨(some 28), .p (.bin .gtr (.t 27) (.c (.int .i64 8))), (some (24, false)), none, []⟩,
 ⟨(some 29), .p (.pick (.t 24) (.c (.bool true)) (.t 28)), none, none, []⟩])
 (.cond (.t 29) (.seq (.region 0 [⟨(some 2), .p (.move (.c (.int .i64 10))), none, none, []⟩])
 (.ret))
 (.skip)))
 (.seq (.seq (.region 0 [⟨(some 3), .p (.move (.c (.int .i64 0))), none, none, []⟩])
 (.block 0 (.loop (.seq (.seq (.region 0 [⟨(some 30), .p (.move (.t 3)), none, none, []⟩,
 ⟨(some 31), .p (.fieldAddr 2 (.t 1)), none, none, []⟩,
 ⟨(some 32), .load false 1 (.t 31), none, none, []⟩,
 ⟨(some 33), .p (.lenS (.t 32)), none, none, []⟩,
 ⟨(some 34), .p (.bin .lss (.t 30) (.t 33)), none, none, []⟩])
 (.cond (.t 34) (.skip)
 (.exit 0)))
 (.seq (.block 1 (.seq (.region 0 [⟨(some 37), .p (.fieldAddr 2 (.t 1)), none, none, []⟩,
 ⟨(some 38), .load false 1 (.t 37), none, none, []⟩,
 ⟨(some 39), .p (.move (.t 3)), none, none, []⟩,
 ⟨(some 40), .p (.idxSl 1 (.t 38) (.t 39)), none, none, []⟩,
 ⟨(some 41), .load false 1 (.t 40), none, none, []⟩,
 ⟨(some 42), .p (.fieldAddr 0 (.t 1)), none, none, []⟩,
 ⟨(some 43), .load false 1 (.t 42), none, none, []⟩,
 ⟨(some 44), .p (.bin .sub (.t 43) (.c (.int .i64 1))), none, none, []⟩,
 ⟨(some 45), .call 1 52 [(.t 41), (.c (.int .i64 0)), (.t 44)], none, none, []⟩,
 ⟨(some 46), .p (.un .not (.t 45)), none, none, []⟩])
 (.cond (.t 46) (.seq (.region 0 [⟨(some 2), .p (.move (.c (.int .i64 10))), none, none, []⟩])
 (.ret))
 (.skip))))
 (.region 0 [⟨(some 35), .p (.move (.t 3)), none, none, []⟩,
 ⟨(some 36), .p (.bin .add (.t 35) (.c (.int .i64 1))), none, none, []⟩,
 ⟨(some 3), .p (.move (.t 36)), none, none, []⟩]))))))
 (.seq (.seq (.region 0 [⟨(some 4), .p (.move (.c (.int .i64 0))), none, none, []⟩])
 (.block 2 (.loop (.seq (.seq (.region 0 [⟨(some 47), .p (.move (.t 4)), none, none, []⟩,
 ⟨(some 48), .p (.fieldAddr 3 (.t 1)), none, none, []⟩,
 ⟨(some 49), .load false 1 (.t 48), none, none, []⟩,
 ⟨(some 50), .p (.lenS (.t 49)), none, none, []⟩,
 ⟨(some 51), .p (.bin .lss (.t 47) (.t 50)), none, none, []⟩])
 (.cond (.t 51) (.skip)
 (.exit 2)))
 (.seq (.block 3 (.seq (.region 0 [⟨(some 54), .load true 4 (.t 1), none, none, []⟩,
 ⟨(some 55), .p (.fieldAddr 3 (.t 1)), none, none, []⟩,
 ⟨(some 56), .load false 1 (.t 55), none, none, []⟩,
 ⟨(some 57), .p (.move (.t 4)), none, none, []⟩,
 ⟨(some 58), .p (.idxSl 4 (.t 56) (.t 57)), none, none, []⟩,
 ⟨(some 59), .load true 4 (.t 58), none, none, []⟩,
 ⟨(some 60), .call 1 28 [(.t 54), (.t 59)], none, none, []⟩,
 ⟨(some 61), .p (.un .not (.t 60)), none, none, []⟩])
 (.cond (.t 61) (.seq (.region 0 [⟨(some 2), .p (.move (.c (.int .i64 10))), none, none, []⟩])
 (.ret))
 (.skip))))
 (.region 0 [⟨(some 52), .p (.move (.t 4)), none, none, []⟩,
 ⟨(some 53), .p (.bin .add (.t 52) (.c (.int .i64 1))), none, none, []⟩,
 ⟨(some 4), .p (.move (.t 53)), none, none, []⟩]))))))
 (.seq (.region 0 [⟨(some 2), .p (.move (.c (.int .i64 0))), none, none, []⟩])
 (.ret)))))⟩
/-- almadraba/almadrabalaw01.Example -/
def f70 : AFn := ⟨15, [.cell true 4 0, .cell true 4 1],
 .seq (.region 0 [⟨(some 0), .alloc [.int .i64 0, .int .i64 0, .nils, .nils], none, none, []⟩,
 ⟨(some 1), .alloc [.int .i64 0, .int .i64 0, .nils, .nils], none, none, []⟩])
 (.seq (.region 0 [⟨(some 2), .litS 1 2 [.int .i64 0] [(0, (.c (.int .i64 0))), (1, (.c (.int .i64 1)))], none, none, []⟩,
 ⟨(some 3), .litS 1 1 [.int .i64 0] [(0, (.c (.int .i64 1)))], none, none, []⟩,
 ⟨(some 4), .litS 1 2 [.nils] [(0, (.t 2)), (1, (.t 3))], none, none, []⟩,
 ⟨(some 5), .call 1 71 [(.c (.int .i64 0)), (.c (.int .i64 0)), (.c (.int .i64 5)), (.c (.int .i64 6))], none, none, []⟩,
 ⟨(some 6), .call 1 71 [(.c (.int .i64 0)), (.c (.int .i64 1)), (.c (.int .i64 0)), (.c (.int .i64 0))], none, none, []⟩,
 ⟨(some 7), .call 1 71 [(.c (.int .i64 1)), (.c (.int .i64 0)), (.c (.int .i64 3)), (.c (.int .i64 8))], none, none, []⟩,
 ⟨(some 8), .call 1 71 [(.c (.int .i64 2)), (.c (.int .i64 1)), (.c (.int .i64 4)), (.c (.int .i64 10))], none, none, []⟩,
 ⟨(some 9), .litS 4 4 [.int .i64 0, .int .i64 0, .int .i64 0, .int .i64 0] [(0, (.t 5)), (1, (.t 6)), (2, (.t 7)), (3, (.t 8))], none, none, []⟩,
 ⟨(some 10), .p (.build [.int .i64 0, .int .i64 0, .nils, .nils] [(0, 1, (.c (.int .i64 2))), (1, 1, (.c (.int .i64 3))), (2, 1, (.t 4)), (3, 1, (.t 9))]), none, none, []⟩,
 ⟨none, .store 4 (.t 0) (.t 10), none, none, []⟩])
 (.seq (.region 0 [⟨(some 11), .load true 4 (.t 0), none, none, []⟩,
 ⟨(some 12), .load true 4 (.t 0), none, none, []⟩,
 ⟨(some 13), .call 1 71 [(.c (.int .i64 1)), (.c (.int .i64 1)), (.c (.int .i64 12)), (.c (.int .i64 20))], none, none, []⟩,
 ⟨(some 14), .call 1 35 [(.t 12), (.t 13)], none, none, []⟩,
 ⟨none, .store 4 (.t 0) (.t 11), none, none, []⟩,
 ⟨none, .store 4 (.t 1) (.t 14), none, none, []⟩])
 (.ret)))⟩
/-- almadraba/almadrabalaw01.word -/
def f71 : AFn := ⟨14, [.cell true 4 8],
 .seq (.region 0 [⟨(some 8), .alloc [.int .i64 0, .int .i64 0, .int .i64 0, .int .i64 0], none, none, []⟩])
 (.seq (.region 0 [⟨(some 9), .p (.move (.t 0)), none, none, []⟩,
 ⟨(some 10), .p (.move (.t 1)), none, none, []⟩,
 ⟨(some 11), .p (.move (.t 2)), none, none, []⟩,
 ⟨(some 12), .p (.move (.t 3)), none, none, []⟩,
 ⟨(some 13), .p (.build [.int .i64 0, .int .i64 0, .int .i64 0, .int .i64 0] [(0, 1, (.t 9)), (1, 1, (.t 10)), (2, 1, (.t 11)), (3, 1, (.t 12))]), none, none, []⟩,
 ⟨none, .store 4 (.t 8) (.t 13), none, none, []⟩])
 (.ret))⟩
/-- almadraba/counts.start -/
def f73 : AFn := ⟨24, [.tmp 4, .tmp 5],
 .seq (.region 0 [⟨(some 2), .box (.t 0), none, none, []⟩,
 ⟨(some 4), .p (.move (.c (.nilp))), none, none, []⟩,
 ⟨(some 5), .p (.move (.c (.int .i64 0))), none, none, []⟩])
 (.seq (.seq (.region 0 [⟨(some 9), .load true 4 (.t 2), none, none, []⟩,
 ⟨(some 10), .call 1 54 [(.t 9)], none, none, []⟩,
 ⟨(some 6), .p (.move (.t 10)), none, none, []⟩])
 (.seq (.region 0 [⟨(some 11), .p (.move (.t 6)), none, none, []⟩,
 ⟨(some 12), .p (.bin .neq (.t 11) (.c (.int .i64 0))), none, none, []⟩])
 (.cond (.t 12) (.seq (.region 0 [⟨(some 13), .p (.move (.t 6)), none, none, []⟩,
 ⟨(some 4), .p (.move (.c (.nilp))), none, none, []⟩,
 ⟨(some 5), .p (.move (.t 13)), none, none, []⟩])
 (.ret))
 (.skip))))
 (.seq (.seq (.region 0 [⟨(some 14), .p (.move (.t 1)), none, none, []⟩,
 ⟨(some 15), .p (.un .not (.t 14)), none, none, []⟩])
 (.cond (.t 15) (.seq (.region 0 [⟨(some 4), .p (.move (.c (.nilp))), none, none, []⟩,
 ⟨(some 5), .p (.move (.c (.int .i64 1))), none, none, []⟩])
 (.ret))
 (.skip)))
 (.seq (.region 0 [⟨(some 17), .load true 4 (.t 2), none, none, []⟩,
 ⟨(some 18), .call 2 90 [(.t 17)], none, none, []⟩,
 ⟨(some 16), .p (.move (.t 18)), none, none, []⟩,
 ⟨(some 19), .p (.extract (.t 16) 0), none, none, []⟩,
 ⟨(some 20), .p (.extract (.t 16) 1), none, none, []⟩,
 ⟨(some 7), .p (.move (.t 19)), none, none, []⟩,
 ⟨(some 8), .p (.move (.t 20)), none, none, []⟩])
 (.seq (.seq (.region 0 [⟨(some 21), .p (.move (.t 8)), none, none, []⟩,
 ⟨(some 22), .p (.un .not (.t 21)), none, none, []⟩])
 (.cond (.t 22) (.seq (.region 0 [⟨(some 4), .p (.move (.c (.nilp))), none, none, []⟩,
 ⟨(some 5), .p (.move (.c (.int .i64 3))), none, none, []⟩])
 (.ret))
 (.skip)))
 (.seq (.region 0 [⟨(some 23), .p (.move (.t 7)), none, none, []⟩,
 ⟨(some 4), .p (.move (.t 23)), none, none, []⟩,
 ⟨(some 5), .p (.move (.c (.int .i64 0))), none, none, []⟩])
 (.ret))))))⟩
/-- almadraba/counts.isTime -/
def f74 : AFn := ⟨13, [.tmp 4],
 .seq (.region 0 [⟨(some 2), .box (.t 0), none, none, []⟩,
 ⟨(some 4), .p (.move (.c (.bool false))), none, none, []⟩])
 (.seq (.region 0 [⟨(some 5), .p (.move (.t 1)), none, none, []⟩,
 ⟨(some 6), .p (.bin .leq (.c (.int .i64 0)) (.t 5)), none, none, []⟩,
 ⟨(some 7), .p (.move (.t 6)), none, none, []⟩,
 ⟨(some 8), .p (.move (.t 1)), (some (7, true)), none, []⟩,
 ⟨(some 9), .p (.fieldAddr 1 (.t 2)), (some (7, true)), none, []⟩,
 ⟨(some 10), .load false 1 (.t 9), (some (7, true)), none, []⟩,
 ⟨(some 11), .p (.bin .lss (.t 8) (.t 10)), (some (7, true)), none, []⟩,
 ⟨(some 12), .p (.pick (.t 7) (.t 11) (.c (.bool false))), none, none, []⟩,
 ⟨(some 4), .p (.move (.t 12)), none, none, []⟩])
 (.ret))⟩
/-- (*almadraba/counts.bounds).between -/
def f75 : AFn := ⟨23, [.cell true 2 6],
 .seq (.region 0 [⟨(some 6), .alloc [.int .i64 0, .int .i64 0], none, none, []⟩])
 (.seq (.region 0 [⟨(some 7), .p (.move (.t 0)), none, none, []⟩,
 ⟨(some 8), .p (.move (.t 2)), none, none, []⟩,
 ⟨(some 9), .p (.move (.t 1)), none, none, []⟩,
 ⟨(some 10), .p (.nilCheck (.t 7)), none, none, []⟩,
 ⟨(some 11), .p (.idxArr 21 21 (.t 10) (.t 8)), none, none, []⟩,
 ⟨(some 12), .p (.idxArr 21 1 (.t 11) (.t 9)), none, none, []⟩,
 ⟨(some 13), .load false 1 (.t 12), none, none, []⟩,
 ⟨(some 14), .p (.un .neg (.t 13)), none, none, []⟩,
 ⟨(some 15), .p (.move (.t 0)), none, none, []⟩,
 ⟨(some 16), .p (.move (.t 1)), none, none, []⟩,
 ⟨(some 17), .p (.move (.t 2)), none, none, []⟩,
 ⟨(some 18), .p (.nilCheck (.t 15)), none, none, []⟩,
 ⟨(some 19), .p (.idxArr 21 21 (.t 18) (.t 16)), none, none, []⟩,
 ⟨(some 20), .p (.idxArr 21 1 (.t 19) (.t 17)), none, none, []⟩,
 ⟨(some 21), .load false 1 (.t 20), none, none, []⟩,
 ⟨(some 22), .p (.build [.int .i64 0, .int .i64 0] [(0, 1, (.t 14)), (1, 1, (.t 21))]), none, none, []⟩,
 ⟨none, .store 2 (.t 6) (.t 22), none, none, []⟩])
 (.ret))⟩
/-- (*almadraba/counts.trap).sum -/
def f76 : AFn := ⟨19, [.tmp 6],
 .seq (.region 0 [⟨(some 6), .p (.move (.c (.int .i64 0))), none, none, []⟩])
 (.seq (.seq (.region 0 [⟨(some 7), .p (.move (.t 2)), none, none, []⟩,
 ⟨(some 8), .p (.move (.t 0)), none, none, []⟩,
 ⟨(some 9), .p (.nilCheck (.t 8)), none, none, []⟩,
 ⟨(some 10), .p (.fieldAddr 0 (.t 9)), none, none, []⟩,
 ⟨(some 11), .p (.fieldAddr 0 (.t 10)), none, none, []⟩,
 ⟨(some 12), .load false 1 (.t 11), none, none, []⟩,
 ⟨(some 13), .p (.bin .eql (.t 7) (.t 12)), none, none, []⟩])
 (.cond (.t 13) (.seq (.region 0 [⟨(some 6), .p (.move (.c (.int .i64 0))), none, none, []⟩])
 (.ret))
 (.skip)))
 (.seq (.region 0 [⟨(some 14), .p (.move (.t 1)), none, none, []⟩,
 ⟨(some 15), .p (.bin .mul (.t 14) (.c (.int .i64 4))), none, none, []⟩,
 ⟨(some 16), .p (.bin .add (.c (.int .i64 1)) (.t 15)), none, none, []⟩,
 ⟨(some 17), .p (.move (.t 2)), none, none, []⟩,
 ⟨(some 18), .p (.bin .add (.t 16) (.t 17)), none, none, []⟩,
 ⟨(some 6), .p (.move (.t 18)), none, none, []⟩])
 (.ret)))⟩
/-- (*almadraba/counts.trap).passed -/
def f77 : AFn := ⟨21, [.cell true 2 8],
 .seq (.region 0 [⟨(some 8), .alloc [.int .i64 0, .int .i64 0], none, none, []⟩])
 (.seq (.region 0 [⟨(some 9), .p (.move (.t 0)), none, none, []⟩,
 ⟨(some 10), .p (.nilCheck (.t 9)), none, none, []⟩,
 ⟨(some 11), .p (.fieldAddr 4 (.t 10)), none, none, []⟩,
 ⟨(some 12), .p (.move (.t 0)), none, none, []⟩,
 ⟨(some 13), .p (.move (.t 3)), none, none, []⟩,
 ⟨(some 14), .p (.move (.t 1)), none, none, []⟩,
 ⟨(some 15), .call 3 76 [(.t 12), (.t 13), (.t 14)], none, none, []⟩,
 ⟨(some 16), .p (.move (.t 0)), none, none, []⟩,
 ⟨(some 17), .p (.move (.t 2)), none, none, []⟩,
 ⟨(some 18), .p (.move (.t 1)), none, none, []⟩,
 ⟨(some 19), .call 3 76 [(.t 16), (.t 17), (.t 18)], none, none, []⟩,
 ⟨(some 20), .call 3 75 [(.t 11), (.t 15), (.t 19)], none, none, []⟩,
 ⟨none, .store 2 (.t 8) (.t 20), none, none, []⟩])
 (.ret))⟩
/-- almadraba/counts.fits -/
def f79 : AFn := ⟨28, [.tmp 4],
 .seq (.region 0 [⟨(some 2), .box (.t 0), none, none, []⟩,
 ⟨(some 3), .box (.t 1), none, none, []⟩,
 ⟨(some 4), .p (.move (.c (.bool false))), none, none, []⟩])
 (.seq (.region 0 [⟨(some 5), .load true 4 (.t 2), none, none, []⟩,
 ⟨(some 6), .p (.fieldAddr 0 (.t 3)), none, none, []⟩,
 ⟨(some 7), .load false 1 (.t 6), none, none, []⟩,
 ⟨(some 8), .p (.fieldAddr 1 (.t 3)), none, none, []⟩,
 ⟨(some 9), .load false 1 (.t 8), none, none, []⟩,
 ⟨(some 10), .call 1 81 [(.t 5), (.t 7), (.t 9)], none, none, []⟩,
 ⟨(some 11), .p (.move (.t 10)), none, none, []⟩,
 ⟨(some 12), .p (.fieldAddr 2 (.t 3)), (some (11, true)), none, []⟩,
 ⟨(some 13), .load false 1 (.t 12), (some (11, true)), none, []⟩,
 ⟨(some 14), .p (.bin .leq (.c (.int .i64 0)) (.t 13)), (some (11, true)), none, []⟩,
 ⟨(some 15), .p (.pick (.t 11) (.t 14) (.c (.bool false))), none, none, []⟩,
 ⟨(some 16), .p (.move (.t 15)), none, none, []⟩,
 ⟨(some 17), .p (.fieldAddr 2 (.t 3)), (some (16, true)), none, []⟩,
 ⟨(some 18), .load false 1 (.t 17), (some (16, true)), none, []⟩,
 ⟨(some 19), .p (.fieldAddr 3 (.t 3)), (some (16, true)), none, []⟩,
 ⟨(some 20), .load false 1 (.t 19), (some (16, true)), none, []⟩,
 ⟨(some 21), .p (.bin .leq (.t 18) (.t 20)), (some (16, true)), none, []⟩,
 ⟨(some 22), .p (.pick (.t 16) (.t 21) (.c (.bool false))), none, none, []⟩,
 ⟨(some 23), .p (.move (.t 22)), none, none, []⟩,
 ⟨(some 24), .p (.fieldAddr 3 (.t 3)), (some (23, true)), none, []⟩,
 ⟨(some 25), .load false 1 (.t 24), (some (23, true)), none, []⟩,
 ⟨(some 26), .p (.bin .leq (.t 25) (.c (.int .i64 40))), (some (23, true)), none, []⟩,
 ⟨(some 27), .p (.pick (.t 23) (.t 26) (.c (.bool false))), none, none, []⟩,
 ⟨(some 4), .p (.move (.t 27)), none, none, []⟩])
 (.ret))⟩
/-- (*almadraba/counts.trap).judge -/
def f80 : AFn := ⟨39, [.tmp 4],
 .seq (.region 0 [⟨(some 3), .box (.t 1), none, none, []⟩,
 ⟨(some 4), .p (.move (.c (.int .i64 0))), none, none, []⟩])
 (.seq (.region 0 [⟨(some 6), .p (.move (.t 0)), none, none, []⟩,
 ⟨(some 7), .p (.fieldAddr 0 (.t 3)), none, none, []⟩,
 ⟨(some 8), .load false 1 (.t 7), none, none, []⟩,
 ⟨(some 9), .p (.fieldAddr 1 (.t 3)), none, none, []⟩,
 ⟨(some 10), .load false 1 (.t 9), none, none, []⟩,
 ⟨(some 11), .p (.build [.int .i64 0, .int .i64 0] [(0, 1, (.t 8)), (1, 1, (.t 10))]), none, none, []⟩,
 ⟨(some 12), .call 3 82 [(.t 6), (.t 11)], none, none, []⟩,
 ⟨(some 5), .alloc [.int .i64 0, .int .i64 0], none, none, []⟩,
 ⟨none, .store 2 (.t 5) (.t 12), none, none, []⟩])
 (.seq (.block 0 (.seq (.region 0 [⟨(some 14), .p (.fieldAddr 2 (.t 3)), none, none, []⟩,
 ⟨(some 15), .load false 1 (.t 14), none, none, []⟩,
 ⟨(some 16), .p (.fieldAddr 0 (.t 5)), none, none, []⟩,
 ⟨(some 17), .load false 1 (.t 16), none, none, []⟩,
 ⟨(some 18), .p (.bin .leq (.t 15) (.t 17)), none, none, []⟩,
 ⟨(some 19), .p (.move (.t 18)), none, none, []⟩,
 ⟨(some 20), .p (.fieldAddr 1 (.t 5)), (some (19, true)), none, []⟩,
 ⟨(some 21), .load false 1 (.t 20), (some (19, true)), none, []⟩,
 ⟨(some 22), .p (.fieldAddr 3 (.t 3)), (some (19, true)), none, []⟩,
 ⟨(some 23), .load false 1 (.t 22), (some (19, true)), none, []⟩,
 ⟨(some 24), .p (.bin .leq (.t 21) (.t 23)), (some (19, true)), none, []⟩,
 ⟨(some 25), .p (.pick (.t 19) (.t 24) (.c (.bool false))), none, none, []⟩,
 ⟨(some 13), .p (.move (.t 25)), none, none, []⟩])
 (.cond (.t 13) (.seq (.region 0 [⟨(some 4), .p (.move (.c (.int .i64 1))), none, none, []⟩])
 (.ret))
 (.seq (.region 0 [⟨(some 27), .p (.fieldAddr 3 (.t 3)), none, none, []⟩,
 ⟨(some 28), .load false 1 (.t 27), none, none, []⟩,
 ⟨(some 29), .p (.fieldAddr 0 (.t 5)), none, none, []⟩,
 ⟨(some 30), .load false 1 (.t 29), none, none, []⟩,
 ⟨(some 31), .p (.bin .lss (.t 28) (.t 30)), none, none, []⟩,
 ⟨(some 32), .p (.move (.t 31)), none, none, []⟩,
 ⟨(some 33), .p (.fieldAddr 1 (.t 5)), (some (32, false)), none, []⟩,
 ⟨(some 34), .load false 1 (.t 33), (some (32, false)), none, []⟩,
 ⟨(some 35), .p (.fieldAddr 2 (.t 3)), (some (32, false)), none, []⟩,
 ⟨(some 36), .load false 1 (.t 35), (some (32, false)), none, []⟩,
 ⟨(some 37), .p (.bin .lss (.t 34) (.t 36)), (some (32, false)), none, []⟩,
 ⟨(some 38), .p (.pick (.t 32) (.c (.bool true)) (.t 37)), none, none, []⟩,
 ⟨(some 26), .p (.move (.t 38)), none, none, []⟩])
 (.cond (.t 26) (.seq (.region 0 [⟨(some 4), .p (.move (.c (.int .i64 2))), none, none, []⟩])
 (.ret))
 (.skip))))))
 (.seq (.region 0 [⟨(some 4), .p (.move (.c (.int .i64 3))), none, none, []⟩])
 (.ret))))⟩
/-- almadraba/counts.isPlace -/
def f81 : AFn := ⟨20, [.tmp 6],
 .seq (.region 0 [⟨(some 3), .box (.t 0), none, none, []⟩,
 ⟨(some 6), .p (.move (.c (.bool false))), none, none, []⟩])
 (.seq (.region 0 [⟨(some 7), .load true 4 (.t 3), none, none, []⟩,
 ⟨(some 8), .p (.move (.t 1)), none, none, []⟩,
 ⟨(some 9), .call 1 74 [(.t 7), (.t 8)], none, none, []⟩,
 ⟨(some 10), .p (.move (.t 9)), none, none, []⟩,
 ⟨(some 11), .p (.move (.t 2)), (some (10, true)), none, []⟩,
 ⟨(some 12), .p (.bin .leq (.c (.int .i64 0)) (.t 11)), (some (10, true)), none, []⟩,
 ⟨(some 13), .p (.pick (.t 10) (.t 12) (.c (.bool false))), none, none, []⟩,
 ⟨(some 14), .p (.move (.t 13)), none, none, []⟩,
 ⟨(some 15), .p (.move (.t 2)), (some (14, true)), none, []⟩,
 ⟨(some 16), .p (.fieldAddr 0 (.t 3)), (some (14, true)), none, []⟩,
 ⟨(some 17), .load false 1 (.t 16), (some (14, true)), none, []⟩,
 ⟨(some 18), .p (.bin .lss (.t 15) (.t 17)), (some (14, true)), none, []⟩,
 ⟨(some 19), .p (.pick (.t 14) (.t 18) (.c (.bool false))), none, none, []⟩,
 ⟨(some 6), .p (.move (.t 19)), none, none, []⟩])
 (.ret))⟩
/-- (*almadraba/counts.trap).fish -/
def f82 : AFn := ⟨22, [.cell true 2 4],
 .seq (.region 0 [⟨(some 3), .box (.t 1), none, none, []⟩,
 ⟨(some 4), .alloc [.int .i64 0, .int .i64 0], none, none, []⟩])
 (.seq (.region 0 [⟨(some 5), .p (.move (.t 0)), none, none, []⟩,
 ⟨(some 6), .p (.nilCheck (.t 5)), none, none, []⟩,
 ⟨(some 7), .p (.fieldAddr 4 (.t 6)), none, none, []⟩,
 ⟨(some 8), .p (.move (.t 0)), none, none, []⟩,
 ⟨(some 9), .p (.fieldAddr 0 (.t 3)), none, none, []⟩,
 ⟨(some 10), .load false 1 (.t 9), none, none, []⟩,
 ⟨(some 11), .p (.fieldAddr 1 (.t 3)), none, none, []⟩,
 ⟨(some 12), .load false 1 (.t 11), none, none, []⟩,
 ⟨(some 13), .call 3 76 [(.t 8), (.t 10), (.t 12)], none, none, []⟩,
 ⟨(some 14), .p (.move (.t 0)), none, none, []⟩,
 ⟨(some 15), .p (.fieldAddr 0 (.t 3)), none, none, []⟩,
 ⟨(some 16), .load false 1 (.t 15), none, none, []⟩,
 ⟨(some 17), .p (.fieldAddr 1 (.t 3)), none, none, []⟩,
 ⟨(some 18), .load false 1 (.t 17), none, none, []⟩,
 ⟨(some 19), .p (.bin .add (.t 18) (.c (.int .i64 1))), none, none, []⟩,
 ⟨(some 20), .call 3 76 [(.t 14), (.t 16), (.t 19)], none, none, []⟩,
 ⟨(some 21), .call 3 75 [(.t 7), (.t 13), (.t 20)], none, none, []⟩,
 ⟨none, .store 2 (.t 4) (.t 21), none, none, []⟩])
 (.ret))⟩
/-- (*almadraba/counts.trap).truth -/
def f83 : AFn := ⟨53, [.tmp 2],
 .seq (.region 0 [⟨(some 2), .p (.move (.c (.nils))), none, none, []⟩])
 (.seq (.region 0 [⟨(some 6), .p (.move (.t 0)), none, none, []⟩,
 ⟨(some 7), .p (.nilCheck (.t 6)), none, none, []⟩,
 ⟨(some 8), .p (.fieldAddr 0 (.t 7)), none, none, []⟩,
 ⟨(some 9), .p (.fieldAddr 1 (.t 8)), none, none, []⟩,
 ⟨(some 10), .load false 1 (.t 9), none, none, []⟩,
 ⟨(some 11), .makeSlice 1 24 [.nils] (.t 10) (.t 10), none, none, []⟩,
 ⟨(some 3), .p (.move (.t 11)), none, none, []⟩])
 (.seq (.seq (.region 0 [⟨(some 12), .p (.move (.t 3)), none, none, []⟩,
 ⟨(some 13), .p (.lenS (.t 12)), none, none, []⟩,
 ⟨(some 14), .p (.move (.c (.int .i64 0))), none, none, []⟩])
 (.block 0 (.loop (.seq (.region 0 [⟨(some 15), .p (.bin .lss (.t 14) (.t 13)), none, none, []⟩])
 (.seq (.cond (.t 15) (.skip)
 (.exit 0))
 (.seq (.block 1 (.seq (.region 0 [⟨(some 16), .p (.move (.t 14)), none, none, []⟩,
 ⟨(some 4), .p (.move (.t 16)), none, none, []⟩])
 (.seq (.region 0 [⟨(some 17), .p (.move (.t 3)), none, none, []⟩,
 ⟨(some 18), .p (.move (.t 4)), none, none, []⟩,
 ⟨(some 19), .p (.move (.t 0)), none, none, []⟩,
 ⟨(some 20), .p (.nilCheck (.t 19)), none, none, []⟩,
 ⟨(some 21), .p (.fieldAddr 0 (.t 20)), none, none, []⟩,
 ⟨(some 22), .p (.fieldAddr 0 (.t 21)), none, none, []⟩,
 ⟨(some 23), .load false 1 (.t 22), none, none, []⟩,
 ⟨(some 24), .makeSlice 1 8 [.int .i64 0] (.t 23) (.t 23), none, none, []⟩,
 ⟨(some 25), .p (.idxSl 1 (.t 17) (.t 18)), none, none, []⟩,
 ⟨none, .store 1 (.t 25) (.t 24), none, none, []⟩])
 (.seq (.region 0 [⟨(some 26), .p (.move (.t 3)), none, none, []⟩,
 ⟨(some 27), .p (.move (.t 4)), none, none, []⟩,
 ⟨(some 28), .p (.idxSl 1 (.t 26) (.t 27)), none, none, []⟩,
 ⟨(some 29), .load false 1 (.t 28), none, none, []⟩,
 ⟨(some 30), .p (.lenS (.t 29)), none, none, []⟩,
 ⟨(some 31), .p (.move (.c (.int .i64 0))), none, none, []⟩])
 (.block 2 (.loop (.seq (.region 0 [⟨(some 32), .p (.bin .lss (.t 31) (.t 30)), none, none, []⟩])
 (.seq (.cond (.t 32) (.skip)
 (.exit 2))
 (.seq (.block 3 (.seq (.region 0 [⟨(some 33), .p (.move (.t 31)), none, none, []⟩,
 ⟨(some 5), .p (.move (.t 33)), none, none, []⟩])
 (.region 0 [⟨(some 34), .p (.move (.t 3)), none, none, []⟩,
 ⟨(some 35), .p (.move (.t 4)), none, none, []⟩,
 ⟨(some 36), .p (.idxSl 1 (.t 34) (.t 35)), none, none, []⟩,
 ⟨(some 37), .load false 1 (.t 36), none, none, []⟩,
 ⟨(some 38), .p (.move (.t 5)), none, none, []⟩,
 ⟨(some 39), .p (.move (.t 0)), none, none, []⟩,
 ⟨(some 40), .p (.move (.t 4)), none, none, []⟩,
 ⟨(some 41), .p (.move (.t 5)), none, none, []⟩,
 ⟨(some 42), .call 3 99 [(.t 39), (.t 40), (.t 41)], none, none, []⟩,
 ⟨(some 43), .p (.move (.t 0)), none, none, []⟩,
 ⟨(some 44), .p (.move (.t 4)), none, none, []⟩,
 ⟨(some 45), .p (.move (.t 5)), none, none, []⟩,
 ⟨(some 46), .p (.bin .add (.t 45) (.c (.int .i64 1))), none, none, []⟩,
 ⟨(some 47), .call 3 99 [(.t 43), (.t 44), (.t 46)], none, none, []⟩,
 ⟨(some 48), .p (.bin .sub (.t 42) (.t 47)), none, none, []⟩,
 ⟨(some 49), .p (.idxSl 1 (.t 37) (.t 38)), none, none, []⟩,
 ⟨none, .store 1 (.t 49) (.t 48), none, none, []⟩])))
 (.region 0 [⟨(some 50), .p (.bin .add (.t 31) (.c (.int .i64 1))), none, none, []⟩,
 ⟨(some 31), .p (.move (.t 50)), none, none, []⟩]))))))))))
 (.region 0 [⟨(some 51), .p (.bin .add (.t 14) (.c (.int .i64 1))), none, none, []⟩,
 ⟨(some 14), .p (.move (.t 51)), none, none, []⟩])))))))
 (.seq (.region 0 [⟨(some 52), .p (.move (.t 3)), none, none, []⟩,
 ⟨(some 2), .p (.move (.t 52)), none, none, []⟩])
 (.ret))))⟩
/-- almadraba/almadrabaref01.settle -/
def f84 : AFn := ⟨133, [.tmp 4],
 .seq (.region 0 [⟨(some 2), .box (.t 0), none, none, []⟩,
 ⟨(some 4), .p (.move (.c (.bool false))), none, none, []⟩])
 (.seq (.seq (.region 0 [⟨(some 5), .p (.move (.c (.bool true))), none, none, []⟩])
 (.block 0 (.loop (.seq (.seq (.region 0 [⟨(some 13), .p (.move (.t 5)), none, none, []⟩])
 (.cond (.t 13) (.skip)
 (.exit 0)))
 (.block 1 (.seq (.region 0 [⟨(some 5), .p (.move (.c (.bool false))), none, none, []⟩])
 (.seq (.seq (.region 0 [⟨(some 6), .p (.move (.c (.int .i64 0))), none, none, []⟩])
 (.block 2 (.loop (.seq (.seq (.region 0 [⟨(some 14), .p (.move (.t 6)), none, none, []⟩,
 ⟨(some 15), .p (.fieldAddr 1 (.t 2)), none, none, []⟩,
 ⟨(some 16), .load false 1 (.t 15), none, none, []⟩,
 ⟨(some 17), .p (.bin .lss (.t 14) (.t 16)), none, none, []⟩])
 (.cond (.t 17) (.skip)
 (.exit 2)))
 (.seq (.block 3 (.seq (.region 0 [⟨(some 7), .p (.move (.c (.int .i64 0))), none, none, []⟩])
 (.block 4 (.loop (.seq (.seq (.region 0 [⟨(some 20), .p (.move (.t 7)), none, none, []⟩,
 ⟨(some 21), .p (.fieldAddr 0 (.t 2)), none, none, []⟩,
 ⟨(some 22), .load false 1 (.t 21), none, none, []⟩,
 ⟨(some 23), .p (.bin .lss (.t 20) (.t 22)), none, none, []⟩])
 (.cond (.t 23) (.skip)
 (.exit 4)))
 (.seq (.block 5 (.seq (.seq (.region 0 [⟨(some 26), .p (.move (.t 1)), none, none, []⟩,
 ⟨(some 27), .p (.move (.t 6)), none, none, []⟩,
 ⟨(some 28), .p (.idxSl 1 (.t 26) (.t 27)), none, none, []⟩,
 ⟨(some 29), .load false 1 (.t 28), none, none, []⟩,
 ⟨(some 30), .p (.move (.t 7)), none, none, []⟩,
 ⟨(some 31), .p (.idxSl 2 (.t 29) (.t 30)), none, none, []⟩,
 ⟨(some 32), .p (.fieldAddr 0 (.t 31)), none, none, []⟩,
 ⟨(some 33), .load false 1 (.t 32), none, none, []⟩,
 ⟨(some 34), .p (.move (.t 1)), none, none, []⟩,
 ⟨(some 35), .p (.move (.t 6)), none, none, []⟩,
 ⟨(some 36), .p (.idxSl 1 (.t 34) (.t 35)), none, none, []⟩,
 ⟨(some 37), .load false 1 (.t 36), none, none, []⟩,
 ⟨(some 38), .p (.move (.t 7)), none, none, []⟩,
 ⟨(some 39), .p (.idxSl 2 (.t 37) (.t 38)), none, none, []⟩,
 ⟨(some 40), .p (.fieldAddr 1 (.t 39)), none, none, []⟩,
 ⟨(some 41), .load false 1 (.t 40), none, none, []⟩,
 ⟨(some 42), .p (.bin .gtr (.t 33) (.t 41)), none, none, []⟩])
 (.cond (.t 42) (.seq (.region 0 [⟨(some 4), .p (.move (.c (.bool false))), none, none, []⟩])
 (.ret))
 (.skip)))
 (.seq (.region 0 [⟨(some 43), .p (.move (.t 1)), none, none, []⟩,
 ⟨(some 44), .p (.move (.t 6)), none, none, []⟩,
 ⟨(some 45), .p (.move (.t 7)), none, none, []⟩,
 ⟨(some 46), .p (.move (.t 6)), none, none, []⟩,
 ⟨(some 47), .p (.move (.t 7)), none, none, []⟩,
 ⟨(some 48), .p (.bin .add (.t 47) (.c (.int .i64 1))), none, none, []⟩,
 ⟨(some 49), .call 0 100 [(.t 43), (.t 44), (.t 45), (.t 46), (.t 48), (.c (.int .i64 0)), (.c (.int .i64 40))], none, none, []⟩,
 ⟨(some 50), .p (.move (.t 49)), none, none, []⟩,
 ⟨(some 51), .p (.move (.t 5)), (some (50, false)), none, []⟩,
 ⟨(some 52), .p (.pick (.t 50) (.c (.bool true)) (.t 51)), none, none, []⟩,
 ⟨(some 5), .p (.move (.t 52)), none, none, []⟩])
 (.seq (.seq (.region 0 [⟨(some 53), .p (.move (.t 6)), none, none, []⟩,
 ⟨(some 54), .p (.bin .eql (.t 53) (.c (.int .i64 0))), none, none, []⟩])
 (.cond (.t 54) (.exit 5)
 (.skip)))
 (.seq (.region 0 [⟨(some 8), .p (.move (.c (.int .i64 0))), none, none, []⟩])
 (.seq (.seq (.region 0 [⟨(some 55), .p (.fieldAddr 2 (.t 2)), none, none, []⟩,
 ⟨(some 56), .load false 1 (.t 55), none, none, []⟩,
 ⟨(some 57), .p (.move (.t 6)), none, none, []⟩,
 ⟨(some 58), .p (.bin .sub (.t 57) (.c (.int .i64 1))), none, none, []⟩,
 ⟨(some 59), .p (.idxSl 1 (.t 56) (.t 58)), none, none, []⟩,
 ⟨(some 60), .load false 1 (.t 59), none, none, []⟩,
 ⟨(some 61), .p (.move (.t 7)), none, none, []⟩,
 ⟨(some 62), .call 1 40 [(.t 60), (.t 61)], none, none, []⟩])
 (.cond (.t 62) (.region 0 [⟨(some 8), .p (.move (.c (.int .i64 40))), none, none, []⟩])
 (.skip)))
 (.region 0 [⟨(some 63), .p (.move (.t 1)), none, none, []⟩,
 ⟨(some 64), .p (.move (.t 6)), none, none, []⟩,
 ⟨(some 65), .p (.move (.t 7)), none, none, []⟩,
 ⟨(some 66), .p (.move (.t 6)), none, none, []⟩,
 ⟨(some 67), .p (.bin .sub (.t 66) (.c (.int .i64 1))), none, none, []⟩,
 ⟨(some 68), .p (.move (.t 7)), none, none, []⟩,
 ⟨(some 69), .p (.move (.t 8)), none, none, []⟩,
 ⟨(some 70), .call 0 100 [(.t 63), (.t 64), (.t 65), (.t 67), (.t 68), (.c (.int .i64 0)), (.t 69)], none, none, []⟩,
 ⟨(some 71), .p (.move (.t 70)), none, none, []⟩,
 ⟨(some 72), .p (.move (.t 5)), (some (71, false)), none, []⟩,
 ⟨(some 73), .p (.pick (.t 71) (.c (.bool true)) (.t 72)), none, none, []⟩,
 ⟨(some 5), .p (.move (.t 73)), none, none, []⟩])))))))
 (.region 0 [⟨(some 24), .p (.move (.t 7)), none, none, []⟩,
 ⟨(some 25), .p (.bin .add (.t 24) (.c (.int .i64 1))), none, none, []⟩,
 ⟨(some 7), .p (.move (.t 25)), none, none, []⟩])))))))
 (.region 0 [⟨(some 18), .p (.move (.t 6)), none, none, []⟩,
 ⟨(some 19), .p (.bin .add (.t 18) (.c (.int .i64 1))), none, none, []⟩,
 ⟨(some 6), .p (.move (.t 19)), none, none, []⟩]))))))
 (.seq (.region 0 [⟨(some 9), .p (.move (.c (.int .i64 0))), none, none, []⟩])
 (.block 6 (.loop (.seq (.seq (.region 0 [⟨(some 74), .p (.move (.t 9)), none, none, []⟩,
 ⟨(some 75), .p (.fieldAddr 3 (.t 2)), none, none, []⟩,
 ⟨(some 76), .load false 1 (.t 75), none, none, []⟩,
 ⟨(some 77), .p (.lenS (.t 76)), none, none, []⟩,
 ⟨(some 78), .p (.bin .lss (.t 74) (.t 77)), none, none, []⟩])
 (.cond (.t 78) (.skip)
 (.exit 6)))
 (.seq (.block 7 (.seq (.region 0 [⟨(some 81), .p (.fieldAddr 3 (.t 2)), none, none, []⟩,
 ⟨(some 82), .load false 1 (.t 81), none, none, []⟩,
 ⟨(some 83), .p (.move (.t 9)), none, none, []⟩,
 ⟨(some 84), .p (.idxSl 4 (.t 82) (.t 83)), none, none, []⟩,
 ⟨(some 85), .load true 4 (.t 84), none, none, []⟩,
 ⟨(some 10), .alloc [.int .i64 0, .int .i64 0, .int .i64 0, .int .i64 0], none, none, []⟩,
 ⟨none, .store 4 (.t 10) (.t 85), none, none, []⟩])
 (.region 0 [⟨(some 86), .p (.move (.t 1)), none, none, []⟩,
 ⟨(some 87), .p (.fieldAddr 0 (.t 10)), none, none, []⟩,
 ⟨(some 88), .load false 1 (.t 87), none, none, []⟩,
 ⟨(some 89), .p (.fieldAddr 1 (.t 10)), none, none, []⟩,
 ⟨(some 90), .load false 1 (.t 89), none, none, []⟩,
 ⟨(some 91), .p (.fieldAddr 0 (.t 10)), none, none, []⟩,
 ⟨(some 92), .load false 1 (.t 91), none, none, []⟩,
 ⟨(some 93), .p (.fieldAddr 1 (.t 10)), none, none, []⟩,
 ⟨(some 94), .load false 1 (.t 93), none, none, []⟩,
 ⟨(some 95), .p (.bin .add (.t 94) (.c (.int .i64 1))), none, none, []⟩,
 ⟨(some 96), .p (.fieldAddr 2 (.t 10)), none, none, []⟩,
 ⟨(some 97), .load false 1 (.t 96), none, none, []⟩,
 ⟨(some 98), .p (.fieldAddr 3 (.t 10)), none, none, []⟩,
 ⟨(some 99), .load false 1 (.t 98), none, none, []⟩,
 ⟨(some 100), .call 0 100 [(.t 86), (.t 88), (.t 90), (.t 92), (.t 95), (.t 97), (.t 99)], none, none, []⟩,
 ⟨(some 101), .p (.move (.t 100)), none, none, []⟩,
 ⟨(some 102), .p (.move (.t 5)), (some (101, false)), none, []⟩,
 ⟨(some 103), .p (.pick (.t 101) (.c (.bool true)) (.t 102)), none, none, []⟩,
 ⟨(some 5), .p (.move (.t 103)), none, none, []⟩])))
 (.region 0 [⟨(some 79), .p (.move (.t 9)), none, none, []⟩,
 ⟨(some 80), .p (.bin .add (.t 79) (.c (.int .i64 1))), none, none, []⟩,
 ⟨(some 9), .p (.move (.t 80)), none, none, []⟩])))))))))))))
 (.seq (.seq (.region 0 [⟨(some 11), .p (.move (.c (.int .i64 0))), none, none, []⟩])
 (.block 8 (.loop (.seq (.seq (.region 0 [⟨(some 104), .p (.move (.t 11)), none, none, []⟩,
 ⟨(some 105), .p (.fieldAddr 1 (.t 2)), none, none, []⟩,
 ⟨(some 106), .load false 1 (.t 105), none, none, []⟩,
 ⟨(some 107), .p (.bin .lss (.t 104) (.t 106)), none, none, []⟩])
 (.cond (.t 107) (.skip)
 (.exit 8)))
 (.seq (.block 9 (.seq (.region 0 [⟨(some 12), .p (.move (.c (.int .i64 0))), none, none, []⟩])
 (.block 10 (.loop (.seq (.seq (.region 0 [⟨(some 110), .p (.move (.t 12)), none, none, []⟩,
 ⟨(some 111), .p (.fieldAddr 0 (.t 2)), none, none, []⟩,
 ⟨(some 112), .load false 1 (.t 111), none, none, []⟩,
 ⟨(some 113), .p (.bin .leq (.t 110) (.t 112)), none, none, []⟩])
 (.cond (.t 113) (.skip)
 (.exit 10)))
 (.seq (.block 11 (.seq (.region 0 [⟨(some 116), .p (.move (.t 1)), none, none, []⟩,
 ⟨(some 117), .p (.move (.t 11)), none, none, []⟩,
 ⟨(some 118), .p (.idxSl 1 (.t 116) (.t 117)), none, none, []⟩,
 ⟨(some 119), .load false 1 (.t 118), none, none, []⟩,
 ⟨(some 120), .p (.move (.t 12)), none, none, []⟩,
 ⟨(some 121), .p (.idxSl 2 (.t 119) (.t 120)), none, none, []⟩,
 ⟨(some 122), .p (.fieldAddr 0 (.t 121)), none, none, []⟩,
 ⟨(some 123), .load false 1 (.t 122), none, none, []⟩,
 ⟨(some 124), .p (.move (.t 1)), none, none, []⟩,
 ⟨(some 125), .p (.move (.t 11)), none, none, []⟩,
 ⟨(some 126), .p (.idxSl 1 (.t 124) (.t 125)), none, none, []⟩,
 ⟨(some 127), .load false 1 (.t 126), none, none, []⟩,
 ⟨(some 128), .p (.move (.t 12)), none, none, []⟩,
 ⟨(some 129), .p (.idxSl 2 (.t 127) (.t 128)), none, none, []⟩,
 ⟨(some 130), .p (.fieldAddr 1 (.t 129)), none, none, []⟩,
 ⟨(some 131), .load false 1 (.t 130), none, none, []⟩,
 ⟨(some 132), .p (.bin .gtr (.t 123) (.t 131)), none, none, []⟩])
 (.cond (.t 132) (.seq (.region 0 [⟨(some 4), .p (.move (.c (.bool false))), none, none, []⟩])
 (.ret))
 (.skip))))
 (.region 0 [⟨(some 114), .p (.move (.t 12)), none, none, []⟩,
 ⟨(some 115), .p (.bin .add (.t 114) (.c (.int .i64 1))), none, none, []⟩,
 ⟨(some 12), .p (.move (.t 115)), none, none, []⟩])))))))
 (.region 0 [⟨(some 108), .p (.move (.t 11)), none, none, []⟩,
 ⟨(some 109), .p (.bin .add (.t 108) (.c (.int .i64 1))), none, none, []⟩,
 ⟨(some 11), .p (.move (.t 109)), none, none, []⟩]))))))
 (.seq (.region 0 [⟨(some 4), .p (.move (.c (.bool true))), none, none, []⟩])
 (.ret))))⟩
/-- almadraba/almadrabaref01.free -/
def f85 : AFn := ⟨32, [.tmp 2],
 .seq (.region 0 [⟨(some 1), .box (.t 0), none, none, []⟩,
 ⟨(some 2), .p (.move (.c (.nils))), none, none, []⟩])
 (.seq (.region 0 [⟨(some 3), .p (.move (.c (.nils))), none, none, []⟩])
 (.seq (.seq (.region 0 [⟨(some 4), .p (.move (.c (.int .i64 0))), none, none, []⟩])
 (.block 0 (.loop (.seq (.seq (.region 0 [⟨(some 7), .p (.move (.t 4)), none, none, []⟩,
 ⟨(some 8), .p (.fieldAddr 1 (.t 1)), none, none, []⟩,
 ⟨(some 9), .load false 1 (.t 8), none, none, []⟩,
 ⟨(some 10), .p (.bin .lss (.t 7) (.t 9)), none, none, []⟩])
 (.cond (.t 10) (.skip)
 (.exit 0)))
 (.seq (.block 1 (.seq (.region 0 [⟨(some 13), .p (.fieldAddr 0 (.t 1)), none, none, []⟩,
 ⟨(some 14), .load false 1 (.t 13), none, none, []⟩,
 ⟨(some 15), .p (.bin .add (.t 14) (.c (.int .i64 1))), none, none, []⟩,
 ⟨(some 16), .makeSlice 2 16 [.int .i64 0, .int .i64 0] (.t 15) (.t 15), none, none, []⟩,
 ⟨(some 5), .p (.move (.t 16)), none, none, []⟩])
 (.seq (.seq (.region 0 [⟨(some 6), .p (.move (.c (.int .i64 0))), none, none, []⟩])
 (.block 2 (.loop (.seq (.seq (.region 0 [⟨(some 17), .p (.move (.t 6)), none, none, []⟩,
 ⟨(some 18), .p (.fieldAddr 0 (.t 1)), none, none, []⟩,
 ⟨(some 19), .load false 1 (.t 18), none, none, []⟩,
 ⟨(some 20), .p (.bin .lss (.t 17) (.t 19)), none, none, []⟩])
 (.cond (.t 20) (.skip)
 (.exit 2)))
 (.seq (.block 3 (.region 0 [⟨(some 23), .p (.move (.t 5)), none, none, []⟩,
 ⟨(some 24), .p (.move (.t 6)), none, none, []⟩,
 ⟨(some 25), .p (.idxSl 2 (.t 23) (.t 24)), none, none, []⟩,
 ⟨(some 26), .p (.fieldAddr 1 (.t 25)), none, none, []⟩,
 ⟨none, .store 1 (.t 26) (.c (.int .i64 40)), none, none, []⟩]))
 (.region 0 [⟨(some 21), .p (.move (.t 6)), none, none, []⟩,
 ⟨(some 22), .p (.bin .add (.t 21) (.c (.int .i64 1))), none, none, []⟩,
 ⟨(some 6), .p (.move (.t 22)), none, none, []⟩]))))))
 (.region 0 [⟨(some 27), .p (.move (.t 3)), none, none, []⟩,
 ⟨(some 28), .p (.move (.t 5)), none, none, []⟩,
 ⟨(some 29), .buildSlice 1 1 [.nils] [(0, (.t 28))], none, none, []⟩,
 ⟨(some 30), .append false 1 24 (.t 27) (.t 29), none, none, []⟩,
 ⟨(some 3), .p (.move (.t 30)), none, none, []⟩]))))
 (.region 0 [⟨(some 11), .p (.move (.t 4)), none, none, []⟩,
 ⟨(some 12), .p (.bin .add (.t 11) (.c (.int .i64 1))), none, none, []⟩,
 ⟨(some 4), .p (.move (.t 12)), none, none, []⟩]))))))
 (.seq (.region 0 [⟨(some 31), .p (.move (.t 3)), none, none, []⟩,
 ⟨(some 2), .p (.move (.t 31)), none, none, []⟩])
 (.ret))))⟩
/-- (*almadraba/counts.trap).enough -/
def f86 : AFn := ⟨45, [.cell true 2 4, .tmp 5],
 .seq (.region 0 [⟨(some 4), .alloc [.int .i64 0, .int .i64 0], none, none, []⟩,
 ⟨(some 5), .p (.move (.c (.int .i64 0))), none, none, []⟩])
 (.seq (.region 0 [⟨(some 6), .p (.move (.c (.int .i64 (-1)))), none, none, []⟩])
 (.seq (.seq (.region 0 [⟨(some 9), .p (.move (.t 0)), none, none, []⟩,
 ⟨(some 10), .p (.nilCheck (.t 9)), none, none, []⟩,
 ⟨(some 11), .p (.fieldAddr 0 (.t 10)), none, none, []⟩,
 ⟨(some 12), .p (.fieldAddr 1 (.t 11)), none, none, []⟩,
 ⟨(some 13), .load false 1 (.t 12), none, none, []⟩,
 ⟨(some 14), .p (.move (.c (.int .i64 0))), none, none, []⟩])
 (.block 0 (.loop (.seq (.region 0 [⟨(some 15), .p (.bin .lss (.t 14) (.t 13)), none, none, []⟩])
 (.seq (.cond (.t 15) (.skip)
 (.exit 0))
 (.seq (.block 1 (.seq (.region 0 [⟨(some 16), .p (.move (.t 14)), none, none, []⟩,
 ⟨(some 7), .p (.move (.t 16)), none, none, []⟩])
 (.seq (.region 0 [⟨(some 17), .p (.move (.t 0)), none, none, []⟩,
 ⟨(some 18), .p (.move (.t 7)), none, none, []⟩,
 ⟨(some 19), .p (.move (.t 0)), none, none, []⟩,
 ⟨(some 20), .p (.nilCheck (.t 19)), none, none, []⟩,
 ⟨(some 21), .p (.fieldAddr 0 (.t 20)), none, none, []⟩,
 ⟨(some 22), .p (.fieldAddr 0 (.t 21)), none, none, []⟩,
 ⟨(some 23), .load false 1 (.t 22), none, none, []⟩,
 ⟨(some 24), .p (.bin .sub (.t 23) (.c (.int .i64 1))), none, none, []⟩,
 ⟨(some 25), .p (.build [.int .i64 0, .int .i64 0] [(0, 1, (.t 18)), (1, 1, (.t 24))]), none, none, []⟩,
 ⟨(some 26), .call 3 82 [(.t 17), (.t 25)], none, none, []⟩,
 ⟨(some 8), .alloc [.int .i64 0, .int .i64 0], none, none, []⟩,
 ⟨none, .store 2 (.t 8) (.t 26), none, none, []⟩])
 (.seq (.seq (.region 0 [⟨(some 27), .p (.move (.t 6)), none, none, []⟩,
 ⟨(some 28), .p (.bin .lss (.t 27) (.c (.int .i64 0))), none, none, []⟩,
 ⟨(some 29), .p (.move (.t 28)), none, none, []⟩,
 ⟨(some 30), .p (.fieldAddr 1 (.t 8)), (some (29, true)), none, []⟩,
 ⟨(some 31), .load false 1 (.t 30), (some (29, true)), none, []⟩,
 ⟨(some 32), .p (.move (.t 1)), (some (29, true)), none, []⟩,
 ⟨(some 33), .p (.bin .geq (.t 31) (.t 32)), (some (29, true)), none, []⟩,
 ⟨(some 34), .p (.pick (.t 29) (.t 33) (.c (.bool false))), none, none, []⟩])
 (.cond (.t 34) (.region 0 [⟨(some 35), .p (.move (.t 7)), none, none, []⟩,
 ⟨(some 6), .p (.move (.t 35)), none, none, []⟩])
 (.skip)))
 (.seq (.region 0 [⟨(some 36), .p (.fieldAddr 0 (.t 8)), none, none, []⟩,
 ⟨(some 37), .load false 1 (.t 36), none, none, []⟩,
 ⟨(some 38), .p (.move (.t 1)), none, none, []⟩,
 ⟨(some 39), .p (.bin .geq (.t 37) (.t 38)), none, none, []⟩])
 (.cond (.t 39) (.seq (.region 0 [⟨(some 40), .p (.move (.t 6)), none, none, []⟩,
 ⟨(some 41), .p (.move (.t 7)), none, none, []⟩,
 ⟨(some 42), .p (.build [.int .i64 0, .int .i64 0] [(0, 1, (.t 40)), (1, 1, (.t 41))]), none, none, []⟩,
 ⟨none, .store 2 (.t 4) (.t 42), none, none, []⟩,
 ⟨(some 5), .p (.move (.c (.int .i64 0))), none, none, []⟩])
 (.ret))
 (.skip)))))))
 (.region 0 [⟨(some 43), .p (.bin .add (.t 14) (.c (.int .i64 1))), none, none, []⟩,
 ⟨(some 14), .p (.move (.t 43)), none, none, []⟩])))))))
 (.seq (.region 0 [⟨(some 44), .p (.build [.int .i64 0, .int .i64 0] []), none, none, []⟩,
 ⟨none, .store 2 (.t 4) (.t 44), none, none, []⟩,
 ⟨(some 5), .p (.move (.c (.int .i64 3))), none, none, []⟩])
 (.ret))))⟩
/-- (*almadraba/counts.trap).tell -/
def f87 : AFn := ⟨32, [.tmp 4],
 .seq (.region 0 [⟨(some 3), .box (.t 1), none, none, []⟩,
 ⟨(some 4), .p (.move (.c (.int .i64 0))), none, none, []⟩])
 (.seq (.region 0 [⟨(some 5), .p (.move (.c (.int .i64 0))), none, none, []⟩])
 (.seq (.region 0 [⟨(some 9), .p (.move (.t 0)), none, none, []⟩,
 ⟨(some 10), .load true 2 (.t 3), none, none, []⟩,
 ⟨(some 11), .call 3 82 [(.t 9), (.t 10)], none, none, []⟩,
 ⟨(some 6), .alloc [.int .i64 0, .int .i64 0], none, none, []⟩,
 ⟨none, .store 2 (.t 6) (.t 11), none, none, []⟩])
 (.seq (.seq (.region 0 [⟨(some 12), .p (.fieldAddr 0 (.t 6)), none, none, []⟩,
 ⟨(some 13), .load false 1 (.t 12), none, none, []⟩,
 ⟨(some 7), .p (.move (.t 13)), none, none, []⟩])
 (.block 0 (.loop (.seq (.seq (.region 0 [⟨(some 14), .p (.move (.t 7)), none, none, []⟩,
 ⟨(some 15), .p (.fieldAddr 1 (.t 6)), none, none, []⟩,
 ⟨(some 16), .load false 1 (.t 15), none, none, []⟩,
 ⟨(some 17), .p (.bin .leq (.t 14) (.t 16)), none, none, []⟩])
 (.cond (.t 17) (.skip)
 (.exit 0)))
 (.seq (.block 1 (.seq (.region 0 [⟨(some 20), .p (.move (.t 0)), none, none, []⟩,
 ⟨(some 21), .p (.nilCheck (.t 20)), none, none, []⟩,
 ⟨(some 22), .load true 445 (.t 21), none, none, []⟩,
 ⟨(some 8), .alloc [.int .i64 0, .int .i64 0, .nils, .nils, .int .i64 0, .int .i64 0, .int .i64 0, .int .i64 0, .int .i64 0, .int .i64 0, .int .i64 0, .int .i64 0, .int .i64 0, .int .i64 0, .int .i64 0, .int .i64 0, .int .i64 0, .int .i64 0, .int .i64 0, .int .i64 0, .int .i64 0, .int .i64 0, .int .i64 0, .int .i64 0, .int .i64 0, .int .i64 0, .int .i64 0, .int .i64 0, .int .i64 0, .int .i64 0, .int .i64 0, .int .i64 0, .int .i64 0, .int .i64 0, .int .i64 0, .int .i64 0, .int .i64 0, .int .i64 0, .int .i64 0, .int .i64 0, .int .i64 0, .int .i64 0, .int .i64 0, .int .i64 0, .int .i64 0, .int .i64 0, .int .i64 0, .int .i64 0, .int .i64 0, .int .i64 0, .int .i64 0, .int .i64 0, .int .i64 0, .int .i64 0, .int .i64 0, .int .i64 0, .int .i64 0, .int .i64 0, .int .i64 0, .int .i64 0, .int .i64 0, .int .i64 0, .int .i64 0, .int .i64 0, .int .i64 0, .int .i64 0, .int .i64 0, .int .i64 0, .int .i64 0, .int .i64 0, .int .i64 0, .int .i64 0, .int .i64 0, .int .i64 0, .int .i64 0, .int .i64 0, .int .i64 0, .int .i64 0, .int .i64 0, .int .i64 0, .int .i64 0, .int .i64 0, .int .i64 0, .int .i64 0, .int .i64 0, .int .i64 0, .int .i64 0, .int .i64 0, .int .i64 0, .int .i64 0, .int .i64 0, .int .i64 0, .int .i64 0, .int .i64 0, .int .i64 0, .int .i64 0, .int .i64 0, .int .i64 0, .int .i64 0, .int .i64 0, .int .i64 0, .int .i64 0, .int .i64 0, .int .i64 0, .int .i64 0, .int .i64 0, .int .i64 0, .int .i64 0, .int .i64 0, .int .i64 0, .int .i64 0, .int .i64 0, .int .i64 0, .int .i64 0, .int .i64 0, .int .i64 0, .int .i64 0, .int .i64 0, .int .i64 0, .int .i64 0, .int .i64 0, .int .i64 0, .int .i64 0, .int .i64 0, .int .i64 0, .int .i64 0, .int .i64 0, .int .i64 0, .int .i64 0, .int .i64 0, .int .i64 0, .int .i64 0, .int .i64 0, .int .i64 0, .int .i64 0, .int .i64 0, .int .i64 0, .int .i64 0, .int .i64 0, .int .i64 0, .int .i64 0, .int .i64 0, .int .i64 0, .int .i64 0, .int .i64 0, .int .i64 0, .int .i64 0, .int .i64 0, .int .i64 0, .int .i64 0, .int .i64 0, .int .i64 0, .int .i64 0, .int .i64 0, .int .i64 0, .int .i64 0, .int .i64 0, .int .i64 0, .int .i64 0, .int .i64 0, .int .i64 0, .int .i64 0, .int .i64 0, .int .i64 0, .int .i64 0, .int .i64 0, .int .i64 0, .int .i64 0, .int .i64 0, .int .i64 0, .int .i64 0, .int .i64 0, .int .i64 0, .int .i64 0, .int .i64 0, .int .i64 0, .int .i64 0, .int .i64 0, .int .i64 0, .int .i64 0, .int .i64 0, .int .i64 0, .int .i64 0, .int .i64 0, .int .i64 0, .int .i64 0, .int .i64 0, .int .i64 0, .int .i64 0, .int .i64 0, .int .i64 0, .int .i64 0, .int .i64 0, .int .i64 0, .int .i64 0, .int .i64 0, .int .i64 0, .int .i64 0, .int .i64 0, .int .i64 0, .int .i64 0, .int .i64 0, .int .i64 0, .int .i64 0, .int .i64 0, .int .i64 0, .int .i64 0, .int .i64 0, .int .i64 0, .int .i64 0, .int .i64 0, .int .i64 0, .int .i64 0, .int .i64 0, .int .i64 0, .int .i64 0, .int .i64 0, .int .i64 0, .int .i64 0, .int .i64 0, .int .i64 0, .int .i64 0, .int .i64 0, .int .i64 0, .int .i64 0, .int .i64 0, .int .i64 0, .int .i64 0, .int .i64 0, .int .i64 0, .int .i64 0, .int .i64 0, .int .i64 0, .int .i64 0, .int .i64 0, .int .i64 0, .int .i64 0, .int .i64 0, .int .i64 0, .int .i64 0, .int .i64 0, .int .i64 0, .int .i64 0, .int .i64 0, .int .i64 0, .int .i64 0, .int .i64 0, .int .i64 0, .int .i64 0, .int .i64 0, .int .i64 0, .int .i64 0, .int .i64 0, .int .i64 0, .int .i64 0, .int .i64 0, .int .i64 0, .int .i64 0, .int .i64 0, .int .i64 0, .int .i64 0, .int .i64 0, .int .i64 0, .int .i64 0, .int .i64 0, .int .i64 0, .int .i64 0, .int .i64 0, .int .i64 0, .int .i64 0, .int .i64 0, .int .i64 0, .int .i64 0, .int .i64 0, .int .i64 0, .int .i64 0, .int .i64 0, .int .i64 0, .int .i64 0, .int .i64 0, .int .i64 0, .int .i64 0, .int .i64 0, .int .i64 0, .int .i64 0, .int .i64 0, .int .i64 0, .int .i64 0, .int .i64 0, .int .i64 0, .int .i64 0, .int .i64 0, .int .i64 0, .int .i64 0, .int .i64 0, .int .i64 0, .int .i64 0, .int .i64 0, .int .i64 0, .int .i64 0, .int .i64 0, .int .i64 0, .int .i64 0, .int .i64 0, .int .i64 0, .int .i64 0, .int .i64 0, .int .i64 0, .int .i64 0, .int .i64 0, .int .i64 0, .int .i64 0, .int .i64 0, .int .i64 0, .int .i64 0, .int .i64 0, .int .i64 0, .int .i64 0, .int .i64 0, .int .i64 0, .int .i64 0, .int .i64 0, .int .i64 0, .int .i64 0, .int .i64 0, .int .i64 0, .int .i64 0, .int .i64 0, .int .i64 0, .int .i64 0, .int .i64 0, .int .i64 0, .int .i64 0, .int .i64 0, .int .i64 0, .int .i64 0, .int .i64 0, .int .i64 0, .int .i64 0, .int .i64 0, .int .i64 0, .int .i64 0, .int .i64 0, .int .i64 0, .int .i64 0, .int .i64 0, .int .i64 0, .int .i64 0, .int .i64 0, .int .i64 0, .int .i64 0, .int .i64 0, .int .i64 0, .int .i64 0, .int .i64 0, .int .i64 0, .int .i64 0, .int .i64 0, .int .i64 0, .int .i64 0, .int .i64 0, .int .i64 0, .int .i64 0, .int .i64 0, .int .i64 0, .int .i64 0, .int .i64 0, .int .i64 0, .int .i64 0, .int .i64 0, .int .i64 0, .int .i64 0, .int .i64 0, .int .i64 0, .int .i64 0, .int .i64 0, .int .i64 0, .int .i64 0, .int .i64 0, .int .i64 0, .int .i64 0, .int .i64 0, .int .i64 0, .int .i64 0, .int .i64 0, .int .i64 0, .int .i64 0, .int .i64 0, .int .i64 0, .int .i64 0, .int .i64 0, .int .i64 0, .int .i64 0, .int .i64 0, .int .i64 0, .int .i64 0, .int .i64 0, .int .i64 0, .int .i64 0, .int .i64 0, .int .i64 0, .int .i64 0, .int .i64 0, .int .i64 0, .int .i64 0, .int .i64 0, .int .i64 0, .int .i64 0, .int .i64 0, .int .i64 0, .int .i64 0, .int .i64 0, .int .i64 0, .int .i64 0, .int .i64 0, .int .i64 0, .int .i64 0, .int .i64 0, .int .i64 0, .int .i64 0, .int .i64 0, .int .i64 0, .int .i64 0, .int .i64 0, .int .i64 0, .int .i64 0, .int .i64 0, .int .i64 0, .int .i64 0, .int .i64 0, .int .i64 0, .int .i64 0, .int .i64 0, .int .i64 0, .int .i64 0, .int .i64 0, .int .i64 0, .int .i64 0, .int .i64 0, .int .i64 0, .int .i64 0, .int .i64 0, .int .i64 0, .int .i64 0, .int .i64 0], none, none, []⟩,
 ⟨none, .store 445 (.t 8) (.t 22), none, none, []⟩])
 (.seq (.region 0 [⟨(some 23), .load true 2 (.t 3), none, none, []⟩,
 ⟨(some 24), .p (.move (.t 7)), none, none, []⟩,
 ⟨(some 25), .p (.move (.t 7)), none, none, []⟩,
 ⟨(some 26), .p (.build [.int .i64 0, .int .i64 0] [(0, 1, (.t 24)), (1, 1, (.t 25))]), none, none, []⟩,
 ⟨(some 27), .call 0 101 [(.t 8), (.t 23), (.t 26)], none, none, []⟩])
 (.cond (.t 27) (.region 0 [⟨(some 28), .p (.move (.t 5)), none, none, []⟩,
 ⟨(some 29), .call 3 102 [(.t 8)], none, none, []⟩,
 ⟨(some 30), .p (.minmax true (.t 28) [(.t 29)]), none, none, []⟩,
 ⟨(some 5), .p (.move (.t 30)), none, none, []⟩])
 (.skip)))))
 (.region 0 [⟨(some 18), .p (.move (.t 7)), none, none, []⟩,
 ⟨(some 19), .p (.bin .add (.t 18) (.c (.int .i64 1))), none, none, []⟩,
 ⟨(some 7), .p (.move (.t 19)), none, none, []⟩]))))))
 (.seq (.region 0 [⟨(some 31), .p (.move (.t 5)), none, none, []⟩,
 ⟨(some 4), .p (.move (.t 31)), none, none, []⟩])
 (.ret)))))⟩
/-- (*almadraba/counts.trap).ask -/
def f88 : AFn := ⟨42, [.cell true 2 2, .tmp 3],
 .seq (.region 0 [⟨(some 1), .box (.t 0), none, none, []⟩,
 ⟨(some 2), .alloc [.int .i64 0, .int .i64 0], none, none, []⟩,
 ⟨(some 3), .p (.move (.c (.int .i64 0))), none, none, []⟩])
 (.seq (.region 2 [⟨(some 8), .load false 1 (.t 1), none, none, [0, 1]⟩,
 ⟨(some 9), .call 3 103 [(.t 8)], none, none, [0, 1]⟩,
 ⟨(some 10), .load false 1 (.t 1), none, none, [0, 1]⟩,
 ⟨(some 11), .call 3 102 [(.t 10)], none, none, [0, 1]⟩,
 ⟨(some 4), .alloc [.int .i64 0, .int .i64 0], none, (some 0), []⟩,
 ⟨(some 5), .alloc [.int .i64 0], none, (some 1), []⟩,
 ⟨none, .store 2 (.t 4) (.t 9), none, (some 0), []⟩,
 ⟨none, .store 1 (.t 5) (.t 11), none, (some 1), []⟩])
 (.seq (.seq (.region 0 [⟨(some 12), .load false 1 (.t 5), none, none, []⟩,
 ⟨(some 13), .p (.bin .eql (.t 12) (.c (.int .i64 0))), none, none, []⟩])
 (.cond (.t 13) (.seq (.region 0 [⟨(some 14), .p (.build [.int .i64 0, .int .i64 0] []), none, none, []⟩,
 ⟨none, .store 2 (.t 2) (.t 14), none, none, []⟩,
 ⟨(some 3), .p (.move (.c (.int .i64 3))), none, none, []⟩])
 (.ret))
 (.skip)))
 (.seq (.seq (.region 0 [⟨(some 15), .load false 1 (.t 1), none, none, []⟩,
 ⟨(some 16), .p (.mkFn 104 [(.t 15)] []), none, none, []⟩])
 (.block 0 (.rangeFunc (.t 16) [17] (.region 0 [⟨(some 6), .alloc [.int .i64 0, .int .i64 0], none, none, []⟩,
 ⟨none, .store 2 (.t 6) (.t 17), none, none, []⟩])
 (.block 1 (.seq (.seq (.region 0 [⟨(some 18), .load true 2 (.t 6), none, none, []⟩,
 ⟨(some 19), .load false 1 (.t 1), none, none, []⟩,
 ⟨(some 20), .call 3 103 [(.t 19)], none, none, []⟩,
 ⟨(some 21), .p (.eqS false [true, true] (.t 18) (.t 20)), none, none, []⟩])
 (.cond (.t 21) (.exit 1)
 (.skip)))
 (.seq (.region 0 [⟨(some 22), .load false 1 (.t 1), none, none, []⟩,
 ⟨(some 23), .load true 2 (.t 6), none, none, []⟩,
 ⟨(some 24), .call 3 87 [(.t 22), (.t 23)], none, none, []⟩,
 ⟨(some 7), .p (.move (.t 24)), none, none, []⟩])
 (.seq (.region 0 [⟨(some 25), .load true 2 (.t 4), none, none, []⟩,
 ⟨(some 26), .load false 1 (.t 1), none, none, []⟩,
 ⟨(some 27), .call 3 103 [(.t 26)], none, none, []⟩,
 ⟨(some 28), .p (.eqS false [true, true] (.t 25) (.t 27)), none, none, []⟩,
 ⟨(some 29), .p (.move (.t 28)), none, none, []⟩,
 ⟨(some 30), .p (.move (.t 7)), (some (29, false)), none, []⟩,
 ⟨(some 31), .load false 1 (.t 5), (some (29, false)), none, []⟩,
 ⟨(some 32), .p (.bin .lss (.t 30) (.t 31)), (some (29, false)), none, []⟩,
 ⟨(some 33), .p (.pick (.t 29) (.c (.bool true)) (.t 32)), none, none, []⟩])
 (.cond (.t 33) (.region 0 [⟨(some 34), .load true 2 (.t 6), none, none, []⟩,
 ⟨(some 35), .p (.move (.t 7)), none, none, []⟩,
 ⟨none, .store 2 (.t 4) (.t 34), none, none, []⟩,
 ⟨none, .store 1 (.t 5) (.t 35), none, none, []⟩])
 (.skip)))))))))
 (.seq (.seq (.region 0 [⟨(some 36), .load true 2 (.t 4), none, none, []⟩,
 ⟨(some 37), .load false 1 (.t 1), none, none, []⟩,
 ⟨(some 38), .call 3 103 [(.t 37)], none, none, []⟩,
 ⟨(some 39), .p (.eqS false [true, true] (.t 36) (.t 38)), none, none, []⟩])
 (.cond (.t 39) (.seq (.region 0 [⟨(some 40), .p (.build [.int .i64 0, .int .i64 0] []), none, none, []⟩,
 ⟨none, .store 2 (.t 2) (.t 40), none, none, []⟩,
 ⟨(some 3), .p (.move (.c (.int .i64 3))), none, none, []⟩])
 (.ret))
 (.skip)))
 (.seq (.region 0 [⟨(some 41), .load true 2 (.t 4), none, none, []⟩,
 ⟨none, .store 2 (.t 2) (.t 41), none, none, []⟩,
 ⟨(some 3), .p (.move (.c (.int .i64 0))), none, none, []⟩])
 (.ret))))))⟩
/-- almadraba/counts.build -/
def f90 : AFn := ⟨20, [.tmp 2, .tmp 3],
 .seq (.region 0 [⟨(some 1), .box (.t 0), none, none, []⟩,
 ⟨(some 2), .p (.move (.c (.nilp))), none, none, []⟩,
 ⟨(some 3), .p (.move (.c (.bool false))), none, none, []⟩])
 (.seq (.region 1 [⟨(some 5), .load true 4 (.t 1), none, none, [0]⟩,
 ⟨(some 6), .call 1 106 [], none, none, [0]⟩,
 ⟨(some 7), .p (.build [.int .i64 0, .int .i64 0, .nils, .nils, .int .i64 0, .int .i64 0, .int .i64 0, .int .i64 0, .int .i64 0, .int .i64 0, .int .i64 0, .int .i64 0, .int .i64 0, .int .i64 0, .int .i64 0, .int .i64 0, .int .i64 0, .int .i64 0, .int .i64 0, .int .i64 0, .int .i64 0, .int .i64 0, .int .i64 0, .int .i64 0, .int .i64 0, .int .i64 0, .int .i64 0, .int .i64 0, .int .i64 0, .int .i64 0, .int .i64 0, .int .i64 0, .int .i64 0, .int .i64 0, .int .i64 0, .int .i64 0, .int .i64 0, .int .i64 0, .int .i64 0, .int .i64 0, .int .i64 0, .int .i64 0, .int .i64 0, .int .i64 0, .int .i64 0, .int .i64 0, .int .i64 0, .int .i64 0, .int .i64 0, .int .i64 0, .int .i64 0, .int .i64 0, .int .i64 0, .int .i64 0, .int .i64 0, .int .i64 0, .int .i64 0, .int .i64 0, .int .i64 0, .int .i64 0, .int .i64 0, .int .i64 0, .int .i64 0, .int .i64 0, .int .i64 0, .int .i64 0, .int .i64 0, .int .i64 0, .int .i64 0, .int .i64 0, .int .i64 0, .int .i64 0, .int .i64 0, .int .i64 0, .int .i64 0, .int .i64 0, .int .i64 0, .int .i64 0, .int .i64 0, .int .i64 0, .int .i64 0, .int .i64 0, .int .i64 0, .int .i64 0, .int .i64 0, .int .i64 0, .int .i64 0, .int .i64 0, .int .i64 0, .int .i64 0, .int .i64 0, .int .i64 0, .int .i64 0, .int .i64 0, .int .i64 0, .int .i64 0, .int .i64 0, .int .i64 0, .int .i64 0, .int .i64 0, .int .i64 0, .int .i64 0, .int .i64 0, .int .i64 0, .int .i64 0, .int .i64 0, .int .i64 0, .int .i64 0, .int .i64 0, .int .i64 0, .int .i64 0, .int .i64 0, .int .i64 0, .int .i64 0, .int .i64 0, .int .i64 0, .int .i64 0, .int .i64 0, .int .i64 0, .int .i64 0, .int .i64 0, .int .i64 0, .int .i64 0, .int .i64 0, .int .i64 0, .int .i64 0, .int .i64 0, .int .i64 0, .int .i64 0, .int .i64 0, .int .i64 0, .int .i64 0, .int .i64 0, .int .i64 0, .int .i64 0, .int .i64 0, .int .i64 0, .int .i64 0, .int .i64 0, .int .i64 0, .int .i64 0, .int .i64 0, .int .i64 0, .int .i64 0, .int .i64 0, .int .i64 0, .int .i64 0, .int .i64 0, .int .i64 0, .int .i64 0, .int .i64 0, .int .i64 0, .int .i64 0, .int .i64 0, .int .i64 0, .int .i64 0, .int .i64 0, .int .i64 0, .int .i64 0, .int .i64 0, .int .i64 0, .int .i64 0, .int .i64 0, .int .i64 0, .int .i64 0, .int .i64 0, .int .i64 0, .int .i64 0, .int .i64 0, .int .i64 0, .int .i64 0, .int .i64 0, .int .i64 0, .int .i64 0, .int .i64 0, .int .i64 0, .int .i64 0, .int .i64 0, .int .i64 0, .int .i64 0, .int .i64 0, .int .i64 0, .int .i64 0, .int .i64 0, .int .i64 0, .int .i64 0, .int .i64 0, .int .i64 0, .int .i64 0, .int .i64 0, .int .i64 0, .int .i64 0, .int .i64 0, .int .i64 0, .int .i64 0, .int .i64 0, .int .i64 0, .int .i64 0, .int .i64 0, .int .i64 0, .int .i64 0, .int .i64 0, .int .i64 0, .int .i64 0, .int .i64 0, .int .i64 0, .int .i64 0, .int .i64 0, .int .i64 0, .int .i64 0, .int .i64 0, .int .i64 0, .int .i64 0, .int .i64 0, .int .i64 0, .int .i64 0, .int .i64 0, .int .i64 0, .int .i64 0, .int .i64 0, .int .i64 0, .int .i64 0, .int .i64 0, .int .i64 0, .int .i64 0, .int .i64 0, .int .i64 0, .int .i64 0, .int .i64 0, .int .i64 0, .int .i64 0, .int .i64 0, .int .i64 0, .int .i64 0, .int .i64 0, .int .i64 0, .int .i64 0, .int .i64 0, .int .i64 0, .int .i64 0, .int .i64 0, .int .i64 0, .int .i64 0, .int .i64 0, .int .i64 0, .int .i64 0, .int .i64 0, .int .i64 0, .int .i64 0, .int .i64 0, .int .i64 0, .int .i64 0, .int .i64 0, .int .i64 0, .int .i64 0, .int .i64 0, .int .i64 0, .int .i64 0, .int .i64 0, .int .i64 0, .int .i64 0, .int .i64 0, .int .i64 0, .int .i64 0, .int .i64 0, .int .i64 0, .int .i64 0, .int .i64 0, .int .i64 0, .int .i64 0, .int .i64 0, .int .i64 0, .int .i64 0, .int .i64 0, .int .i64 0, .int .i64 0, .int .i64 0, .int .i64 0, .int .i64 0, .int .i64 0, .int .i64 0, .int .i64 0, .int .i64 0, .int .i64 0, .int .i64 0, .int .i64 0, .int .i64 0, .int .i64 0, .int .i64 0, .int .i64 0, .int .i64 0, .int .i64 0, .int .i64 0, .int .i64 0, .int .i64 0, .int .i64 0, .int .i64 0, .int .i64 0, .int .i64 0, .int .i64 0, .int .i64 0, .int .i64 0, .int .i64 0, .int .i64 0, .int .i64 0, .int .i64 0, .int .i64 0, .int .i64 0, .int .i64 0, .int .i64 0, .int .i64 0, .int .i64 0, .int .i64 0, .int .i64 0, .int .i64 0, .int .i64 0, .int .i64 0, .int .i64 0, .int .i64 0, .int .i64 0, .int .i64 0, .int .i64 0, .int .i64 0, .int .i64 0, .int .i64 0, .int .i64 0, .int .i64 0, .int .i64 0, .int .i64 0, .int .i64 0, .int .i64 0, .int .i64 0, .int .i64 0, .int .i64 0, .int .i64 0, .int .i64 0, .int .i64 0, .int .i64 0, .int .i64 0, .int .i64 0, .int .i64 0, .int .i64 0, .int .i64 0, .int .i64 0, .int .i64 0, .int .i64 0, .int .i64 0, .int .i64 0, .int .i64 0, .int .i64 0, .int .i64 0, .int .i64 0, .int .i64 0, .int .i64 0, .int .i64 0, .int .i64 0, .int .i64 0, .int .i64 0, .int .i64 0, .int .i64 0, .int .i64 0, .int .i64 0, .int .i64 0, .int .i64 0, .int .i64 0, .int .i64 0, .int .i64 0, .int .i64 0, .int .i64 0, .int .i64 0, .int .i64 0, .int .i64 0, .int .i64 0, .int .i64 0, .int .i64 0, .int .i64 0, .int .i64 0, .int .i64 0, .int .i64 0, .int .i64 0, .int .i64 0, .int .i64 0, .int .i64 0, .int .i64 0, .int .i64 0, .int .i64 0, .int .i64 0, .int .i64 0, .int .i64 0, .int .i64 0, .int .i64 0, .int .i64 0, .int .i64 0, .int .i64 0, .int .i64 0, .int .i64 0, .int .i64 0, .int .i64 0, .int .i64 0, .int .i64 0, .int .i64 0, .int .i64 0, .int .i64 0, .int .i64 0, .int .i64 0, .int .i64 0, .int .i64 0, .int .i64 0, .int .i64 0, .int .i64 0, .int .i64 0, .int .i64 0, .int .i64 0, .int .i64 0, .int .i64 0, .int .i64 0, .int .i64 0, .int .i64 0, .int .i64 0, .int .i64 0, .int .i64 0, .int .i64 0, .int .i64 0, .int .i64 0, .int .i64 0, .int .i64 0, .int .i64 0, .int .i64 0, .int .i64 0, .int .i64 0, .int .i64 0, .int .i64 0, .int .i64 0, .int .i64 0, .int .i64 0, .int .i64 0, .int .i64 0, .int .i64 0, .int .i64 0, .int .i64 0, .int .i64 0, .int .i64 0, .int .i64 0, .int .i64 0, .int .i64 0] [(0, 4, (.t 5)), (4, 441, (.t 6))]), none, none, []⟩,
 ⟨(some 8), .box (.t 7), none, (some 0), []⟩,
 ⟨(some 4), .p (.move (.t 8)), none, none, []⟩])
 (.seq (.region 0 [⟨(some 9), .p (.move (.t 4)), none, none, []⟩,
 ⟨(some 10), .p (.move (.t 4)), none, none, []⟩,
 ⟨(some 11), .call 0 107 [(.t 10)], none, none, []⟩,
 ⟨(some 12), .p (.move (.t 11)), none, none, []⟩,
 ⟨(some 13), .p (.move (.t 4)), (some (12, true)), none, []⟩,
 ⟨(some 14), .call 0 108 [(.t 13)], (some (12, true)), none, []⟩,
 ⟨(some 15), .p (.pick (.t 12) (.t 14) (.c (.bool false))), none, none, []⟩,
 ⟨(some 16), .p (.move (.t 15)), none, none, []⟩,
 ⟨(some 17), .p (.move (.t 4)), (some (16, true)), none, []⟩,
 ⟨(some 18), .call 0 109 [(.t 17)], (some (16, true)), none, []⟩,
 ⟨(some 19), .p (.pick (.t 16) (.t 18) (.c (.bool false))), none, none, []⟩,
 ⟨(some 2), .p (.move (.t 9)), none, none, []⟩,
 ⟨(some 3), .p (.move (.t 19)), none, none, []⟩])
 (.ret)))⟩
/-- almadraba/counts.valid -/
def f91 : AFn := ⟨63, [.tmp 2],
 .seq (.region 0 [⟨(some 1), .box (.t 0), none, none, []⟩,
 ⟨(some 2), .p (.move (.c (.bool false))), none, none, []⟩])
 (.seq (.seq (.region 0 [⟨(some 7), .p (.fieldAddr 0 (.t 1)), none, none, []⟩,
 ⟨(some 8), .load false 1 (.t 7), none, none, []⟩,
 ⟨(some 9), .p (.bin .lss (.t 8) (.c (.int .i64 1))), none, none, []⟩,
 ⟨(some 10), .p (.move (.t 9)), none, none, []⟩,
 ⟨(some 11), .p (.fieldAddr 0 (.t 1)), (some (10, false)), none, []⟩,
 ⟨(some 12), .load false 1 (.t 11), (some (10, false)), none, []⟩,
 ⟨(some 13), .p (.bin .gtr (.t 12) (.c (.int .i64 4))), (some (10, false)), none, []⟩,
 ⟨(some 14), .p (.pick (.t 10) (.c (.bool true)) (.t 13)), none, none, []⟩,
 ⟨(some 15), .p (.move (.t 14)), none, none, []⟩,
 ⟨(some 16), .p (.fieldAddr 1 (.t 1)), (some (15, false)), none, []⟩,
 ⟨(some 17), .load false 1 (.t 16), (some (15, false)), none, []⟩,
 ⟨(some 18), .p (.bin .lss (.t 17) (.c (.int .i64 1))), (some (15, false)), none, []⟩,
 ⟨(some 19), .p (.pick (.t 15) (.c (.bool true)) (.t 18)), none, none, []⟩,
 ⟨(some 20), .p (.move (.t 19)), none, none, []⟩,
 ⟨(some 21), .p (.fieldAddr 1 (.t 1)), (some (20, false)), none, []⟩,
 ⟨(some 22), .load false 1 (.t 21), (some (20, false)), none, []⟩,
 ⟨(some 23), .p (.bin .gtr (.t 22) (.c (.int .i64 5))), (some (20, false)), none, []⟩,
 ⟨(some 24), .p (.pick (.t 20) (.c (.bool true)) (.t 23)), none, none, []⟩])
 (.cond (.t 24) (.seq (.region 0 [⟨(some 2), .p (.move (.c (.bool false))), none, none, []⟩])
 (.ret))
 (.skip)))
 (.seq (.seq (.region 0 [⟨(some 25), .p (.fieldAddr 2 (.t 1)), none, none, []⟩,
 ⟨(some 26), .load false 1 (.t 25), none, none, []⟩,
 ⟨(some 27), .p (.lenS (.t 26)), none, none, []⟩,
 ⟨(some 28), .p (.fieldAddr 1 (.t 1)), none, none, []⟩,
 ⟨(some 29), .load false 1 (.t 28), none, none, []⟩,
 ⟨(some 30), .p (.bin .sub (.t 29) (.c (.int .i64 1))), none, none, []⟩,
 ⟨(some 31), .p (.bin .neq (.t 27) (.t 30)), none, none, []⟩,
 ⟨(some 32), .p (.move (.t 31)), none, none, []⟩,
 ⟨(some 33), .p (.fieldAddr 3 (.t 1)), (some (32, false)), none, []⟩,
 ⟨(some 34), .load false 1 (.t 33), (some (32, false)), none, []⟩,
 ⟨(some 35), .p (.lenS (.t 34)), (some (32, false)), none, []⟩,
 ⟨(some 36), .p (.bin .gtr (.t 35) (.c (.int .i64 8))), (some (32, false)), none, []⟩,
 ⟨(some 37), .p (.pick (.t 32) (.c (.bool true)) (.t 36)), none, none, []⟩])
 (.cond (.t 37) (.seq (.region 0 [⟨(some 2), .p (.move (.c (.bool false))), none, none, []⟩])
 (.ret))
 (.skip)))
 (.seq (.seq (.region 0 [⟨(some 38), .p (.fieldAddr 2 (.t 1)), none, none, []⟩,
 ⟨(some 39), .load false 1 (.t 38), none, none, []⟩,
 ⟨(some 40), .p (.lenS (.t 39)), none, none, []⟩,
 ⟨(some 41), .p (.move (.c (.int .i64 0))), none, none, []⟩])
 (.block 0 (.loop (.seq (.region 0 [⟨(some 42), .p (.bin .lss (.t 41) (.t 40)), none, none, []⟩])
 (.seq (.cond (.t 42) (.skip)
 (.exit 0))
 (.seq (.block 1 (.seq (.region 0 [⟨(some 43), .p (.idxSl 1 (.t 39) (.t 41)), none, none, []⟩,
 ⟨(some 44), .load false 1 (.t 43), none, none, []⟩,
 ⟨(some 4), .p (.move (.t 44)), none, none, []⟩])
 (.seq (.region 0 [⟨(some 45), .p (.move (.t 4)), none, none, []⟩,
 ⟨(some 46), .p (.fieldAddr 0 (.t 1)), none, none, []⟩,
 ⟨(some 47), .load false 1 (.t 46), none, none, []⟩,
 ⟨(some 48), .call 1 110 [(.t 45), (.t 47)], none, none, []⟩,
 ⟨(some 49), .p (.un .not (.t 48)), none, none, []⟩])
 (.cond (.t 49) (.seq (.region 0 [⟨(some 2), .p (.move (.c (.bool false))), none, none, []⟩])
 (.ret))
 (.skip)))))
 (.region 0 [⟨(some 50), .p (.bin .add (.t 41) (.c (.int .i64 1))), none, none, []⟩,
 ⟨(some 41), .p (.move (.t 50)), none, none, []⟩])))))))
 (.seq (.seq (.region 0 [⟨(some 51), .p (.fieldAddr 3 (.t 1)), none, none, []⟩,
 ⟨(some 52), .load false 1 (.t 51), none, none, []⟩,
 ⟨(some 53), .p (.lenS (.t 52)), none, none, []⟩,
 ⟨(some 54), .p (.move (.c (.int .i64 0))), none, none, []⟩])
 (.block 2 (.loop (.seq (.region 0 [⟨(some 55), .p (.bin .lss (.t 54) (.t 53)), none, none, []⟩])
 (.seq (.cond (.t 55) (.skip)
 (.exit 2))
 (.seq (.block 3 (.seq (.region 0 [⟨(some 56), .p (.idxSl 4 (.t 52) (.t 54)), none, none, []⟩,
 ⟨(some 57), .load true 4 (.t 56), none, none, []⟩,
 ⟨(some 6), .alloc [.int .i64 0, .int .i64 0, .int .i64 0, .int .i64 0], none, none, []⟩,
 ⟨none, .store 4 (.t 6) (.t 57), none, none, []⟩])
 (.seq (.region 0 [⟨(some 58), .load true 4 (.t 1), none, none, []⟩,
 ⟨(some 59), .load true 4 (.t 6), none, none, []⟩,
 ⟨(some 60), .call 1 79 [(.t 58), (.t 59)], none, none, []⟩,
 ⟨(some 61), .p (.un .not (.t 60)), none, none, []⟩])
 (.cond (.t 61) (.seq (.region 0 [⟨(some 2), .p (.move (.c (.bool false))), none, none, []⟩])
 (.ret))
 (.skip)))))
 (.region 0 [⟨(some 62), .p (.bin .add (.t 54) (.c (.int .i64 1))), none, none, []⟩,
 ⟨(some 54), .p (.move (.t 62)), none, none, []⟩])))))))
 (.seq (.region 0 [⟨(some 2), .p (.move (.c (.bool true))), none, none, []⟩])
 (.ret))))))⟩
/-- (*almadraba/counts.trap).least -/
def f99 : AFn := ⟨16, [.tmp 6],
 .seq (.region 0 [⟨(some 6), .p (.move (.c (.int .i64 0))), none, none, []⟩])
 (.seq (.region 0 [⟨(some 7), .p (.move (.t 0)), none, none, []⟩,
 ⟨(some 8), .p (.nilCheck (.t 7)), none, none, []⟩,
 ⟨(some 9), .p (.fieldAddr 4 (.t 8)), none, none, []⟩,
 ⟨(some 10), .p (.move (.t 0)), none, none, []⟩,
 ⟨(some 11), .p (.move (.t 1)), none, none, []⟩,
 ⟨(some 12), .p (.move (.t 2)), none, none, []⟩,
 ⟨(some 13), .call 3 76 [(.t 10), (.t 11), (.t 12)], none, none, []⟩,
 ⟨(some 14), .call 3 75 [(.t 9), (.t 13), (.c (.int .i64 0))], none, none, []⟩,
 ⟨(some 15), .p (.field false 0 1 (.t 14)), none, none, []⟩,
 ⟨(some 6), .p (.move (.t 15)), none, none, []⟩])
 (.ret))⟩
/-- almadraba/almadrabaref01.differ -/
def f100 : AFn := ⟨85, [.tmp 14],
 .seq (.region 0 [⟨(some 14), .p (.move (.c (.bool false))), none, none, []⟩])
 (.seq (.region 2 [⟨(some 17), .p (.move (.t 0)), none, none, []⟩,
 ⟨(some 18), .p (.move (.t 1)), none, none, []⟩,
 ⟨(some 19), .p (.idxSl 1 (.t 17) (.t 18)), none, none, []⟩,
 ⟨(some 20), .load false 1 (.t 19), none, none, [0, 1]⟩,
 ⟨(some 21), .p (.move (.t 2)), none, none, []⟩,
 ⟨(some 22), .p (.idxSl 2 (.t 20) (.t 21)), none, none, []⟩,
 ⟨(some 23), .load true 2 (.t 22), none, none, [0, 1]⟩,
 ⟨(some 24), .p (.move (.t 0)), none, none, []⟩,
 ⟨(some 25), .p (.move (.t 3)), none, none, []⟩,
 ⟨(some 26), .p (.idxSl 1 (.t 24) (.t 25)), none, none, []⟩,
 ⟨(some 27), .load false 1 (.t 26), none, none, [0, 1]⟩,
 ⟨(some 28), .p (.move (.t 4)), none, none, []⟩,
 ⟨(some 29), .p (.idxSl 2 (.t 27) (.t 28)), none, none, []⟩,
 ⟨(some 30), .load true 2 (.t 29), none, none, [0, 1]⟩,
 ⟨(some 15), .alloc [.int .i64 0, .int .i64 0], none, (some 0), []⟩,
 ⟨(some 16), .alloc [.int .i64 0, .int .i64 0], none, (some 1), []⟩,
 ⟨none, .store 2 (.t 15) (.t 23), none, (some 0), []⟩,
 ⟨none, .store 2 (.t 16) (.t 30), none, (some 1), []⟩])
 (.seq (.region 0 [⟨(some 31), .p (.move (.t 0)), none, none, []⟩,
 ⟨(some 32), .p (.move (.t 1)), none, none, []⟩,
 ⟨(some 33), .p (.idxSl 1 (.t 31) (.t 32)), none, none, []⟩,
 ⟨(some 34), .load false 1 (.t 33), none, none, []⟩,
 ⟨(some 35), .p (.move (.t 2)), none, none, []⟩,
 ⟨(some 36), .load true 2 (.t 15), none, none, []⟩,
 ⟨(some 37), .p (.fieldAddr 0 (.t 16)), none, none, []⟩,
 ⟨(some 38), .load false 1 (.t 37), none, none, []⟩,
 ⟨(some 39), .p (.move (.t 5)), none, none, []⟩,
 ⟨(some 40), .p (.bin .add (.t 38) (.t 39)), none, none, []⟩,
 ⟨(some 41), .p (.fieldAddr 1 (.t 16)), none, none, []⟩,
 ⟨(some 42), .load false 1 (.t 41), none, none, []⟩,
 ⟨(some 43), .p (.move (.t 6)), none, none, []⟩,
 ⟨(some 44), .p (.bin .add (.t 42) (.t 43)), none, none, []⟩,
 ⟨(some 45), .p (.build [.int .i64 0, .int .i64 0] [(0, 1, (.t 40)), (1, 1, (.t 44))]), none, none, []⟩,
 ⟨(some 46), .call 1 113 [(.t 36), (.t 45)], none, none, []⟩,
 ⟨(some 47), .p (.idxSl 2 (.t 34) (.t 35)), none, none, []⟩,
 ⟨none, .store 2 (.t 47) (.t 46), none, none, []⟩])
 (.seq (.region 0 [⟨(some 48), .p (.move (.t 0)), none, none, []⟩,
 ⟨(some 49), .p (.move (.t 3)), none, none, []⟩,
 ⟨(some 50), .p (.idxSl 1 (.t 48) (.t 49)), none, none, []⟩,
 ⟨(some 51), .load false 1 (.t 50), none, none, []⟩,
 ⟨(some 52), .p (.move (.t 4)), none, none, []⟩,
 ⟨(some 53), .load true 2 (.t 16), none, none, []⟩,
 ⟨(some 54), .p (.fieldAddr 0 (.t 15)), none, none, []⟩,
 ⟨(some 55), .load false 1 (.t 54), none, none, []⟩,
 ⟨(some 56), .p (.move (.t 6)), none, none, []⟩,
 ⟨(some 57), .p (.bin .sub (.t 55) (.t 56)), none, none, []⟩,
 ⟨(some 58), .p (.fieldAddr 1 (.t 15)), none, none, []⟩,
 ⟨(some 59), .load false 1 (.t 58), none, none, []⟩,
 ⟨(some 60), .p (.move (.t 5)), none, none, []⟩,
 ⟨(some 61), .p (.bin .sub (.t 59) (.t 60)), none, none, []⟩,
 ⟨(some 62), .p (.build [.int .i64 0, .int .i64 0] [(0, 1, (.t 57)), (1, 1, (.t 61))]), none, none, []⟩,
 ⟨(some 63), .call 1 113 [(.t 53), (.t 62)], none, none, []⟩,
 ⟨(some 64), .p (.idxSl 2 (.t 51) (.t 52)), none, none, []⟩,
 ⟨none, .store 2 (.t 64) (.t 63), none, none, []⟩])
 (.seq (.region 0 [⟨(some 65), .p (.move (.t 0)), none, none, []⟩,
 ⟨(some 66), .p (.move (.t 1)), none, none, []⟩,
 ⟨(some 67), .p (.idxSl 1 (.t 65) (.t 66)), none, none, []⟩,
 ⟨(some 68), .load false 1 (.t 67), none, none, []⟩,
 ⟨(some 69), .p (.move (.t 2)), none, none, []⟩,
 ⟨(some 70), .p (.idxSl 2 (.t 68) (.t 69)), none, none, []⟩,
 ⟨(some 71), .load true 2 (.t 70), none, none, []⟩,
 ⟨(some 72), .load true 2 (.t 15), none, none, []⟩,
 ⟨(some 73), .p (.eqS true [true, true] (.t 71) (.t 72)), none, none, []⟩,
 ⟨(some 74), .p (.move (.t 73)), none, none, []⟩,
 ⟨(some 75), .p (.move (.t 0)), (some (74, false)), none, []⟩,
 ⟨(some 76), .p (.move (.t 3)), (some (74, false)), none, []⟩,
 ⟨(some 77), .p (.idxSl 1 (.t 75) (.t 76)), (some (74, false)), none, []⟩,
 ⟨(some 78), .load false 1 (.t 77), (some (74, false)), none, []⟩,
 ⟨(some 79), .p (.move (.t 4)), (some (74, false)), none, []⟩,
 ⟨(some 80), .p (.idxSl 2 (.t 78) (.t 79)), (some (74, false)), none, []⟩,
 ⟨(some 81), .load true 2 (.t 80), (some (74, false)), none, []⟩,
 ⟨(some 82), .load true 2 (.t 16), (some (74, false)), none, []⟩,
 ⟨(some 83), .p (.eqS true [true, true] (.t 81) (.t 82)), (some (74, false)), none, []⟩,
 ⟨(some 84), .p (.pick (.t 74) (.c (.bool true)) (.t 83)), none, none, []⟩,
 ⟨(some 14), .p (.move (.t 84)), none, none, []⟩])
 (.ret)))))⟩
/-- (*almadraba/counts.trap).say -/
def f101 : AFn := ⟨25, [.tmp 6],
 .seq (.region 0 [⟨(some 4), .box (.t 1), none, none, []⟩,
 ⟨(some 5), .box (.t 2), none, none, []⟩,
 ⟨(some 6), .p (.move (.c (.bool false))), none, none, []⟩])
 (.seq (.region 0 [⟨(some 7), .p (.move (.t 0)), none, none, []⟩,
 ⟨(some 8), .p (.nilCheck (.t 7)), none, none, []⟩,
 ⟨(some 9), .p (.fieldAddr 4 (.t 8)), none, none, []⟩,
 ⟨(some 10), .p (.move (.t 0)), none, none, []⟩,
 ⟨(some 11), .p (.fieldAddr 0 (.t 4)), none, none, []⟩,
 ⟨(some 12), .load false 1 (.t 11), none, none, []⟩,
 ⟨(some 13), .p (.fieldAddr 1 (.t 4)), none, none, []⟩,
 ⟨(some 14), .load false 1 (.t 13), none, none, []⟩,
 ⟨(some 15), .call 3 76 [(.t 10), (.t 12), (.t 14)], none, none, []⟩,
 ⟨(some 16), .p (.move (.t 0)), none, none, []⟩,
 ⟨(some 17), .p (.fieldAddr 0 (.t 4)), none, none, []⟩,
 ⟨(some 18), .load false 1 (.t 17), none, none, []⟩,
 ⟨(some 19), .p (.fieldAddr 1 (.t 4)), none, none, []⟩,
 ⟨(some 20), .load false 1 (.t 19), none, none, []⟩,
 ⟨(some 21), .p (.bin .add (.t 20) (.c (.int .i64 1))), none, none, []⟩,
 ⟨(some 22), .call 3 76 [(.t 16), (.t 18), (.t 21)], none, none, []⟩,
 ⟨(some 23), .load true 2 (.t 5), none, none, []⟩,
 ⟨(some 24), .call 0 114 [(.t 9), (.t 15), (.t 22), (.t 23)], none, none, []⟩,
 ⟨(some 6), .p (.move (.t 24)), none, none, []⟩])
 (.ret))⟩
/-- (*almadraba/counts.trap).doubt -/
def f102 : AFn := ⟨13, [.tmp 2],
 .seq (.region 0 [⟨(some 2), .p (.move (.c (.int .i64 0))), none, none, []⟩])
 (.seq (.region 0 [⟨(some 4), .p (.move (.t 0)), none, none, []⟩,
 ⟨(some 5), .p (.move (.t 0)), none, none, []⟩,
 ⟨(some 6), .call 3 103 [(.t 5)], none, none, []⟩,
 ⟨(some 7), .call 3 82 [(.t 4), (.t 6)], none, none, []⟩,
 ⟨(some 3), .alloc [.int .i64 0, .int .i64 0], none, none, []⟩,
 ⟨none, .store 2 (.t 3) (.t 7), none, none, []⟩])
 (.seq (.region 0 [⟨(some 8), .p (.fieldAddr 1 (.t 3)), none, none, []⟩,
 ⟨(some 9), .load false 1 (.t 8), none, none, []⟩,
 ⟨(some 10), .p (.fieldAddr 0 (.t 3)), none, none, []⟩,
 ⟨(some 11), .load false 1 (.t 10), none, none, []⟩,
 ⟨(some 12), .p (.bin .sub (.t 9) (.t 11)), none, none, []⟩,
 ⟨(some 2), .p (.move (.t 12)), none, none, []⟩])
 (.ret)))⟩
/-- (*almadraba/counts.trap).last -/
def f103 : AFn := ⟨16, [.cell true 2 2],
 .seq (.region 0 [⟨(some 2), .alloc [.int .i64 0, .int .i64 0], none, none, []⟩])
 (.seq (.region 0 [⟨(some 3), .p (.move (.t 0)), none, none, []⟩,
 ⟨(some 4), .p (.nilCheck (.t 3)), none, none, []⟩,
 ⟨(some 5), .p (.fieldAddr 0 (.t 4)), none, none, []⟩,
 ⟨(some 6), .p (.fieldAddr 1 (.t 5)), none, none, []⟩,
 ⟨(some 7), .load false 1 (.t 6), none, none, []⟩,
 ⟨(some 8), .p (.bin .sub (.t 7) (.c (.int .i64 1))), none, none, []⟩,
 ⟨(some 9), .p (.move (.t 0)), none, none, []⟩,
 ⟨(some 10), .p (.nilCheck (.t 9)), none, none, []⟩,
 ⟨(some 11), .p (.fieldAddr 0 (.t 10)), none, none, []⟩,
 ⟨(some 12), .p (.fieldAddr 0 (.t 11)), none, none, []⟩,
 ⟨(some 13), .load false 1 (.t 12), none, none, []⟩,
 ⟨(some 14), .p (.bin .sub (.t 13) (.c (.int .i64 1))), none, none, []⟩,
 ⟨(some 15), .p (.build [.int .i64 0, .int .i64 0] [(0, 1, (.t 8)), (1, 1, (.t 14))]), none, none, []⟩,
 ⟨none, .store 2 (.t 2) (.t 15), none, none, []⟩])
 (.ret))⟩
/-- (*almadraba/counts.trap).places -/
def f104 : AFn := ⟨30, [],
 .seq (.region 0 [⟨(some 6), .p (.move (.t 0)), none, none, []⟩,
 ⟨(some 7), .p (.nilCheck (.t 6)), none, none, []⟩,
 ⟨(some 8), .p (.fieldAddr 0 (.t 7)), none, none, []⟩,
 ⟨(some 9), .p (.fieldAddr 1 (.t 8)), none, none, []⟩,
 ⟨(some 10), .load false 1 (.t 9), none, none, []⟩,
 ⟨(some 11), .p (.move (.c (.int .i64 0))), none, none, []⟩])
 (.block 0 (.loop (.seq (.region 0 [⟨(some 12), .p (.bin .lss (.t 11) (.t 10)), none, none, []⟩])
 (.seq (.cond (.t 12) (.skip)
 (.exit 0))
 (.seq (.block 1 (.seq (.region 0 [⟨(some 13), .p (.move (.t 11)), none, none, []⟩,
 ⟨(some 4), .p (.move (.t 13)), none, none, []⟩])
 (.seq (.region 0 [⟨(some 14), .p (.move (.t 0)), none, none, []⟩,
 ⟨(some 15), .p (.nilCheck (.t 14)), none, none, []⟩,
 ⟨(some 16), .p (.fieldAddr 0 (.t 15)), none, none, []⟩,
 ⟨(some 17), .p (.fieldAddr 0 (.t 16)), none, none, []⟩,
 ⟨(some 18), .load false 1 (.t 17), none, none, []⟩,
 ⟨(some 19), .p (.move (.c (.int .i64 0))), none, none, []⟩])
 (.block 2 (.loop (.seq (.region 0 [⟨(some 20), .p (.bin .lss (.t 19) (.t 18)), none, none, []⟩])
 (.seq (.cond (.t 20) (.skip)
 (.exit 2))
 (.seq (.block 3 (.seq (.region 0 [⟨(some 21), .p (.move (.t 19)), none, none, []⟩,
 ⟨(some 5), .p (.move (.t 21)), none, none, []⟩])
 (.seq (.region 0 [⟨(some 22), .p (.move (.t 1)), none, none, []⟩,
 ⟨(some 23), .p (.move (.t 4)), none, none, []⟩,
 ⟨(some 24), .p (.move (.t 5)), none, none, []⟩,
 ⟨(some 25), .p (.build [.int .i64 0, .int .i64 0] [(0, 1, (.t 23)), (1, 1, (.t 24))]), none, none, []⟩,
 ⟨(some 26), .callv false (.t 22) [(.t 25)], none, none, []⟩,
 ⟨(some 27), .p (.un .not (.t 26)), none, none, []⟩])
 (.cond (.t 27) (.ret)
 (.skip)))))
 (.region 0 [⟨(some 28), .p (.bin .add (.t 19) (.c (.int .i64 1))), none, none, []⟩,
 ⟨(some 19), .p (.move (.t 28)), none, none, []⟩])))))))))
 (.region 0 [⟨(some 29), .p (.bin .add (.t 11) (.c (.int .i64 1))), none, none, []⟩,
 ⟨(some 11), .p (.move (.t 29)), none, none, []⟩]))))))⟩
/-- almadraba/counts.widest -/
def f106 : AFn := ⟨24, [.cell true 441 0],
 .seq (.region 0 [⟨(some 0), .alloc [.int .i64 0, .int .i64 0, .int .i64 0, .int .i64 0, .int .i64 0, .int .i64 0, .int .i64 0, .int .i64 0, .int .i64 0, .int .i64 0, .int .i64 0, .int .i64 0, .int .i64 0, .int .i64 0, .int .i64 0, .int .i64 0, .int .i64 0, .int .i64 0, .int .i64 0, .int .i64 0, .int .i64 0, .int .i64 0, .int .i64 0, .int .i64 0, .int .i64 0, .int .i64 0, .int .i64 0, .int .i64 0, .int .i64 0, .int .i64 0, .int .i64 0, .int .i64 0, .int .i64 0, .int .i64 0, .int .i64 0, .int .i64 0, .int .i64 0, .int .i64 0, .int .i64 0, .int .i64 0, .int .i64 0, .int .i64 0, .int .i64 0, .int .i64 0, .int .i64 0, .int .i64 0, .int .i64 0, .int .i64 0, .int .i64 0, .int .i64 0, .int .i64 0, .int .i64 0, .int .i64 0, .int .i64 0, .int .i64 0, .int .i64 0, .int .i64 0, .int .i64 0, .int .i64 0, .int .i64 0, .int .i64 0, .int .i64 0, .int .i64 0, .int .i64 0, .int .i64 0, .int .i64 0, .int .i64 0, .int .i64 0, .int .i64 0, .int .i64 0, .int .i64 0, .int .i64 0, .int .i64 0, .int .i64 0, .int .i64 0, .int .i64 0, .int .i64 0, .int .i64 0, .int .i64 0, .int .i64 0, .int .i64 0, .int .i64 0, .int .i64 0, .int .i64 0, .int .i64 0, .int .i64 0, .int .i64 0, .int .i64 0, .int .i64 0, .int .i64 0, .int .i64 0, .int .i64 0, .int .i64 0, .int .i64 0, .int .i64 0, .int .i64 0, .int .i64 0, .int .i64 0, .int .i64 0, .int .i64 0, .int .i64 0, .int .i64 0, .int .i64 0, .int .i64 0, .int .i64 0, .int .i64 0, .int .i64 0, .int .i64 0, .int .i64 0, .int .i64 0, .int .i64 0, .int .i64 0, .int .i64 0, .int .i64 0, .int .i64 0, .int .i64 0, .int .i64 0, .int .i64 0, .int .i64 0, .int .i64 0, .int .i64 0, .int .i64 0, .int .i64 0, .int .i64 0, .int .i64 0, .int .i64 0, .int .i64 0, .int .i64 0, .int .i64 0, .int .i64 0, .int .i64 0, .int .i64 0, .int .i64 0, .int .i64 0, .int .i64 0, .int .i64 0, .int .i64 0, .int .i64 0, .int .i64 0, .int .i64 0, .int .i64 0, .int .i64 0, .int .i64 0, .int .i64 0, .int .i64 0, .int .i64 0, .int .i64 0, .int .i64 0, .int .i64 0, .int .i64 0, .int .i64 0, .int .i64 0, .int .i64 0, .int .i64 0, .int .i64 0, .int .i64 0, .int .i64 0, .int .i64 0, .int .i64 0, .int .i64 0, .int .i64 0, .int .i64 0, .int .i64 0, .int .i64 0, .int .i64 0, .int .i64 0, .int .i64 0, .int .i64 0, .int .i64 0, .int .i64 0, .int .i64 0, .int .i64 0, .int .i64 0, .int .i64 0, .int .i64 0, .int .i64 0, .int .i64 0, .int .i64 0, .int .i64 0, .int .i64 0, .int .i64 0, .int .i64 0, .int .i64 0, .int .i64 0, .int .i64 0, .int .i64 0, .int .i64 0, .int .i64 0, .int .i64 0, .int .i64 0, .int .i64 0, .int .i64 0, .int .i64 0, .int .i64 0, .int .i64 0, .int .i64 0, .int .i64 0, .int .i64 0, .int .i64 0, .int .i64 0, .int .i64 0, .int .i64 0, .int .i64 0, .int .i64 0, .int .i64 0, .int .i64 0, .int .i64 0, .int .i64 0, .int .i64 0, .int .i64 0, .int .i64 0, .int .i64 0, .int .i64 0, .int .i64 0, .int .i64 0, .int .i64 0, .int .i64 0, .int .i64 0, .int .i64 0, .int .i64 0, .int .i64 0, .int .i64 0, .int .i64 0, .int .i64 0, .int .i64 0, .int .i64 0, .int .i64 0, .int .i64 0, .int .i64 0, .int .i64 0, .int .i64 0, .int .i64 0, .int .i64 0, .int .i64 0, .int .i64 0, .int .i64 0, .int .i64 0, .int .i64 0, .int .i64 0, .int .i64 0, .int .i64 0, .int .i64 0, .int .i64 0, .int .i64 0, .int .i64 0, .int .i64 0, .int .i64 0, .int .i64 0, .int .i64 0, .int .i64 0, .int .i64 0, .int .i64 0, .int .i64 0, .int .i64 0, .int .i64 0, .int .i64 0, .int .i64 0, .int .i64 0, .int .i64 0, .int .i64 0, .int .i64 0, .int .i64 0, .int .i64 0, .int .i64 0, .int .i64 0, .int .i64 0, .int .i64 0, .int .i64 0, .int .i64 0, .int .i64 0, .int .i64 0, .int .i64 0, .int .i64 0, .int .i64 0, .int .i64 0, .int .i64 0, .int .i64 0, .int .i64 0, .int .i64 0, .int .i64 0, .int .i64 0, .int .i64 0, .int .i64 0, .int .i64 0, .int .i64 0, .int .i64 0, .int .i64 0, .int .i64 0, .int .i64 0, .int .i64 0, .int .i64 0, .int .i64 0, .int .i64 0, .int .i64 0, .int .i64 0, .int .i64 0, .int .i64 0, .int .i64 0, .int .i64 0, .int .i64 0, .int .i64 0, .int .i64 0, .int .i64 0, .int .i64 0, .int .i64 0, .int .i64 0, .int .i64 0, .int .i64 0, .int .i64 0, .int .i64 0, .int .i64 0, .int .i64 0, .int .i64 0, .int .i64 0, .int .i64 0, .int .i64 0, .int .i64 0, .int .i64 0, .int .i64 0, .int .i64 0, .int .i64 0, .int .i64 0, .int .i64 0, .int .i64 0, .int .i64 0, .int .i64 0, .int .i64 0, .int .i64 0, .int .i64 0, .int .i64 0, .int .i64 0, .int .i64 0, .int .i64 0, .int .i64 0, .int .i64 0, .int .i64 0, .int .i64 0, .int .i64 0, .int .i64 0, .int .i64 0, .int .i64 0, .int .i64 0, .int .i64 0, .int .i64 0, .int .i64 0, .int .i64 0, .int .i64 0, .int .i64 0, .int .i64 0, .int .i64 0, .int .i64 0, .int .i64 0, .int .i64 0, .int .i64 0, .int .i64 0, .int .i64 0, .int .i64 0, .int .i64 0, .int .i64 0, .int .i64 0, .int .i64 0, .int .i64 0, .int .i64 0, .int .i64 0, .int .i64 0, .int .i64 0, .int .i64 0, .int .i64 0, .int .i64 0, .int .i64 0, .int .i64 0, .int .i64 0, .int .i64 0, .int .i64 0, .int .i64 0, .int .i64 0, .int .i64 0, .int .i64 0, .int .i64 0, .int .i64 0, .int .i64 0, .int .i64 0, .int .i64 0, .int .i64 0, .int .i64 0, .int .i64 0, .int .i64 0, .int .i64 0, .int .i64 0, .int .i64 0, .int .i64 0, .int .i64 0, .int .i64 0, .int .i64 0, .int .i64 0, .int .i64 0, .int .i64 0, .int .i64 0, .int .i64 0, .int .i64 0, .int .i64 0, .int .i64 0, .int .i64 0, .int .i64 0, .int .i64 0, .int .i64 0, .int .i64 0, .int .i64 0, .int .i64 0, .int .i64 0, .int .i64 0, .int .i64 0, .int .i64 0, .int .i64 0, .int .i64 0, .int .i64 0, .int .i64 0, .int .i64 0, .int .i64 0, .int .i64 0, .int .i64 0, .int .i64 0, .int .i64 0, .int .i64 0, .int .i64 0, .int .i64 0, .int .i64 0, .int .i64 0, .int .i64 0, .int .i64 0, .int .i64 0, .int .i64 0, .int .i64 0, .int .i64 0, .int .i64 0, .int .i64 0, .int .i64 0, .int .i64 0, .int .i64 0, .int .i64 0, .int .i64 0], none, none, []⟩])
 (.seq (.region 0 [⟨(some 1), .alloc [.int .i64 0, .int .i64 0, .int .i64 0, .int .i64 0, .int .i64 0, .int .i64 0, .int .i64 0, .int .i64 0, .int .i64 0, .int .i64 0, .int .i64 0, .int .i64 0, .int .i64 0, .int .i64 0, .int .i64 0, .int .i64 0, .int .i64 0, .int .i64 0, .int .i64 0, .int .i64 0, .int .i64 0, .int .i64 0, .int .i64 0, .int .i64 0, .int .i64 0, .int .i64 0, .int .i64 0, .int .i64 0, .int .i64 0, .int .i64 0, .int .i64 0, .int .i64 0, .int .i64 0, .int .i64 0, .int .i64 0, .int .i64 0, .int .i64 0, .int .i64 0, .int .i64 0, .int .i64 0, .int .i64 0, .int .i64 0, .int .i64 0, .int .i64 0, .int .i64 0, .int .i64 0, .int .i64 0, .int .i64 0, .int .i64 0, .int .i64 0, .int .i64 0, .int .i64 0, .int .i64 0, .int .i64 0, .int .i64 0, .int .i64 0, .int .i64 0, .int .i64 0, .int .i64 0, .int .i64 0, .int .i64 0, .int .i64 0, .int .i64 0, .int .i64 0, .int .i64 0, .int .i64 0, .int .i64 0, .int .i64 0, .int .i64 0, .int .i64 0, .int .i64 0, .int .i64 0, .int .i64 0, .int .i64 0, .int .i64 0, .int .i64 0, .int .i64 0, .int .i64 0, .int .i64 0, .int .i64 0, .int .i64 0, .int .i64 0, .int .i64 0, .int .i64 0, .int .i64 0, .int .i64 0, .int .i64 0, .int .i64 0, .int .i64 0, .int .i64 0, .int .i64 0, .int .i64 0, .int .i64 0, .int .i64 0, .int .i64 0, .int .i64 0, .int .i64 0, .int .i64 0, .int .i64 0, .int .i64 0, .int .i64 0, .int .i64 0, .int .i64 0, .int .i64 0, .int .i64 0, .int .i64 0, .int .i64 0, .int .i64 0, .int .i64 0, .int .i64 0, .int .i64 0, .int .i64 0, .int .i64 0, .int .i64 0, .int .i64 0, .int .i64 0, .int .i64 0, .int .i64 0, .int .i64 0, .int .i64 0, .int .i64 0, .int .i64 0, .int .i64 0, .int .i64 0, .int .i64 0, .int .i64 0, .int .i64 0, .int .i64 0, .int .i64 0, .int .i64 0, .int .i64 0, .int .i64 0, .int .i64 0, .int .i64 0, .int .i64 0, .int .i64 0, .int .i64 0, .int .i64 0, .int .i64 0, .int .i64 0, .int .i64 0, .int .i64 0, .int .i64 0, .int .i64 0, .int .i64 0, .int .i64 0, .int .i64 0, .int .i64 0, .int .i64 0, .int .i64 0, .int .i64 0, .int .i64 0, .int .i64 0, .int .i64 0, .int .i64 0, .int .i64 0, .int .i64 0, .int .i64 0, .int .i64 0, .int .i64 0, .int .i64 0, .int .i64 0, .int .i64 0, .int .i64 0, .int .i64 0, .int .i64 0, .int .i64 0, .int .i64 0, .int .i64 0, .int .i64 0, .int .i64 0, .int .i64 0, .int .i64 0, .int .i64 0, .int .i64 0, .int .i64 0, .int .i64 0, .int .i64 0, .int .i64 0, .int .i64 0, .int .i64 0, .int .i64 0, .int .i64 0, .int .i64 0, .int .i64 0, .int .i64 0, .int .i64 0, .int .i64 0, .int .i64 0, .int .i64 0, .int .i64 0, .int .i64 0, .int .i64 0, .int .i64 0, .int .i64 0, .int .i64 0, .int .i64 0, .int .i64 0, .int .i64 0, .int .i64 0, .int .i64 0, .int .i64 0, .int .i64 0, .int .i64 0, .int .i64 0, .int .i64 0, .int .i64 0, .int .i64 0, .int .i64 0, .int .i64 0, .int .i64 0, .int .i64 0, .int .i64 0, .int .i64 0, .int .i64 0, .int .i64 0, .int .i64 0, .int .i64 0, .int .i64 0, .int .i64 0, .int .i64 0, .int .i64 0, .int .i64 0, .int .i64 0, .int .i64 0, .int .i64 0, .int .i64 0, .int .i64 0, .int .i64 0, .int .i64 0, .int .i64 0, .int .i64 0, .int .i64 0, .int .i64 0, .int .i64 0, .int .i64 0, .int .i64 0, .int .i64 0, .int .i64 0, .int .i64 0, .int .i64 0, .int .i64 0, .int .i64 0, .int .i64 0, .int .i64 0, .int .i64 0, .int .i64 0, .int .i64 0, .int .i64 0, .int .i64 0, .int .i64 0, .int .i64 0, .int .i64 0, .int .i64 0, .int .i64 0, .int .i64 0, .int .i64 0, .int .i64 0, .int .i64 0, .int .i64 0, .int .i64 0, .int .i64 0, .int .i64 0, .int .i64 0, .int .i64 0, .int .i64 0, .int .i64 0, .int .i64 0, .int .i64 0, .int .i64 0, .int .i64 0, .int .i64 0, .int .i64 0, .int .i64 0, .int .i64 0, .int .i64 0, .int .i64 0, .int .i64 0, .int .i64 0, .int .i64 0, .int .i64 0, .int .i64 0, .int .i64 0, .int .i64 0, .int .i64 0, .int .i64 0, .int .i64 0, .int .i64 0, .int .i64 0, .int .i64 0, .int .i64 0, .int .i64 0, .int .i64 0, .int .i64 0, .int .i64 0, .int .i64 0, .int .i64 0, .int .i64 0, .int .i64 0, .int .i64 0, .int .i64 0, .int .i64 0, .int .i64 0, .int .i64 0, .int .i64 0, .int .i64 0, .int .i64 0, .int .i64 0, .int .i64 0, .int .i64 0, .int .i64 0, .int .i64 0, .int .i64 0, .int .i64 0, .int .i64 0, .int .i64 0, .int .i64 0, .int .i64 0, .int .i64 0, .int .i64 0, .int .i64 0, .int .i64 0, .int .i64 0, .int .i64 0, .int .i64 0, .int .i64 0, .int .i64 0, .int .i64 0, .int .i64 0, .int .i64 0, .int .i64 0, .int .i64 0, .int .i64 0, .int .i64 0, .int .i64 0, .int .i64 0, .int .i64 0, .int .i64 0, .int .i64 0, .int .i64 0, .int .i64 0, .int .i64 0, .int .i64 0, .int .i64 0, .int .i64 0, .int .i64 0, .int .i64 0, .int .i64 0, .int .i64 0, .int .i64 0, .int .i64 0, .int .i64 0, .int .i64 0, .int .i64 0, .int .i64 0, .int .i64 0, .int .i64 0, .int .i64 0, .int .i64 0, .int .i64 0, .int .i64 0, .int .i64 0, .int .i64 0, .int .i64 0, .int .i64 0, .int .i64 0, .int .i64 0, .int .i64 0, .int .i64 0, .int .i64 0, .int .i64 0, .int .i64 0, .int .i64 0, .int .i64 0, .int .i64 0, .int .i64 0, .int .i64 0, .int .i64 0, .int .i64 0, .int .i64 0, .int .i64 0, .int .i64 0, .int .i64 0, .int .i64 0, .int .i64 0, .int .i64 0, .int .i64 0, .int .i64 0, .int .i64 0, .int .i64 0, .int .i64 0, .int .i64 0, .int .i64 0, .int .i64 0, .int .i64 0, .int .i64 0, .int .i64 0, .int .i64 0, .int .i64 0, .int .i64 0, .int .i64 0, .int .i64 0, .int .i64 0, .int .i64 0, .int .i64 0, .int .i64 0, .int .i64 0, .int .i64 0, .int .i64 0, .int .i64 0, .int .i64 0, .int .i64 0, .int .i64 0, .int .i64 0, .int .i64 0, .int .i64 0, .int .i64 0, .int .i64 0, .int .i64 0, .int .i64 0, .int .i64 0, .int .i64 0, .int .i64 0, .int .i64 0, .int .i64 0, .int .i64 0, .int .i64 0, .int .i64 0, .int .i64 0, .int .i64 0, .int .i64 0, .int .i64 0, .int .i64 0, .int .i64 0, .int .i64 0, .int .i64 0, .int .i64 0, .int .i64 0, .int .i64 0, .int .i64 0, .int .i64 0], none, none, []⟩])
 (.seq (.seq (.region 0 [⟨(some 4), .p (.move (.c (.int .i64 0))), none, none, []⟩])
 (.block 0 (.loop (.seq (.region 0 [⟨(some 5), .p (.bin .lss (.t 4) (.c (.int .i64 21))), none, none, []⟩])
 (.seq (.cond (.t 5) (.skip)
 (.exit 0))
 (.seq (.block 1 (.seq (.region 0 [⟨(some 6), .p (.move (.t 4)), none, none, []⟩,
 ⟨(some 2), .p (.move (.t 6)), none, none, []⟩])
 (.seq (.region 0 [⟨(some 7), .p (.move (.c (.int .i64 0))), none, none, []⟩])
 (.block 2 (.loop (.seq (.region 0 [⟨(some 8), .p (.bin .lss (.t 7) (.c (.int .i64 21))), none, none, []⟩])
 (.seq (.cond (.t 8) (.skip)
 (.exit 2))
 (.seq (.block 3 (.seq (.region 0 [⟨(some 9), .p (.move (.t 7)), none, none, []⟩,
 ⟨(some 3), .p (.move (.t 9)), none, none, []⟩])
 (.seq (.region 0 [⟨(some 10), .p (.move (.t 2)), none, none, []⟩,
 ⟨(some 11), .p (.move (.t 3)), none, none, []⟩,
 ⟨(some 12), .p (.bin .neq (.t 10) (.t 11)), none, none, []⟩,
 ⟨(some 13), .p (.move (.t 12)), none, none, []⟩,
 ⟨(some 14), .p (.move (.t 2)), (some (13, true)), none, []⟩,
 ⟨(some 15), .p (.bin .neq (.t 14) (.c (.int .i64 0))), (some (13, true)), none, []⟩,
 ⟨(some 16), .p (.pick (.t 13) (.t 15) (.c (.bool false))), none, none, []⟩])
 (.cond (.t 16) (.region 0 [⟨(some 17), .p (.move (.t 2)), none, none, []⟩,
 ⟨(some 18), .p (.move (.t 3)), none, none, []⟩,
 ⟨(some 19), .p (.idxArr 21 21 (.t 1) (.t 17)), none, none, []⟩,
 ⟨(some 20), .p (.idxArr 21 1 (.t 19) (.t 18)), none, none, []⟩,
 ⟨none, .store 1 (.t 20) (.c (.int .i64 40)), none, none, []⟩])
 (.skip)))))
 (.region 0 [⟨(some 21), .p (.bin .add (.t 7) (.c (.int .i64 1))), none, none, []⟩,
 ⟨(some 7), .p (.move (.t 21)), none, none, []⟩])))))))))
 (.region 0 [⟨(some 22), .p (.bin .add (.t 4) (.c (.int .i64 1))), none, none, []⟩,
 ⟨(some 4), .p (.move (.t 22)), none, none, []⟩])))))))
 (.seq (.region 0 [⟨(some 23), .load true 441 (.t 1), none, none, []⟩,
 ⟨none, .store 441 (.t 0) (.t 23), none, none, []⟩])
 (.ret))))⟩
/-- (*almadraba/counts.trap).fill -/
def f107 : AFn := ⟨12, [.cell false 1 2],
 .seq (.region 0 [⟨(some 1), .box (.t 0), none, none, []⟩,
 ⟨(some 2), .alloc [.bool false], none, none, []⟩])
 (.seq (.seq (.region 0 [⟨(some 4), .load false 1 (.t 1), none, none, []⟩,
 ⟨(some 5), .p (.mkFn 104 [(.t 4)] []), none, none, []⟩])
 (.block 0 (.rangeFunc (.t 5) [6] (.region 0 [⟨(some 3), .alloc [.int .i64 0, .int .i64 0], none, none, []⟩,
 ⟨none, .store 2 (.t 3) (.t 6), none, none, []⟩])
 (.block 1 (.seq (.region 0 [⟨(some 7), .load false 1 (.t 1), none, none, []⟩,
 ⟨(some 8), .load true 2 (.t 3), none, none, []⟩,
 ⟨(some 9), .p (.build [.int .i64 0, .int .i64 0] [(1, 1, (.c (.int .i64 40)))]), none, none, []⟩,
 ⟨(some 10), .call 0 101 [(.t 7), (.t 8), (.t 9)], none, none, []⟩,
 ⟨(some 11), .p (.un .not (.t 10)), none, none, []⟩])
 (.cond (.t 11) (.seq (.region 0 [⟨none, .store 1 (.t 2) (.c (.bool false)), none, none, []⟩])
 (.ret))
 (.skip)))))))
 (.seq (.region 0 [⟨none, .store 1 (.t 2) (.c (.bool true)), none, none, []⟩])
 (.ret)))⟩
/-- (*almadraba/counts.trap).move -/
def f108 : AFn := ⟨48, [.tmp 2],
 .seq (.region 0 [⟨(some 2), .p (.move (.c (.bool false))), none, none, []⟩])
 (.seq (.seq (.region 0 [⟨(some 7), .p (.move (.t 0)), none, none, []⟩,
 ⟨(some 8), .p (.nilCheck (.t 7)), none, none, []⟩,
 ⟨(some 9), .p (.fieldAddr 0 (.t 8)), none, none, []⟩,
 ⟨(some 10), .p (.fieldAddr 2 (.t 9)), none, none, []⟩,
 ⟨(some 11), .load false 1 (.t 10), none, none, []⟩,
 ⟨(some 12), .p (.lenS (.t 11)), none, none, []⟩,
 ⟨(some 13), .p (.move (.c (.int .i64 0))), none, none, []⟩])
 (.block 0 (.loop (.seq (.region 0 [⟨(some 14), .p (.bin .lss (.t 13) (.t 12)), none, none, []⟩])
 (.seq (.cond (.t 14) (.skip)
 (.exit 0))
 (.seq (.block 1 (.seq (.region 0 [⟨(some 15), .p (.move (.t 13)), none, none, []⟩,
 ⟨(some 16), .p (.idxSl 1 (.t 11) (.t 13)), none, none, []⟩,
 ⟨(some 17), .load false 1 (.t 16), none, none, []⟩,
 ⟨(some 3), .p (.move (.t 15)), none, none, []⟩,
 ⟨(some 4), .p (.move (.t 17)), none, none, []⟩])
 (.seq (.region 0 [⟨(some 18), .p (.move (.t 0)), none, none, []⟩,
 ⟨(some 19), .p (.nilCheck (.t 18)), none, none, []⟩,
 ⟨(some 20), .p (.fieldAddr 0 (.t 19)), none, none, []⟩,
 ⟨(some 21), .p (.fieldAddr 0 (.t 20)), none, none, []⟩,
 ⟨(some 22), .load false 1 (.t 21), none, none, []⟩,
 ⟨(some 23), .p (.move (.c (.int .i64 0))), none, none, []⟩])
 (.block 2 (.loop (.seq (.region 0 [⟨(some 24), .p (.bin .lss (.t 23) (.t 22)), none, none, []⟩])
 (.seq (.cond (.t 24) (.skip)
 (.exit 2))
 (.seq (.block 3 (.seq (.region 0 [⟨(some 25), .p (.move (.t 23)), none, none, []⟩,
 ⟨(some 5), .p (.move (.t 25)), none, none, []⟩])
 (.seq (.region 0 [⟨(some 26), .p (.build [.int .i64 0, .int .i64 0] []), none, none, []⟩,
 ⟨(some 6), .alloc [.int .i64 0, .int .i64 0], none, none, []⟩,
 ⟨none, .store 2 (.t 6) (.t 26), none, none, []⟩])
 (.seq (.seq (.region 0 [⟨(some 27), .p (.move (.t 4)), none, none, []⟩,
 ⟨(some 28), .p (.move (.t 5)), none, none, []⟩,
 ⟨(some 29), .call 1 112 [(.t 27), (.t 28)], none, none, []⟩])
 (.cond (.t 29) (.region 0 [⟨(some 30), .p (.fieldAddr 1 (.t 6)), none, none, []⟩,
 ⟨none, .store 1 (.t 30) (.c (.int .i64 40)), none, none, []⟩])
 (.skip)))
 (.seq (.region 0 [⟨(some 31), .p (.move (.t 0)), none, none, []⟩,
 ⟨(some 32), .p (.nilCheck (.t 31)), none, none, []⟩,
 ⟨(some 33), .p (.fieldAddr 4 (.t 32)), none, none, []⟩,
 ⟨(some 34), .p (.move (.t 0)), none, none, []⟩,
 ⟨(some 35), .p (.move (.t 3)), none, none, []⟩,
 ⟨(some 36), .p (.bin .add (.t 35) (.c (.int .i64 1))), none, none, []⟩,
 ⟨(some 37), .p (.move (.t 5)), none, none, []⟩,
 ⟨(some 38), .call 3 76 [(.t 34), (.t 36), (.t 37)], none, none, []⟩,
 ⟨(some 39), .p (.move (.t 0)), none, none, []⟩,
 ⟨(some 40), .p (.move (.t 3)), none, none, []⟩,
 ⟨(some 41), .p (.move (.t 5)), none, none, []⟩,
 ⟨(some 42), .call 3 76 [(.t 39), (.t 40), (.t 41)], none, none, []⟩,
 ⟨(some 43), .load true 2 (.t 6), none, none, []⟩,
 ⟨(some 44), .call 0 114 [(.t 33), (.t 38), (.t 42), (.t 43)], none, none, []⟩,
 ⟨(some 45), .p (.un .not (.t 44)), none, none, []⟩])
 (.cond (.t 45) (.seq (.region 0 [⟨(some 2), .p (.move (.c (.bool false))), none, none, []⟩])
 (.ret))
 (.skip)))))))
 (.region 0 [⟨(some 46), .p (.bin .add (.t 23) (.c (.int .i64 1))), none, none, []⟩,
 ⟨(some 23), .p (.move (.t 46)), none, none, []⟩])))))))))
 (.region 0 [⟨(some 47), .p (.bin .add (.t 13) (.c (.int .i64 1))), none, none, []⟩,
 ⟨(some 13), .p (.move (.t 47)), none, none, []⟩])))))))
 (.seq (.region 0 [⟨(some 2), .p (.move (.c (.bool true))), none, none, []⟩])
 (.ret)))⟩
/-- (*almadraba/counts.trap).hear -/
def f109 : AFn := ⟨31, [.tmp 2],
 .seq (.region 0 [⟨(some 2), .p (.move (.c (.bool false))), none, none, []⟩])
 (.seq (.seq (.region 0 [⟨(some 6), .p (.move (.t 0)), none, none, []⟩,
 ⟨(some 7), .p (.nilCheck (.t 6)), none, none, []⟩,
 ⟨(some 8), .p (.fieldAddr 0 (.t 7)), none, none, []⟩,
 ⟨(some 9), .p (.fieldAddr 3 (.t 8)), none, none, []⟩,
 ⟨(some 10), .load false 1 (.t 9), none, none, []⟩,
 ⟨(some 11), .p (.lenS (.t 10)), none, none, []⟩,
 ⟨(some 12), .p (.move (.c (.int .i64 0))), none, none, []⟩])
 (.block 0 (.loop (.seq (.region 0 [⟨(some 13), .p (.bin .lss (.t 12) (.t 11)), none, none, []⟩])
 (.seq (.cond (.t 13) (.skip)
 (.exit 0))
 (.seq (.block 1 (.seq (.region 0 [⟨(some 14), .p (.idxSl 4 (.t 10) (.t 12)), none, none, []⟩,
 ⟨(some 15), .load true 4 (.t 14), none, none, []⟩,
 ⟨(some 4), .alloc [.int .i64 0, .int .i64 0, .int .i64 0, .int .i64 0], none, none, []⟩,
 ⟨none, .store 4 (.t 4) (.t 15), none, none, []⟩])
 (.seq (.region 0 [⟨(some 16), .p (.fieldAddr 0 (.t 4)), none, none, []⟩,
 ⟨(some 17), .load false 1 (.t 16), none, none, []⟩,
 ⟨(some 18), .p (.fieldAddr 1 (.t 4)), none, none, []⟩,
 ⟨(some 19), .load false 1 (.t 18), none, none, []⟩,
 ⟨(some 20), .p (.build [.int .i64 0, .int .i64 0] [(0, 1, (.t 17)), (1, 1, (.t 19))]), none, none, []⟩,
 ⟨(some 5), .alloc [.int .i64 0, .int .i64 0], none, none, []⟩,
 ⟨none, .store 2 (.t 5) (.t 20), none, none, []⟩])
 (.seq (.region 0 [⟨(some 21), .p (.move (.t 0)), none, none, []⟩,
 ⟨(some 22), .load true 2 (.t 5), none, none, []⟩,
 ⟨(some 23), .p (.fieldAddr 2 (.t 4)), none, none, []⟩,
 ⟨(some 24), .load false 1 (.t 23), none, none, []⟩,
 ⟨(some 25), .p (.fieldAddr 3 (.t 4)), none, none, []⟩,
 ⟨(some 26), .load false 1 (.t 25), none, none, []⟩,
 ⟨(some 27), .p (.build [.int .i64 0, .int .i64 0] [(0, 1, (.t 24)), (1, 1, (.t 26))]), none, none, []⟩,
 ⟨(some 28), .call 0 101 [(.t 21), (.t 22), (.t 27)], none, none, []⟩,
 ⟨(some 29), .p (.un .not (.t 28)), none, none, []⟩])
 (.cond (.t 29) (.seq (.region 0 [⟨(some 2), .p (.move (.c (.bool false))), none, none, []⟩])
 (.ret))
 (.skip))))))
 (.region 0 [⟨(some 30), .p (.bin .add (.t 12) (.c (.int .i64 1))), none, none, []⟩,
 ⟨(some 12), .p (.move (.t 30)), none, none, []⟩])))))))
 (.seq (.region 0 [⟨(some 2), .p (.move (.c (.bool true))), none, none, []⟩])
 (.ret)))⟩
/-- almadraba/counts.ascending -/
def f110 : AFn := ⟨24, [.tmp 4],
 .seq (.region 0 [⟨(some 4), .p (.move (.c (.bool false))), none, none, []⟩])
 (.seq (.region 0 [⟨(some 5), .p (.move (.c (.int .i64 (-1)))), none, none, []⟩])
 (.seq (.seq (.region 0 [⟨(some 8), .p (.move (.t 0)), none, none, []⟩,
 ⟨(some 9), .p (.lenS (.t 8)), none, none, []⟩,
 ⟨(some 10), .p (.move (.c (.int .i64 0))), none, none, []⟩])
 (.block 0 (.loop (.seq (.region 0 [⟨(some 11), .p (.bin .lss (.t 10) (.t 9)), none, none, []⟩])
 (.seq (.cond (.t 11) (.skip)
 (.exit 0))
 (.seq (.block 1 (.seq (.region 0 [⟨(some 12), .p (.idxSl 1 (.t 8) (.t 10)), none, none, []⟩,
 ⟨(some 13), .load false 1 (.t 12), none, none, []⟩,
 ⟨(some 7), .p (.move (.t 13)), none, none, []⟩])
 (.seq (.seq (.region 0 [⟨(some 14), .p (.move (.t 7)), none, none, []⟩,
 ⟨(some 15), .p (.move (.t 5)), none, none, []⟩,
 ⟨(some 16), .p (.bin .leq (.t 14) (.t 15)), none, none, []⟩,
 ⟨(some 17), .p (.move (.t 16)), none, none, []⟩,
 ⟨(some 18), .p (.move (.t 7)), (some (17, false)), none, []⟩,
 ⟨(some 19), .p (.move (.t 1)), (some (17, false)), none, []⟩,
 ⟨(some 20), .p (.bin .geq (.t 18) (.t 19)), (some (17, false)), none, []⟩,
 ⟨(some 21), .p (.pick (.t 17) (.c (.bool true)) (.t 20)), none, none, []⟩])
 (.cond (.t 21) (.seq (.region 0 [⟨(some 4), .p (.move (.c (.bool false))), none, none, []⟩])
 (.ret))
 (.skip)))
 (.region 0 [⟨(some 22), .p (.move (.t 7)), none, none, []⟩,
 ⟨(some 5), .p (.move (.t 22)), none, none, []⟩]))))
 (.region 0 [⟨(some 23), .p (.bin .add (.t 10) (.c (.int .i64 1))), none, none, []⟩,
 ⟨(some 10), .p (.move (.t 23)), none, none, []⟩])))))))
 (.seq (.region 0 [⟨(some 4), .p (.move (.c (.bool true))), none, none, []⟩])
 (.ret))))⟩
/-- slices.Contains[[]int,int] -/
def f112 : AFn := ⟨9, [.tmp 4],
 .seq (.region 0 [⟨(some 4), .p (.move (.c (.bool false))), none, none, []⟩])
 (.seq (.region 0 [⟨(some 5), .p (.move (.t 0)), none, none, []⟩,
 ⟨(some 6), .p (.move (.t 1)), none, none, []⟩,
 ⟨(some 7), .call 1 115 [(.t 5), (.t 6)], none, none, []⟩,
 ⟨(some 8), .p (.bin .geq (.t 7) (.c (.int .i64 0))), none, none, []⟩,
 ⟨(some 4), .p (.move (.t 8)), none, none, []⟩])
 (.ret))⟩
/-- almadraba/almadrabaref01.cut -/
def f113 : AFn := ⟨16, [.cell true 2 4],
 .seq (.region 0 [⟨(some 2), .box (.t 0), none, none, []⟩,
 ⟨(some 3), .box (.t 1), none, none, []⟩,
 ⟨(some 4), .alloc [.int .i64 0, .int .i64 0], none, none, []⟩])
 (.seq (.region 0 [⟨(some 5), .p (.fieldAddr 0 (.t 2)), none, none, []⟩,
 ⟨(some 6), .load false 1 (.t 5), none, none, []⟩,
 ⟨(some 7), .p (.fieldAddr 0 (.t 3)), none, none, []⟩,
 ⟨(some 8), .load false 1 (.t 7), none, none, []⟩,
 ⟨(some 9), .p (.minmax true (.t 6) [(.t 8)]), none, none, []⟩,
 ⟨(some 10), .p (.fieldAddr 1 (.t 2)), none, none, []⟩,
 ⟨(some 11), .load false 1 (.t 10), none, none, []⟩,
 ⟨(some 12), .p (.fieldAddr 1 (.t 3)), none, none, []⟩,
 ⟨(some 13), .load false 1 (.t 12), none, none, []⟩,
 ⟨(some 14), .p (.minmax false (.t 11) [(.t 13)]), none, none, []⟩,
 ⟨(some 15), .p (.build [.int .i64 0, .int .i64 0] [(0, 1, (.t 9)), (1, 1, (.t 14))]), none, none, []⟩,
 ⟨none, .store 2 (.t 4) (.t 15), none, none, []⟩])
 (.ret))⟩
/-- (*almadraba/counts.bounds).within -/
def f114 : AFn := ⟨24, [.tmp 8],
 .seq (.region 0 [⟨(some 7), .box (.t 3), none, none, []⟩,
 ⟨(some 8), .p (.move (.c (.bool false))), none, none, []⟩])
 (.seq (.region 0 [⟨(some 9), .p (.move (.t 0)), none, none, []⟩,
 ⟨(some 10), .p (.move (.t 1)), none, none, []⟩,
 ⟨(some 11), .p (.move (.t 2)), none, none, []⟩,
 ⟨(some 12), .p (.fieldAddr 1 (.t 7)), none, none, []⟩,
 ⟨(some 13), .load false 1 (.t 12), none, none, []⟩,
 ⟨(some 14), .call 0 116 [(.t 9), (.t 10), (.t 11), (.t 13)], none, none, []⟩,
 ⟨(some 15), .p (.move (.t 14)), none, none, []⟩,
 ⟨(some 16), .p (.move (.t 0)), (some (15, true)), none, []⟩,
 ⟨(some 17), .p (.move (.t 2)), (some (15, true)), none, []⟩,
 ⟨(some 18), .p (.move (.t 1)), (some (15, true)), none, []⟩,
 ⟨(some 19), .p (.fieldAddr 0 (.t 7)), (some (15, true)), none, []⟩,
 ⟨(some 20), .load false 1 (.t 19), (some (15, true)), none, []⟩,
 ⟨(some 21), .p (.un .neg (.t 20)), (some (15, true)), none, []⟩,
 ⟨(some 22), .call 0 116 [(.t 16), (.t 17), (.t 18), (.t 21)], (some (15, true)), none, []⟩,
 ⟨(some 23), .p (.pick (.t 15) (.t 22) (.c (.bool false))), none, none, []⟩,
 ⟨(some 8), .p (.move (.t 23)), none, none, []⟩])
 (.ret))⟩
/-- slices.Index[[]int,int] -/
def f115 : AFn := ⟨19, [.tmp 4],
 .seq (.region 0 [⟨(some 4), .p (.move (.c (.int .i64 0))), none, none, []⟩])
 (.seq (.seq (.region 0 [⟨(some 6), .p (.move (.t 0)), none, none, []⟩,
 ⟨(some 7), .p (.lenS (.t 6)), none, none, []⟩,
 ⟨(some 8), .p (.move (.c (.int .i64 0))), none, none, []⟩])
 (.block 0 (.loop (.seq (.region 0 [⟨(some 9), .p (.bin .lss (.t 8) (.t 7)), none, none, []⟩])
 (.seq (.cond (.t 9) (.skip)
 (.exit 0))
 (.seq (.block 1 (.seq (.region 0 [⟨(some 10), .p (.move (.t 8)), none, none, []⟩,
 ⟨(some 5), .p (.move (.t 10)), none, none, []⟩])
 (.seq (.region 0 [⟨(some 11), .p (.move (.t 1)), none, none, []⟩,
 ⟨(some 12), .p (.move (.t 0)), none, none, []⟩,
 ⟨(some 13), .p (.move (.t 5)), none, none, []⟩,
 ⟨(some 14), .p (.idxSl 1 (.t 12) (.t 13)), none, none, []⟩,
 ⟨(some 15), .load false 1 (.t 14), none, none, []⟩,
 ⟨(some 16), .p (.bin .eql (.t 11) (.t 15)), none, none, []⟩])
 (.cond (.t 16) (.seq (.region 0 [⟨(some 17), .p (.move (.t 5)), none, none, []⟩,
 ⟨(some 4), .p (.move (.t 17)), none, none, []⟩])
 (.ret))
 (.skip)))))
 (.region 0 [⟨(some 18), .p (.bin .add (.t 8) (.c (.int .i64 1))), none, none, []⟩,
 ⟨(some 8), .p (.move (.t 18)), none, none, []⟩])))))))
 (.seq (.region 0 [⟨(some 4), .p (.move (.c (.int .i64 (-1)))), none, none, []⟩])
 (.ret)))⟩
/-- (*almadraba/counts.bounds).atMost -/
def f116 : AFn := ⟨69, [.tmp 8],
 .seq (.region 0 [⟨(some 8), .p (.move (.c (.bool false))), none, none, []⟩])
 (.seq (.seq (.region 0 [⟨(some 11), .p (.move (.t 0)), none, none, []⟩,
 ⟨(some 12), .p (.move (.t 2)), none, none, []⟩,
 ⟨(some 13), .p (.move (.t 1)), none, none, []⟩,
 ⟨(some 14), .p (.nilCheck (.t 11)), none, none, []⟩,
 ⟨(some 15), .p (.idxArr 21 21 (.t 14) (.t 12)), none, none, []⟩,
 ⟨(some 16), .p (.idxArr 21 1 (.t 15) (.t 13)), none, none, []⟩,
 ⟨(some 17), .load false 1 (.t 16), none, none, []⟩,
 ⟨(some 18), .p (.move (.t 3)), none, none, []⟩,
 ⟨(some 19), .p (.bin .add (.t 17) (.t 18)), none, none, []⟩,
 ⟨(some 20), .p (.bin .lss (.t 19) (.c (.int .i64 0))), none, none, []⟩])
 (.cond (.t 20) (.seq (.region 0 [⟨(some 8), .p (.move (.c (.bool false))), none, none, []⟩])
 (.ret))
 (.skip)))
 (.seq (.seq (.region 0 [⟨(some 21), .p (.move (.t 0)), none, none, []⟩,
 ⟨(some 22), .p (.move (.t 1)), none, none, []⟩,
 ⟨(some 23), .p (.move (.t 2)), none, none, []⟩,
 ⟨(some 24), .p (.nilCheck (.t 21)), none, none, []⟩,
 ⟨(some 25), .p (.idxArr 21 21 (.t 24) (.t 22)), none, none, []⟩,
 ⟨(some 26), .p (.idxArr 21 1 (.t 25) (.t 23)), none, none, []⟩,
 ⟨(some 27), .load false 1 (.t 26), none, none, []⟩,
 ⟨(some 28), .p (.move (.t 3)), none, none, []⟩,
 ⟨(some 29), .p (.bin .leq (.t 27) (.t 28)), none, none, []⟩])
 (.cond (.t 29) (.seq (.region 0 [⟨(some 8), .p (.move (.c (.bool true))), none, none, []⟩])
 (.ret))
 (.skip)))
 (.seq (.seq (.region 0 [⟨(some 30), .p (.move (.c (.int .i64 0))), none, none, []⟩])
 (.block 0 (.loop (.seq (.region 0 [⟨(some 31), .p (.bin .lss (.t 30) (.c (.int .i64 21))), none, none, []⟩])
 (.seq (.cond (.t 31) (.skip)
 (.exit 0))
 (.seq (.block 1 (.seq (.region 0 [⟨(some 32), .p (.move (.t 30)), none, none, []⟩,
 ⟨(some 9), .p (.move (.t 32)), none, none, []⟩])
 (.seq (.region 0 [⟨(some 33), .p (.move (.c (.int .i64 0))), none, none, []⟩])
 (.block 2 (.loop (.seq (.region 0 [⟨(some 34), .p (.bin .lss (.t 33) (.c (.int .i64 21))), none, none, []⟩])
 (.seq (.cond (.t 34) (.skip)
 (.exit 2))
 (.seq (.block 3 (.seq (.region 0 [⟨(some 35), .p (.move (.t 33)), none, none, []⟩,
 ⟨(some 10), .p (.move (.t 35)), none, none, []⟩])
 (.region 0 [⟨(some 36), .p (.move (.t 0)), none, none, []⟩,
 ⟨(some 37), .p (.move (.t 9)), none, none, []⟩,
 ⟨(some 38), .p (.move (.t 10)), none, none, []⟩,
 ⟨(some 39), .p (.move (.t 0)), none, none, []⟩,
 ⟨(some 40), .p (.move (.t 9)), none, none, []⟩,
 ⟨(some 41), .p (.move (.t 10)), none, none, []⟩,
 ⟨(some 42), .p (.nilCheck (.t 39)), none, none, []⟩,
 ⟨(some 43), .p (.idxArr 21 21 (.t 42) (.t 40)), none, none, []⟩,
 ⟨(some 44), .p (.idxArr 21 1 (.t 43) (.t 41)), none, none, []⟩,
 ⟨(some 45), .load false 1 (.t 44), none, none, []⟩,
 ⟨(some 46), .p (.move (.t 0)), none, none, []⟩,
 ⟨(some 47), .p (.move (.t 9)), none, none, []⟩,
 ⟨(some 48), .p (.move (.t 1)), none, none, []⟩,
 ⟨(some 49), .p (.nilCheck (.t 46)), none, none, []⟩,
 ⟨(some 50), .p (.idxArr 21 21 (.t 49) (.t 47)), none, none, []⟩,
 ⟨(some 51), .p (.idxArr 21 1 (.t 50) (.t 48)), none, none, []⟩,
 ⟨(some 52), .load false 1 (.t 51), none, none, []⟩,
 ⟨(some 53), .p (.move (.t 3)), none, none, []⟩,
 ⟨(some 54), .p (.bin .add (.t 52) (.t 53)), none, none, []⟩,
 ⟨(some 55), .p (.move (.t 0)), none, none, []⟩,
 ⟨(some 56), .p (.move (.t 2)), none, none, []⟩,
 ⟨(some 57), .p (.move (.t 10)), none, none, []⟩,
 ⟨(some 58), .p (.nilCheck (.t 55)), none, none, []⟩,
 ⟨(some 59), .p (.idxArr 21 21 (.t 58) (.t 56)), none, none, []⟩,
 ⟨(some 60), .p (.idxArr 21 1 (.t 59) (.t 57)), none, none, []⟩,
 ⟨(some 61), .load false 1 (.t 60), none, none, []⟩,
 ⟨(some 62), .p (.bin .add (.t 54) (.t 61)), none, none, []⟩,
 ⟨(some 63), .p (.minmax false (.t 45) [(.t 62)]), none, none, []⟩,
 ⟨(some 64), .p (.nilCheck (.t 36)), none, none, []⟩,
 ⟨(some 65), .p (.idxArr 21 21 (.t 64) (.t 37)), none, none, []⟩,
 ⟨(some 66), .p (.idxArr 21 1 (.t 65) (.t 38)), none, none, []⟩,
 ⟨none, .store 1 (.t 66) (.t 63), none, none, []⟩])))
 (.region 0 [⟨(some 67), .p (.bin .add (.t 33) (.c (.int .i64 1))), none, none, []⟩,
 ⟨(some 33), .p (.move (.t 67)), none, none, []⟩])))))))))
 (.region 0 [⟨(some 68), .p (.bin .add (.t 30) (.c (.int .i64 1))), none, none, []⟩,
 ⟨(some 30), .p (.move (.t 68)), none, none, []⟩])))))))
 (.seq (.region 0 [⟨(some 8), .p (.move (.c (.bool true))), none, none, []⟩])
 (.ret)))))⟩
end Go.Proofs.Ytjaaefdhdggnkaa.T
