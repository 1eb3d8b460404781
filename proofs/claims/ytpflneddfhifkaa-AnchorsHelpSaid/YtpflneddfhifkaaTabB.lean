/-
The code of functions of the seat, as the abstract machine has it (printed by a tool of ours off the dump).
-/
import Derived.Test.YtpflneddfhifkaaAmX
namespace Go.Proofs.Ytpflneddfhifkaa.T
open Go Go.Am
/-- almadraba/anchors.Storm -/
def f45 : AFn := ⟨16, [.tmp 2, .tmp 3],
 .seq (.region 0 [⟨(some 1), .box (.t 0), none, none, []⟩,
 ⟨(some 2), .p (.move (.c (.int .i64 0))), none, none, []⟩,
 ⟨(some 3), .p (.move (.c (.int .i64 0))), none, none, []⟩])
 (.seq (.seq (.region 0 [⟨(some 5), .load true 7 (.t 1), none, none, []⟩,
 ⟨(some 6), .call 1 18 [(.t 5)], none, none, []⟩,
 ⟨(some 4), .p (.move (.t 6)), none, none, []⟩])
 (.seq (.region 0 [⟨(some 7), .p (.move (.t 4)), none, none, []⟩,
 ⟨(some 8), .p (.bin .neq (.t 7) (.c (.int .i64 0))), none, none, []⟩])
 (.cond (.t 8) (.seq (.region 0 [⟨(some 9), .p (.move (.t 4)), none, none, []⟩,
 ⟨(some 2), .p (.move (.c (.int .i64 0))), none, none, []⟩,
 ⟨(some 3), .p (.move (.t 9)), none, none, []⟩])
 (.ret))
 (.skip))))
 (.seq (.region 0 [⟨(some 10), .load true 7 (.t 1), none, none, []⟩,
 ⟨(some 11), .call 1 89 [(.t 10)], none, none, []⟩,
 ⟨(some 12), .call 1 96 [(.t 11)], none, none, []⟩,
 ⟨(some 13), .call 1 95 [(.t 12)], none, none, []⟩,
 ⟨(some 14), .p (.extract (.t 13) 0), none, none, []⟩,
 ⟨(some 15), .p (.extract (.t 13) 1), none, none, []⟩,
 ⟨(some 2), .p (.move (.t 14)), none, none, []⟩,
 ⟨(some 3), .p (.move (.t 15)), none, none, []⟩])
 (.ret)))⟩
/-- almadraba/almadrabaref02.Storm -/
def f46 : AFn := ⟨27, [.tmp 2, .tmp 3],
 .seq (.region 0 [⟨(some 1), .box (.t 0), none, none, []⟩,
 ⟨(some 2), .p (.move (.c (.int .i64 0))), none, none, []⟩,
 ⟨(some 3), .p (.move (.c (.int .i64 0))), none, none, []⟩])
 (.seq (.seq (.region 0 [⟨(some 8), .load true 7 (.t 1), none, none, []⟩,
 ⟨(some 9), .call 1 19 [(.t 8)], none, none, []⟩,
 ⟨(some 4), .p (.move (.t 9)), none, none, []⟩])
 (.seq (.region 0 [⟨(some 10), .p (.move (.t 4)), none, none, []⟩,
 ⟨(some 11), .p (.bin .neq (.t 10) (.c (.int .i64 0))), none, none, []⟩])
 (.cond (.t 11) (.seq (.region 0 [⟨(some 12), .p (.move (.t 4)), none, none, []⟩,
 ⟨(some 2), .p (.move (.c (.int .i64 0))), none, none, []⟩,
 ⟨(some 3), .p (.move (.t 12)), none, none, []⟩])
 (.ret))
 (.skip))))
 (.seq (.seq (.region 0 [⟨(some 5), .p (.move (.c (.int .i64 0))), none, none, []⟩])
 (.block 0 (.loop (.seq (.seq (.region 0 [⟨(some 13), .p (.move (.t 5)), none, none, []⟩,
 ⟨(some 14), .p (.bin .leq (.t 13) (.c (.int .i64 20))), none, none, []⟩])
 (.cond (.t 14) (.skip)
 (.exit 0)))
 (.seq (.block 1 (.seq (.region 0 [⟨(some 18), .load true 7 (.t 1), none, none, []⟩,
 ⟨(some 19), .p (.move (.t 5)), none, none, []⟩,
 ⟨(some 20), .call 1 98 [(.t 18), (.t 19)], none, none, []⟩,
 ⟨(some 21), .call 1 93 [(.t 20)], none, none, []⟩,
 ⟨(some 17), .p (.move (.t 21)), none, none, []⟩,
 ⟨(some 22), .p (.extract (.t 17) 0), none, none, []⟩,
 ⟨(some 23), .p (.extract (.t 17) 1), none, none, []⟩,
 ⟨(some 6), .p (.move (.t 22)), none, none, []⟩,
 ⟨(some 7), .p (.move (.t 23)), none, none, []⟩])
 (.seq (.region 0 [⟨(some 24), .p (.move (.t 6)), none, none, []⟩,
 ⟨(some 25), .p (.bin .eql (.t 24) (.c (.int .i64 0))), none, none, []⟩])
 (.cond (.t 25) (.seq (.region 0 [⟨(some 26), .p (.move (.t 5)), none, none, []⟩,
 ⟨(some 2), .p (.move (.t 26)), none, none, []⟩,
 ⟨(some 3), .p (.move (.c (.int .i64 0))), none, none, []⟩])
 (.ret))
 (.skip)))))
 (.region 0 [⟨(some 15), .p (.move (.t 5)), none, none, []⟩,
 ⟨(some 16), .p (.bin .add (.t 15) (.c (.int .i64 1))), none, none, []⟩,
 ⟨(some 5), .p (.move (.t 16)), none, none, []⟩]))))))
 (.seq (.region 0 [⟨(some 2), .p (.move (.c (.int .i64 0))), none, none, []⟩,
 ⟨(some 3), .p (.move (.c (.int .i64 3))), none, none, []⟩])
 (.ret))))⟩
/-- almadraba/anchors.Help -/
def f47 : AFn := ⟨18, [.tmp 2, .tmp 3],
 .seq (.region 0 [⟨(some 1), .box (.t 0), none, none, []⟩,
 ⟨(some 2), .p (.move (.c (.int .i64 0))), none, none, []⟩,
 ⟨(some 3), .p (.move (.c (.int .i64 0))), none, none, []⟩])
 (.seq (.seq (.region 0 [⟨(some 7), .load true 7 (.t 1), none, none, []⟩,
 ⟨(some 8), .call 1 43 [(.t 7)], none, none, []⟩,
 ⟨(some 6), .p (.move (.t 8)), none, none, []⟩,
 ⟨(some 9), .p (.extract (.t 6) 0), none, none, []⟩,
 ⟨(some 10), .p (.extract (.t 6) 1), none, none, []⟩,
 ⟨(some 4), .p (.move (.t 9)), none, none, []⟩,
 ⟨(some 5), .p (.move (.t 10)), none, none, []⟩])
 (.seq (.region 0 [⟨(some 11), .p (.move (.t 5)), none, none, []⟩,
 ⟨(some 12), .p (.bin .neq (.t 11) (.c (.int .i64 0))), none, none, []⟩])
 (.cond (.t 12) (.seq (.region 0 [⟨(some 13), .p (.move (.t 5)), none, none, []⟩,
 ⟨(some 2), .p (.move (.c (.int .i64 0))), none, none, []⟩,
 ⟨(some 3), .p (.move (.t 13)), none, none, []⟩])
 (.ret))
 (.skip))))
 (.seq (.region 0 [⟨(some 14), .load true 7 (.t 1), none, none, []⟩,
 ⟨(some 15), .call 1 99 [(.t 14)], none, none, []⟩,
 ⟨(some 16), .p (.extract (.t 15) 0), none, none, []⟩,
 ⟨(some 17), .p (.extract (.t 15) 1), none, none, []⟩,
 ⟨(some 2), .p (.move (.t 16)), none, none, []⟩,
 ⟨(some 3), .p (.move (.t 17)), none, none, []⟩])
 (.ret)))⟩
/-- almadraba/almadrabaref02.Help -/
def f48 : AFn := ⟨44, [.tmp 2, .tmp 3],
 .seq (.region 0 [⟨(some 1), .box (.t 0), none, none, []⟩,
 ⟨(some 2), .p (.move (.c (.int .i64 0))), none, none, []⟩,
 ⟨(some 3), .p (.move (.c (.int .i64 0))), none, none, []⟩])
 (.seq (.seq (.region 0 [⟨(some 11), .load true 7 (.t 1), none, none, []⟩,
 ⟨(some 12), .call 1 44 [(.t 11)], none, none, []⟩,
 ⟨(some 10), .p (.move (.t 12)), none, none, []⟩,
 ⟨(some 13), .p (.extract (.t 10) 0), none, none, []⟩,
 ⟨(some 14), .p (.extract (.t 10) 1), none, none, []⟩,
 ⟨(some 4), .p (.move (.t 13)), none, none, []⟩,
 ⟨(some 5), .p (.move (.t 14)), none, none, []⟩])
 (.seq (.region 0 [⟨(some 15), .p (.move (.t 5)), none, none, []⟩,
 ⟨(some 16), .p (.bin .neq (.t 15) (.c (.int .i64 0))), none, none, []⟩])
 (.cond (.t 16) (.seq (.region 0 [⟨(some 17), .p (.move (.t 5)), none, none, []⟩,
 ⟨(some 2), .p (.move (.c (.int .i64 0))), none, none, []⟩,
 ⟨(some 3), .p (.move (.t 17)), none, none, []⟩])
 (.ret))
 (.skip))))
 (.seq (.region 0 [⟨(some 6), .p (.move (.c (.int .i64 0))), none, none, []⟩,
 ⟨(some 7), .p (.move (.c (.int .i64 (-1)))), none, none, []⟩])
 (.seq (.seq (.region 0 [⟨(some 8), .p (.move (.c (.int .i64 0))), none, none, []⟩])
 (.block 0 (.loop (.seq (.seq (.region 0 [⟨(some 18), .p (.move (.t 8)), none, none, []⟩,
 ⟨(some 19), .p (.fieldAddr 5 (.t 1)), none, none, []⟩,
 ⟨(some 20), .load false 1 (.t 19), none, none, []⟩,
 ⟨(some 21), .p (.lenS (.t 20)), none, none, []⟩,
 ⟨(some 22), .p (.bin .lss (.t 18) (.t 21)), none, none, []⟩])
 (.cond (.t 22) (.skip)
 (.exit 0)))
 (.seq (.block 1 (.seq (.seq (.region 0 [⟨(some 25), .p (.fieldAddr 5 (.t 1)), none, none, []⟩,
 ⟨(some 26), .load false 1 (.t 25), none, none, []⟩,
 ⟨(some 27), .p (.move (.t 8)), none, none, []⟩,
 ⟨(some 28), .p (.idxSl 2 (.t 26) (.t 27)), none, none, []⟩,
 ⟨(some 29), .p (.fieldAddr 0 (.t 28)), none, none, []⟩,
 ⟨(some 30), .load false 1 (.t 29), none, none, []⟩,
 ⟨(some 31), .p (.bin .eql (.t 30) (.c (.int .i64 20))), none, none, []⟩])
 (.cond (.t 31) (.exit 1)
 (.skip)))
 (.seq (.region 0 [⟨(some 32), .load true 7 (.t 1), none, none, []⟩,
 ⟨(some 33), .p (.move (.t 8)), none, none, []⟩,
 ⟨(some 34), .call 1 59 [(.t 32), (.t 33), (.c (.int .i64 1))], none, none, []⟩,
 ⟨(some 35), .call 1 97 [(.t 34)], none, none, []⟩,
 ⟨(some 9), .p (.move (.t 35)), none, none, []⟩])
 (.seq (.region 0 [⟨(some 36), .p (.move (.t 9)), none, none, []⟩,
 ⟨(some 37), .p (.move (.t 7)), none, none, []⟩,
 ⟨(some 38), .p (.bin .gtr (.t 36) (.t 37)), none, none, []⟩])
 (.cond (.t 38) (.region 0 [⟨(some 39), .p (.move (.t 8)), none, none, []⟩,
 ⟨(some 40), .p (.move (.t 9)), none, none, []⟩,
 ⟨(some 6), .p (.move (.t 39)), none, none, []⟩,
 ⟨(some 7), .p (.move (.t 40)), none, none, []⟩])
 (.skip))))))
 (.region 0 [⟨(some 23), .p (.move (.t 8)), none, none, []⟩,
 ⟨(some 24), .p (.bin .add (.t 23) (.c (.int .i64 1))), none, none, []⟩,
 ⟨(some 8), .p (.move (.t 24)), none, none, []⟩]))))))
 (.seq (.seq (.region 0 [⟨(some 41), .p (.move (.t 7)), none, none, []⟩,
 ⟨(some 42), .p (.bin .lss (.t 41) (.c (.int .i64 0))), none, none, []⟩])
 (.cond (.t 42) (.seq (.region 0 [⟨(some 2), .p (.move (.c (.int .i64 0))), none, none, []⟩,
 ⟨(some 3), .p (.move (.c (.int .i64 2))), none, none, []⟩])
 (.ret))
 (.skip)))
 (.seq (.region 0 [⟨(some 43), .p (.move (.t 6)), none, none, []⟩,
 ⟨(some 2), .p (.move (.t 43)), none, none, []⟩,
 ⟨(some 3), .p (.move (.c (.int .i64 0))), none, none, []⟩])
 (.ret))))))⟩
/-- almadraba/anchors.Need -/
def f49 : AFn := ⟨35, [.tmp 2, .tmp 3],
 .seq (.region 0 [⟨(some 1), .box (.t 0), none, none, []⟩,
 ⟨(some 2), .p (.move (.c (.nils))), none, none, []⟩,
 ⟨(some 3), .p (.move (.c (.int .i64 0))), none, none, []⟩])
 (.seq (.seq (.region 0 [⟨(some 9), .load true 7 (.t 1), none, none, []⟩,
 ⟨(some 10), .call 1 18 [(.t 9)], none, none, []⟩,
 ⟨(some 4), .p (.move (.t 10)), none, none, []⟩])
 (.seq (.region 0 [⟨(some 11), .p (.move (.t 4)), none, none, []⟩,
 ⟨(some 12), .p (.bin .neq (.t 11) (.c (.int .i64 0))), none, none, []⟩])
 (.cond (.t 12) (.seq (.region 0 [⟨(some 13), .p (.move (.t 4)), none, none, []⟩,
 ⟨(some 2), .p (.move (.c (.nils))), none, none, []⟩,
 ⟨(some 3), .p (.move (.t 13)), none, none, []⟩])
 (.ret))
 (.skip))))
 (.seq (.region 0 [⟨(some 5), .p (.move (.c (.nils))), none, none, []⟩])
 (.seq (.seq (.region 0 [⟨(some 14), .p (.fieldAddr 5 (.t 1)), none, none, []⟩,
 ⟨(some 15), .load false 1 (.t 14), none, none, []⟩,
 ⟨(some 16), .p (.lenS (.t 15)), none, none, []⟩,
 ⟨(some 17), .p (.move (.c (.int .i64 0))), none, none, []⟩])
 (.block 0 (.loop (.seq (.region 0 [⟨(some 18), .p (.bin .lss (.t 17) (.t 16)), none, none, []⟩])
 (.seq (.cond (.t 18) (.skip)
 (.exit 0))
 (.seq (.block 1 (.seq (.region 0 [⟨(some 19), .p (.move (.t 17)), none, none, []⟩,
 ⟨(some 6), .p (.move (.t 19)), none, none, []⟩])
 (.seq (.region 0 [⟨(some 21), .load true 7 (.t 1), none, none, []⟩,
 ⟨(some 22), .call 1 90 [(.t 21)], none, none, []⟩,
 ⟨(some 23), .p (.move (.t 6)), none, none, []⟩,
 ⟨(some 24), .call 1 100 [(.t 22), (.t 23)], none, none, []⟩,
 ⟨(some 20), .p (.move (.t 24)), none, none, []⟩,
 ⟨(some 25), .p (.extract (.t 20) 0), none, none, []⟩,
 ⟨(some 26), .p (.extract (.t 20) 1), none, none, []⟩,
 ⟨(some 7), .p (.move (.t 25)), none, none, []⟩,
 ⟨(some 8), .p (.move (.t 26)), none, none, []⟩])
 (.seq (.seq (.region 0 [⟨(some 27), .p (.move (.t 8)), none, none, []⟩,
 ⟨(some 28), .p (.un .not (.t 27)), none, none, []⟩])
 (.cond (.t 28) (.seq (.region 0 [⟨(some 2), .p (.move (.c (.nils))), none, none, []⟩,
 ⟨(some 3), .p (.move (.c (.int .i64 3))), none, none, []⟩])
 (.ret))
 (.skip)))
 (.region 0 [⟨(some 29), .p (.move (.t 5)), none, none, []⟩,
 ⟨(some 30), .p (.move (.t 7)), none, none, []⟩,
 ⟨(some 31), .litS 1 1 [.int .i64 0] [(0, (.t 30))], none, none, []⟩,
 ⟨(some 32), .append false 1 8 (.t 29) (.t 31), none, none, []⟩,
 ⟨(some 5), .p (.move (.t 32)), none, none, []⟩])))))
 (.region 0 [⟨(some 33), .p (.bin .add (.t 17) (.c (.int .i64 1))), none, none, []⟩,
 ⟨(some 17), .p (.move (.t 33)), none, none, []⟩])))))))
 (.seq (.region 0 [⟨(some 34), .p (.move (.t 5)), none, none, []⟩,
 ⟨(some 2), .p (.move (.t 34)), none, none, []⟩,
 ⟨(some 3), .p (.move (.c (.int .i64 0))), none, none, []⟩])
 (.ret)))))⟩
/-- almadraba/almadrabaref02.Need -/
def f50 : AFn := ⟨54, [.tmp 2, .tmp 3],
 .seq (.region 0 [⟨(some 1), .box (.t 0), none, none, []⟩,
 ⟨(some 2), .p (.move (.c (.nils))), none, none, []⟩,
 ⟨(some 3), .p (.move (.c (.int .i64 0))), none, none, []⟩])
 (.seq (.seq (.region 0 [⟨(some 8), .load true 7 (.t 1), none, none, []⟩,
 ⟨(some 9), .call 1 19 [(.t 8)], none, none, []⟩,
 ⟨(some 4), .p (.move (.t 9)), none, none, []⟩])
 (.seq (.region 0 [⟨(some 10), .p (.move (.t 4)), none, none, []⟩,
 ⟨(some 11), .p (.bin .neq (.t 10) (.c (.int .i64 0))), none, none, []⟩])
 (.cond (.t 11) (.seq (.region 0 [⟨(some 12), .p (.move (.t 4)), none, none, []⟩,
 ⟨(some 2), .p (.move (.c (.nils))), none, none, []⟩,
 ⟨(some 3), .p (.move (.t 12)), none, none, []⟩])
 (.ret))
 (.skip))))
 (.seq (.region 0 [⟨(some 5), .p (.move (.c (.nils))), none, none, []⟩])
 (.seq (.seq (.region 0 [⟨(some 6), .p (.move (.c (.int .i64 0))), none, none, []⟩])
 (.block 0 (.loop (.seq (.seq (.region 0 [⟨(some 13), .p (.move (.t 6)), none, none, []⟩,
 ⟨(some 14), .p (.fieldAddr 5 (.t 1)), none, none, []⟩,
 ⟨(some 15), .load false 1 (.t 14), none, none, []⟩,
 ⟨(some 16), .p (.lenS (.t 15)), none, none, []⟩,
 ⟨(some 17), .p (.bin .lss (.t 13) (.t 16)), none, none, []⟩])
 (.cond (.t 17) (.skip)
 (.exit 0)))
 (.seq (.block 1 (.seq (.region 0 [⟨(some 7), .p (.move (.c (.int .i64 0))), none, none, []⟩])
 (.seq (.block 2 (.loop (.seq (.seq (.region 0 [⟨(some 20), .p (.fieldAddr 5 (.t 1)), none, none, []⟩,
 ⟨(some 21), .load false 1 (.t 20), none, none, []⟩,
 ⟨(some 22), .p (.move (.t 6)), none, none, []⟩,
 ⟨(some 23), .p (.idxSl 2 (.t 21) (.t 22)), none, none, []⟩,
 ⟨(some 24), .p (.fieldAddr 0 (.t 23)), none, none, []⟩,
 ⟨(some 25), .load false 1 (.t 24), none, none, []⟩,
 ⟨(some 26), .p (.move (.t 7)), none, none, []⟩,
 ⟨(some 27), .p (.bin .add (.t 25) (.t 26)), none, none, []⟩,
 ⟨(some 28), .p (.bin .leq (.t 27) (.c (.int .i64 20))), none, none, []⟩,
 ⟨(some 29), .p (.move (.t 28)), none, none, []⟩,
 ⟨(some 30), .load true 7 (.t 1), (some (29, true)), none, []⟩,
 ⟨(some 31), .p (.move (.t 6)), (some (29, true)), none, []⟩,
 ⟨(some 32), .p (.move (.t 7)), (some (29, true)), none, []⟩,
 ⟨(some 33), .call 1 59 [(.t 30), (.t 31), (.t 32)], (some (29, true)), none, []⟩,
 ⟨(some 34), .p (.move (.t 6)), (some (29, true)), none, []⟩,
 ⟨(some 35), .call 1 101 [(.t 33), (.t 34)], (some (29, true)), none, []⟩,
 ⟨(some 36), .p (.un .not (.t 35)), (some (29, true)), none, []⟩,
 ⟨(some 37), .p (.pick (.t 29) (.t 36) (.c (.bool false))), none, none, []⟩])
 (.cond (.t 37) (.skip)
 (.exit 2)))
 (.block 3 (.region 0 [⟨(some 38), .p (.move (.t 7)), none, none, []⟩,
 ⟨(some 39), .p (.bin .add (.t 38) (.c (.int .i64 1))), none, none, []⟩,
 ⟨(some 7), .p (.move (.t 39)), none, none, []⟩])))))
 (.seq (.seq (.region 0 [⟨(some 40), .p (.fieldAddr 5 (.t 1)), none, none, []⟩,
 ⟨(some 41), .load false 1 (.t 40), none, none, []⟩,
 ⟨(some 42), .p (.move (.t 6)), none, none, []⟩,
 ⟨(some 43), .p (.idxSl 2 (.t 41) (.t 42)), none, none, []⟩,
 ⟨(some 44), .p (.fieldAddr 0 (.t 43)), none, none, []⟩,
 ⟨(some 45), .load false 1 (.t 44), none, none, []⟩,
 ⟨(some 46), .p (.move (.t 7)), none, none, []⟩,
 ⟨(some 47), .p (.bin .add (.t 45) (.t 46)), none, none, []⟩,
 ⟨(some 48), .p (.bin .gtr (.t 47) (.c (.int .i64 20))), none, none, []⟩])
 (.cond (.t 48) (.seq (.region 0 [⟨(some 2), .p (.move (.c (.nils))), none, none, []⟩,
 ⟨(some 3), .p (.move (.c (.int .i64 3))), none, none, []⟩])
 (.ret))
 (.skip)))
 (.region 0 [⟨(some 49), .p (.move (.t 5)), none, none, []⟩,
 ⟨(some 50), .p (.move (.t 7)), none, none, []⟩,
 ⟨(some 51), .litS 1 1 [.int .i64 0] [(0, (.t 50))], none, none, []⟩,
 ⟨(some 52), .append false 1 8 (.t 49) (.t 51), none, none, []⟩,
 ⟨(some 5), .p (.move (.t 52)), none, none, []⟩])))))
 (.region 0 [⟨(some 18), .p (.move (.t 6)), none, none, []⟩,
 ⟨(some 19), .p (.bin .add (.t 18) (.c (.int .i64 1))), none, none, []⟩,
 ⟨(some 6), .p (.move (.t 19)), none, none, []⟩]))))))
 (.seq (.region 0 [⟨(some 53), .p (.move (.t 5)), none, none, []⟩,
 ⟨(some 2), .p (.move (.t 53)), none, none, []⟩,
 ⟨(some 3), .p (.move (.c (.int .i64 0))), none, none, []⟩])
 (.ret)))))⟩
/-- almadraba/almadrabalaw02.given -/
def f51 : AFn := ⟨18, [.tmp 4],
 .seq (.region 0 [⟨(some 2), .box (.t 0), none, none, []⟩,
 ⟨(some 3), .box (.t 1), none, none, []⟩,
 ⟨(some 4), .p (.move (.c (.bool false))), none, none, []⟩])
 (.seq (.region 0 [⟨(some 5), .load true 7 (.t 2), none, none, []⟩,
 ⟨(some 6), .call 1 62 [(.t 5)], none, none, []⟩,
 ⟨(some 7), .p (.move (.t 6)), none, none, []⟩,
 ⟨(some 8), .p (.fieldAddr 2 (.t 3)), (some (7, true)), none, []⟩,
 ⟨(some 9), .load false 1 (.t 8), (some (7, true)), none, []⟩,
 ⟨(some 10), .p (.lenS (.t 9)), (some (7, true)), none, []⟩,
 ⟨(some 11), .p (.bin .leq (.t 10) (.c (.int .i64 40))), (some (7, true)), none, []⟩,
 ⟨(some 12), .p (.pick (.t 7) (.t 11) (.c (.bool false))), none, none, []⟩,
 ⟨(some 13), .p (.move (.t 12)), none, none, []⟩,
 ⟨(some 14), .load true 7 (.t 2), (some (13, true)), none, []⟩,
 ⟨(some 15), .load true 3 (.t 3), (some (13, true)), none, []⟩,
 ⟨(some 16), .call 1 102 [(.t 14), (.t 15)], (some (13, true)), none, []⟩,
 ⟨(some 17), .p (.pick (.t 13) (.t 16) (.c (.bool false))), none, none, []⟩,
 ⟨(some 4), .p (.move (.t 17)), none, none, []⟩])
 (.ret))⟩
/-- almadraba/almadrabalaw02.drags -/
def f52 : AFn := ⟨26, [.tmp 4, .tmp 5],
 .seq (.region 0 [⟨(some 2), .box (.t 0), none, none, []⟩,
 ⟨(some 3), .box (.t 1), none, none, []⟩,
 ⟨(some 4), .p (.move (.c (.nils))), none, none, []⟩,
 ⟨(some 5), .p (.move (.c (.bool false))), none, none, []⟩])
 (.seq (.region 0 [⟨(some 9), .load true 7 (.t 2), none, none, []⟩,
 ⟨(some 10), .load true 3 (.t 3), none, none, []⟩,
 ⟨(some 11), .call 1 25 [(.t 10)], none, none, []⟩,
 ⟨(some 12), .call 3 28 [(.t 9), (.t 11)], none, none, []⟩,
 ⟨(some 8), .p (.move (.t 12)), none, none, []⟩,
 ⟨(some 13), .p (.extract (.t 8) 0), none, none, []⟩,
 ⟨(some 14), .p (.extract (.t 8) 1), none, none, []⟩,
 ⟨(some 6), .p (.move (.t 13)), none, none, []⟩,
 ⟨(some 7), .p (.move (.t 14)), none, none, []⟩])
 (.seq (.region 0 [⟨(some 15), .p (.move (.t 6)), none, none, []⟩,
 ⟨(some 16), .p (.move (.t 7)), none, none, []⟩,
 ⟨(some 17), .p (.bin .eql (.t 16) (.c (.int .i64 0))), none, none, []⟩,
 ⟨(some 18), .p (.move (.t 17)), none, none, []⟩,
 ⟨(some 19), .p (.move (.t 6)), (some (18, true)), none, []⟩,
 ⟨(some 20), .p (.fieldAddr 5 (.t 2)), (some (18, true)), none, []⟩,
 ⟨(some 21), .load false 1 (.t 20), (some (18, true)), none, []⟩,
 ⟨(some 22), .p (.lenS (.t 21)), (some (18, true)), none, []⟩,
 ⟨(some 23), .p (.bin .sub (.t 22) (.c (.int .i64 1))), (some (18, true)), none, []⟩,
 ⟨(some 24), .call 1 53 [(.t 19), (.c (.int .i64 0)), (.t 23)], (some (18, true)), none, []⟩,
 ⟨(some 25), .p (.pick (.t 18) (.t 24) (.c (.bool false))), none, none, []⟩,
 ⟨(some 4), .p (.move (.t 15)), none, none, []⟩,
 ⟨(some 5), .p (.move (.t 25)), none, none, []⟩])
 (.ret)))⟩
/-- almadraba/almadrabaref01.Rising -/
def f53 : AFn := ⟨38, [.tmp 6],
 .seq (.region 0 [⟨(some 6), .p (.move (.c (.bool false))), none, none, []⟩])
 (.seq (.seq (.region 0 [⟨(some 7), .p (.move (.c (.int .i64 0))), none, none, []⟩])
 (.block 0 (.loop (.seq (.seq (.region 0 [⟨(some 8), .p (.move (.t 7)), none, none, []⟩,
 ⟨(some 9), .p (.move (.t 0)), none, none, []⟩,
 ⟨(some 10), .p (.lenS (.t 9)), none, none, []⟩,
 ⟨(some 11), .p (.bin .lss (.t 8) (.t 10)), none, none, []⟩])
 (.cond (.t 11) (.skip)
 (.exit 0)))
 (.seq (.block 1 (.seq (.region 0 [⟨(some 14), .p (.move (.t 0)), none, none, []⟩,
 ⟨(some 15), .p (.move (.t 7)), none, none, []⟩,
 ⟨(some 16), .p (.idxSl 1 (.t 14) (.t 15)), none, none, []⟩,
 ⟨(some 17), .load false 1 (.t 16), none, none, []⟩,
 ⟨(some 18), .p (.move (.t 1)), none, none, []⟩,
 ⟨(some 19), .p (.move (.t 2)), none, none, []⟩,
 ⟨(some 20), .call 1 58 [(.t 17), (.t 18), (.t 19)], none, none, []⟩,
 ⟨(some 21), .p (.un .not (.t 20)), none, none, []⟩,
 ⟨(some 22), .p (.move (.t 21)), none, none, []⟩,
 ⟨(some 23), .p (.move (.t 7)), (some (22, false)), none, []⟩,
 ⟨(some 24), .p (.bin .gtr (.t 23) (.c (.int .i64 0))), (some (22, false)), none, []⟩,
 ⟨(some 25), .p (.move (.t 24)), (some (22, false)), none, []⟩,
 ⟨(some 26), .p (.move (.t 0)), (some (25, true)), none, []⟩,
 ⟨(some 27), .p (.move (.t 7)), (some (25, true)), none, []⟩,
 ⟨(some 28), .p (.idxSl 1 (.t 26) (.t 27)), (some (25, true)), none, []⟩,
 ⟨(some 29), .load false 1 (.t 28), (some (25, true)), none, []⟩,
 ⟨(some 30), .p (.move (.t 0)), (some (25, true)), none, []⟩,
 ⟨(some 31), .p (.move (.t 7)), (some (25, true)), none, []⟩,
 ⟨(some 32), .p (.bin .sub (.t 31) (.c (.int .i64 1))), (some (25, true)), none, []⟩,
 ⟨(some 33), .p (.idxSl 1 (.t 30) (.t 32)), (some (25, true)), none, []⟩,
 ⟨(some 34), .load false 1 (.t 33), (some (25, true)), none, []⟩,
 ⟨(some 35), .p (.bin .leq (.t 29) (.t 34)), (some (25, true)), none, []⟩,
 ⟨(some 36), .p (.pick (.t 25) (.t 35) (.c (.bool false))), (some (22, false)), none, []⟩,
 ⟨(some 37), .p (.pick (.t 22) (.c (.bool true)) (.t 36)), none, none, []⟩])
 (.cond (.t 37) (.seq (.region 0 [⟨(some 6), .p (.move (.c (.bool false))), none, none, []⟩])
 (.ret))
 (.skip))))
 (.region 0 [⟨(some 12), .p (.move (.t 7)), none, none, []⟩,
 ⟨(some 13), .p (.bin .add (.t 12) (.c (.int .i64 1))), none, none, []⟩,
 ⟨(some 7), .p (.move (.t 13)), none, none, []⟩]))))))
 (.seq (.region 0 [⟨(some 6), .p (.move (.c (.bool true))), none, none, []⟩])
 (.ret)))⟩
/-- almadraba/almadrabalaw02.isPart -/
def f54 : AFn := ⟨19, [.tmp 4],
 .seq (.region 0 [⟨(some 4), .p (.move (.c (.bool false))), none, none, []⟩])
 (.seq (.seq (.region 0 [⟨(some 5), .p (.move (.c (.int .i64 0))), none, none, []⟩])
 (.block 0 (.loop (.seq (.seq (.region 0 [⟨(some 6), .p (.move (.t 5)), none, none, []⟩,
 ⟨(some 7), .p (.move (.t 0)), none, none, []⟩,
 ⟨(some 8), .p (.lenS (.t 7)), none, none, []⟩,
 ⟨(some 9), .p (.bin .lss (.t 6) (.t 8)), none, none, []⟩])
 (.cond (.t 9) (.skip)
 (.exit 0)))
 (.seq (.block 1 (.seq (.region 0 [⟨(some 12), .p (.move (.t 1)), none, none, []⟩,
 ⟨(some 13), .p (.move (.t 0)), none, none, []⟩,
 ⟨(some 14), .p (.move (.t 5)), none, none, []⟩,
 ⟨(some 15), .p (.idxSl 1 (.t 13) (.t 14)), none, none, []⟩,
 ⟨(some 16), .load false 1 (.t 15), none, none, []⟩,
 ⟨(some 17), .call 1 56 [(.t 12), (.t 16)], none, none, []⟩,
 ⟨(some 18), .p (.un .not (.t 17)), none, none, []⟩])
 (.cond (.t 18) (.seq (.region 0 [⟨(some 4), .p (.move (.c (.bool false))), none, none, []⟩])
 (.ret))
 (.skip))))
 (.region 0 [⟨(some 10), .p (.move (.t 5)), none, none, []⟩,
 ⟨(some 11), .p (.bin .add (.t 10) (.c (.int .i64 1))), none, none, []⟩,
 ⟨(some 5), .p (.move (.t 11)), none, none, []⟩]))))))
 (.seq (.region 0 [⟨(some 4), .p (.move (.c (.bool true))), none, none, []⟩])
 (.ret)))⟩
/-- almadraba/almadrabaref02.SpareOf -/
def f55 : AFn := ⟨16, [.tmp 6],
 .seq (.region 0 [⟨(some 3), .box (.t 0), none, none, []⟩,
 ⟨(some 4), .box (.t 1), none, none, []⟩,
 ⟨(some 6), .p (.move (.c (.int .i64 0))), none, none, []⟩])
 (.seq (.region 0 [⟨(some 7), .load true 7 (.t 3), none, none, []⟩,
 ⟨(some 8), .load true 3 (.t 4), none, none, []⟩,
 ⟨(some 9), .p (.move (.t 2)), none, none, []⟩,
 ⟨(some 10), .call 1 103 [(.t 7), (.t 8), (.t 9)], none, none, []⟩,
 ⟨(some 11), .load true 7 (.t 3), none, none, []⟩,
 ⟨(some 12), .load true 3 (.t 4), none, none, []⟩,
 ⟨(some 13), .p (.move (.t 2)), none, none, []⟩,
 ⟨(some 14), .call 1 104 [(.t 11), (.t 12), (.t 13), (.c (.nils))], none, none, []⟩,
 ⟨(some 15), .p (.bin .sub (.t 10) (.t 14)), none, none, []⟩,
 ⟨(some 6), .p (.move (.t 15)), none, none, []⟩])
 (.ret))⟩
/-- almadraba/almadrabaref01.In -/
def f56 : AFn := ⟨18, [.tmp 4],
 .seq (.region 0 [⟨(some 4), .p (.move (.c (.bool false))), none, none, []⟩])
 (.seq (.seq (.region 0 [⟨(some 5), .p (.move (.c (.int .i64 0))), none, none, []⟩])
 (.block 0 (.loop (.seq (.seq (.region 0 [⟨(some 6), .p (.move (.t 5)), none, none, []⟩,
 ⟨(some 7), .p (.move (.t 0)), none, none, []⟩,
 ⟨(some 8), .p (.lenS (.t 7)), none, none, []⟩,
 ⟨(some 9), .p (.bin .lss (.t 6) (.t 8)), none, none, []⟩])
 (.cond (.t 9) (.skip)
 (.exit 0)))
 (.seq (.block 1 (.seq (.region 0 [⟨(some 12), .p (.move (.t 0)), none, none, []⟩,
 ⟨(some 13), .p (.move (.t 5)), none, none, []⟩,
 ⟨(some 14), .p (.idxSl 1 (.t 12) (.t 13)), none, none, []⟩,
 ⟨(some 15), .load false 1 (.t 14), none, none, []⟩,
 ⟨(some 16), .p (.move (.t 1)), none, none, []⟩,
 ⟨(some 17), .p (.bin .eql (.t 15) (.t 16)), none, none, []⟩])
 (.cond (.t 17) (.seq (.region 0 [⟨(some 4), .p (.move (.c (.bool true))), none, none, []⟩])
 (.ret))
 (.skip))))
 (.region 0 [⟨(some 10), .p (.move (.t 5)), none, none, []⟩,
 ⟨(some 11), .p (.bin .add (.t 10) (.c (.int .i64 1))), none, none, []⟩,
 ⟨(some 5), .p (.move (.t 11)), none, none, []⟩]))))))
 (.seq (.region 0 [⟨(some 4), .p (.move (.c (.bool false))), none, none, []⟩])
 (.ret)))⟩
/-- almadraba/almadrabaref02.IsAnchor -/
def f57 : AFn := ⟨11, [.tmp 4],
 .seq (.region 0 [⟨(some 2), .box (.t 0), none, none, []⟩,
 ⟨(some 4), .p (.move (.c (.bool false))), none, none, []⟩])
 (.seq (.region 0 [⟨(some 5), .p (.move (.t 1)), none, none, []⟩,
 ⟨(some 6), .p (.fieldAddr 5 (.t 2)), none, none, []⟩,
 ⟨(some 7), .load false 1 (.t 6), none, none, []⟩,
 ⟨(some 8), .p (.lenS (.t 7)), none, none, []⟩,
 ⟨(some 9), .p (.bin .sub (.t 8) (.c (.int .i64 1))), none, none, []⟩,
 ⟨(some 10), .call 1 67 [(.t 5), (.c (.int .i64 0)), (.t 9)], none, none, []⟩,
 ⟨(some 4), .p (.move (.t 10)), none, none, []⟩])
 (.ret))⟩
/-- almadraba/almadrabaref01.Within -/
def f58 : AFn := ⟨15, [.tmp 6],
 .seq (.region 0 [⟨(some 6), .p (.move (.c (.bool false))), none, none, []⟩])
 (.seq (.region 0 [⟨(some 7), .p (.move (.t 1)), none, none, []⟩,
 ⟨(some 8), .p (.move (.t 0)), none, none, []⟩,
 ⟨(some 9), .p (.bin .leq (.t 7) (.t 8)), none, none, []⟩,
 ⟨(some 10), .p (.move (.t 9)), none, none, []⟩,
 ⟨(some 11), .p (.move (.t 0)), (some (10, true)), none, []⟩,
 ⟨(some 12), .p (.move (.t 2)), (some (10, true)), none, []⟩,
 ⟨(some 13), .p (.bin .leq (.t 11) (.t 12)), (some (10, true)), none, []⟩,
 ⟨(some 14), .p (.pick (.t 10) (.t 13) (.c (.bool false))), none, none, []⟩,
 ⟨(some 6), .p (.move (.t 14)), none, none, []⟩])
 (.ret))⟩
/-- almadraba/almadrabaref02.Heavier -/
def f59 : AFn := ⟨27, [.cell true 7 6],
 .seq (.region 0 [⟨(some 3), .box (.t 0), none, none, []⟩,
 ⟨(some 6), .alloc [.int .i64 0, .int .i64 0, .int .i64 0, .int .i64 0, .nils, .nils, .nils], none, none, []⟩])
 (.seq (.region 0 [⟨(some 9), .load true 7 (.t 3), none, none, []⟩,
 ⟨(some 10), .call 2 17 [(.t 9)], none, none, []⟩,
 ⟨(some 7), .alloc [.int .i64 0, .int .i64 0, .int .i64 0, .int .i64 0, .nils, .nils, .nils], none, none, []⟩,
 ⟨none, .store 7 (.t 7) (.t 10), none, none, []⟩])
 (.seq (.region 0 [⟨(some 11), .p (.fieldAddr 5 (.t 7)), none, none, []⟩,
 ⟨(some 12), .load false 1 (.t 11), none, none, []⟩,
 ⟨(some 13), .p (.move (.t 1)), none, none, []⟩,
 ⟨(some 14), .p (.idxSl 2 (.t 12) (.t 13)), none, none, []⟩,
 ⟨(some 15), .load true 2 (.t 14), none, none, []⟩,
 ⟨(some 8), .alloc [.int .i64 0, .int .i64 0], none, none, []⟩,
 ⟨none, .store 2 (.t 8) (.t 15), none, none, []⟩])
 (.seq (.region 0 [⟨(some 16), .p (.fieldAddr 0 (.t 8)), none, none, []⟩,
 ⟨(some 17), .load false 1 (.t 16), none, none, []⟩,
 ⟨(some 18), .p (.move (.t 2)), none, none, []⟩,
 ⟨(some 19), .p (.bin .add (.t 17) (.t 18)), none, none, []⟩,
 ⟨(some 20), .p (.fieldAddr 0 (.t 8)), none, none, []⟩,
 ⟨none, .store 1 (.t 20) (.t 19), none, none, []⟩])
 (.seq (.region 0 [⟨(some 21), .p (.fieldAddr 5 (.t 7)), none, none, []⟩,
 ⟨(some 22), .load false 1 (.t 21), none, none, []⟩,
 ⟨(some 23), .p (.move (.t 1)), none, none, []⟩,
 ⟨(some 24), .load true 2 (.t 8), none, none, []⟩,
 ⟨(some 25), .p (.idxSl 2 (.t 22) (.t 23)), none, none, []⟩,
 ⟨none, .store 2 (.t 25) (.t 24), none, none, []⟩])
 (.seq (.region 0 [⟨(some 26), .load true 7 (.t 7), none, none, []⟩,
 ⟨none, .store 7 (.t 6) (.t 26), none, none, []⟩])
 (.ret))))))⟩
/-- almadraba/almadrabalaw02.ready -/
def f62 : AFn := ⟨11, [.tmp 2],
 .seq (.region 0 [⟨(some 1), .box (.t 0), none, none, []⟩,
 ⟨(some 2), .p (.move (.c (.bool false))), none, none, []⟩])
 (.seq (.region 0 [⟨(some 3), .load true 7 (.t 1), none, none, []⟩,
 ⟨(some 4), .call 1 36 [(.t 3)], none, none, []⟩,
 ⟨(some 5), .p (.un .not (.t 4)), none, none, []⟩,
 ⟨(some 6), .p (.move (.t 5)), none, none, []⟩,
 ⟨(some 7), .load true 7 (.t 1), (some (6, true)), none, []⟩,
 ⟨(some 8), .call 1 19 [(.t 7)], (some (6, true)), none, []⟩,
 ⟨(some 9), .p (.bin .eql (.t 8) (.c (.int .i64 0))), (some (6, true)), none, []⟩,
 ⟨(some 10), .p (.pick (.t 6) (.t 9) (.c (.bool false))), none, none, []⟩,
 ⟨(some 2), .p (.move (.t 10)), none, none, []⟩])
 (.ret))⟩
/-- almadraba/almadrabaref02.IsWall -/
def f63 : AFn := ⟨11, [.tmp 4],
 .seq (.region 0 [⟨(some 2), .box (.t 0), none, none, []⟩,
 ⟨(some 4), .p (.move (.c (.bool false))), none, none, []⟩])
 (.seq (.region 0 [⟨(some 5), .p (.move (.t 1)), none, none, []⟩,
 ⟨(some 6), .p (.fieldAddr 6 (.t 2)), none, none, []⟩,
 ⟨(some 7), .load false 1 (.t 6), none, none, []⟩,
 ⟨(some 8), .p (.lenS (.t 7)), none, none, []⟩,
 ⟨(some 9), .p (.bin .sub (.t 8) (.c (.int .i64 1))), none, none, []⟩,
 ⟨(some 10), .call 1 67 [(.t 5), (.c (.int .i64 0)), (.t 9)], none, none, []⟩,
 ⟨(some 4), .p (.move (.t 10)), none, none, []⟩])
 (.ret))⟩
/-- almadraba/almadrabalaw02.Example -/
def f64 : AFn := ⟨21, [.cell true 7 0, .cell true 3 1, .cell true 3 2],
 .seq (.region 0 [⟨(some 0), .alloc [.int .i64 0, .int .i64 0, .int .i64 0, .int .i64 0, .nils, .nils, .nils], none, none, []⟩,
 ⟨(some 1), .alloc [.int .i64 0, .int .i64 0, .nils], none, none, []⟩,
 ⟨(some 2), .alloc [.int .i64 0, .int .i64 0, .nils], none, none, []⟩])
 (.seq (.region 0 [⟨(some 3), .p (.build [.int .i64 0, .int .i64 0] [(0, 1, (.c (.int .i64 2))), (1, 1, (.c (.int .i64 4)))]), none, none, []⟩,
 ⟨(some 4), .p (.build [.int .i64 0, .int .i64 0] [(0, 1, (.c (.int .i64 1))), (1, 1, (.c (.int .i64 3)))]), none, none, []⟩,
 ⟨(some 5), .p (.build [.int .i64 0, .int .i64 0] [(0, 1, (.c (.int .i64 2))), (1, 1, (.c (.int .i64 3)))]), none, none, []⟩,
 ⟨(some 6), .p (.build [.int .i64 0, .int .i64 0] [(0, 1, (.c (.int .i64 1))), (1, 1, (.c (.int .i64 4)))]), none, none, []⟩,
 ⟨(some 7), .litS 2 2 [.int .i64 0, .int .i64 0] [(0, (.t 5)), (1, (.t 6))], none, none, []⟩,
 ⟨(some 8), .p (.build [.int .i64 0, .int .i64 0] [(0, 1, (.c (.int .i64 6)))]), none, none, []⟩,
 ⟨(some 9), .p (.build [.int .i64 0, .int .i64 0] [(0, 1, (.c (.int .i64 5))), (1, 1, (.c (.int .i64 1)))]), none, none, []⟩,
 ⟨(some 10), .p (.build [.int .i64 0, .int .i64 0] [(0, 1, (.c (.int .i64 4)))]), none, none, []⟩,
 ⟨(some 11), .litS 2 3 [.int .i64 0, .int .i64 0] [(0, (.t 8)), (1, (.t 9)), (2, (.t 10))], none, none, []⟩,
 ⟨(some 12), .p (.build [.int .i64 0, .int .i64 0, .int .i64 0, .int .i64 0, .int .i64 0] [(0, 1, (.c (.int .i64 2))), (1, 1, (.c (.int .i64 1))), (2, 1, (.c (.int .i64 3))), (3, 1, (.c (.int .i64 8))), (4, 1, (.c (.int .i64 9)))]), none, none, []⟩,
 ⟨(some 13), .p (.build [.int .i64 0, .int .i64 0, .int .i64 0, .int .i64 0, .int .i64 0] [(0, 1, (.c (.int .i64 1))), (1, 1, (.c (.int .i64 2))), (2, 1, (.c (.int .i64 2))), (3, 1, (.c (.int .i64 6))), (4, 1, (.c (.int .i64 6)))]), none, none, []⟩,
 ⟨(some 14), .litS 5 2 [.int .i64 0, .int .i64 0, .int .i64 0, .int .i64 0, .int .i64 0] [(0, (.t 12)), (1, (.t 13))], none, none, []⟩,
 ⟨(some 15), .p (.build [.int .i64 0, .int .i64 0, .int .i64 0, .int .i64 0, .nils, .nils, .nils] [(0, 2, (.t 3)), (2, 2, (.t 4)), (4, 1, (.t 7)), (5, 1, (.t 11)), (6, 1, (.t 14))]), none, none, []⟩,
 ⟨none, .store 7 (.t 0) (.t 15), none, none, []⟩])
 (.seq (.region 0 [⟨(some 16), .load true 7 (.t 0), none, none, []⟩,
 ⟨(some 17), .litS 1 2 [.int .i64 0] [(0, (.c (.int .i64 2))), (1, (.c (.int .i64 1)))], none, none, []⟩,
 ⟨(some 18), .p (.build [.int .i64 0, .int .i64 0, .nils] [(0, 1, (.c (.int .i64 4))), (1, 1, (.c (.int .i64 3))), (2, 1, (.t 17))]), none, none, []⟩,
 ⟨(some 19), .litS 1 2 [.int .i64 0] [(0, (.c (.int .i64 3))), (1, (.c (.int .i64 4)))], none, none, []⟩,
 ⟨(some 20), .p (.build [.int .i64 0, .int .i64 0, .nils] [(0, 1, (.c (.int .i64 2))), (1, 1, (.c (.int .i64 1))), (2, 1, (.t 19))]), none, none, []⟩,
 ⟨none, .store 7 (.t 0) (.t 16), none, none, []⟩,
 ⟨none, .store 3 (.t 1) (.t 18), none, none, []⟩,
 ⟨none, .store 3 (.t 2) (.t 20), none, none, []⟩])
 (.ret)))⟩
/-- almadraba/anchors.valid -/
def f65 : AFn := ⟨54, [.tmp 2],
 .seq (.region 0 [⟨(some 1), .box (.t 0), none, none, []⟩,
 ⟨(some 2), .p (.move (.c (.bool false))), none, none, []⟩])
 (.seq (.region 0 [⟨(some 3), .p (.move (.c (.fn 105 [] []))), none, none, []⟩])
 (.seq (.region 0 [⟨(some 5), .p (.mkFn 107 [] [(.t 1)]), none, none, []⟩,
 ⟨(some 4), .p (.move (.t 5)), none, none, []⟩])
 (.seq (.region 0 [⟨(some 6), .p (.fieldAddr 0 (.t 1)), none, none, []⟩,
 ⟨(some 7), .load true 2 (.t 6), none, none, []⟩,
 ⟨(some 8), .call 1 106 [(.t 7), (.c (.int .i64 20))], none, none, []⟩,
 ⟨(some 9), .p (.move (.t 8)), none, none, []⟩,
 ⟨(some 10), .p (.fieldAddr 2 (.t 1)), (some (9, true)), none, []⟩,
 ⟨(some 11), .load true 2 (.t 10), (some (9, true)), none, []⟩,
 ⟨(some 12), .call 1 106 [(.t 11), (.c (.int .i64 20))], (some (9, true)), none, []⟩,
 ⟨(some 13), .p (.pick (.t 9) (.t 12) (.c (.bool false))), none, none, []⟩,
 ⟨(some 14), .p (.move (.t 13)), none, none, []⟩,
 ⟨(some 15), .p (.fieldAddr 4 (.t 1)), (some (14, true)), none, []⟩,
 ⟨(some 16), .load false 1 (.t 15), (some (14, true)), none, []⟩,
 ⟨(some 17), .p (.lenS (.t 16)), (some (14, true)), none, []⟩,
 ⟨(some 18), .p (.bin .leq (.t 17) (.c (.int .i64 3))), (some (14, true)), none, []⟩,
 ⟨(some 19), .p (.pick (.t 14) (.t 18) (.c (.bool false))), none, none, []⟩,
 ⟨(some 20), .p (.move (.t 19)), none, none, []⟩,
 ⟨(some 21), .p (.fieldAddr 4 (.t 1)), (some (20, true)), none, []⟩,
 ⟨(some 22), .load false 1 (.t 21), (some (20, true)), none, []⟩,
 ⟨(some 23), .p (.move (.t 3)), (some (20, true)), none, []⟩,
 ⟨(some 24), .call 3 108 [(.t 22), (.t 23)], (some (20, true)), none, []⟩,
 ⟨(some 25), .p (.pick (.t 20) (.t 24) (.c (.bool false))), none, none, []⟩,
 ⟨(some 26), .p (.move (.t 25)), none, none, []⟩,
 ⟨(some 27), .p (.fieldAddr 5 (.t 1)), (some (26, true)), none, []⟩,
 ⟨(some 28), .load false 1 (.t 27), (some (26, true)), none, []⟩,
 ⟨(some 29), .p (.lenS (.t 28)), (some (26, true)), none, []⟩,
 ⟨(some 30), .p (.bin .leq (.t 29) (.c (.int .i64 6))), (some (26, true)), none, []⟩,
 ⟨(some 31), .p (.pick (.t 26) (.t 30) (.c (.bool false))), none, none, []⟩,
 ⟨(some 32), .p (.move (.t 31)), none, none, []⟩,
 ⟨(some 33), .p (.fieldAddr 5 (.t 1)), (some (32, true)), none, []⟩,
 ⟨(some 34), .load false 1 (.t 33), (some (32, true)), none, []⟩,
 ⟨(some 35), .p (.move (.t 4)), (some (32, true)), none, []⟩,
 ⟨(some 36), .call 3 109 [(.t 34), (.t 35)], (some (32, true)), none, []⟩,
 ⟨(some 37), .p (.pick (.t 32) (.t 36) (.c (.bool false))), none, none, []⟩,
 ⟨(some 38), .p (.move (.t 37)), none, none, []⟩,
 ⟨(some 39), .p (.fieldAddr 6 (.t 1)), (some (38, true)), none, []⟩,
 ⟨(some 40), .load false 1 (.t 39), (some (38, true)), none, []⟩,
 ⟨(some 41), .p (.lenS (.t 40)), (some (38, true)), none, []⟩,
 ⟨(some 42), .p (.fieldAddr 5 (.t 1)), (some (38, true)), none, []⟩,
 ⟨(some 43), .load false 1 (.t 42), (some (38, true)), none, []⟩,
 ⟨(some 44), .p (.lenS (.t 43)), (some (38, true)), none, []⟩,
 ⟨(some 45), .p (.bin .sub (.t 44) (.c (.int .i64 1))), (some (38, true)), none, []⟩,
 ⟨(some 46), .p (.minmax true (.c (.int .i64 0)) [(.t 45)]), (some (38, true)), none, []⟩,
 ⟨(some 47), .p (.bin .eql (.t 41) (.t 46)), (some (38, true)), none, []⟩,
 ⟨(some 48), .p (.pick (.t 38) (.t 47) (.c (.bool false))), none, none, []⟩,
 ⟨(some 49), .p (.move (.t 48)), none, none, []⟩,
 ⟨(some 50), .p (.fieldAddr 6 (.t 1)), (some (49, true)), none, []⟩,
 ⟨(some 51), .load false 1 (.t 50), (some (49, true)), none, []⟩,
 ⟨(some 52), .call 3 110 [(.t 51), (.c (.fn 111 [] []))], (some (49, true)), none, []⟩,
 ⟨(some 53), .p (.pick (.t 49) (.t 52) (.c (.bool false))), none, none, []⟩,
 ⟨(some 2), .p (.move (.t 53)), none, none, []⟩])
 (.ret))))⟩
/-- almadraba/almadrabaref02.isSpan -/
def f66 : AFn := ⟨16, [.tmp 4],
 .seq (.region 0 [⟨(some 2), .box (.t 0), none, none, []⟩,
 ⟨(some 4), .p (.move (.c (.bool false))), none, none, []⟩])
 (.seq (.region 0 [⟨(some 5), .p (.fieldAddr 1 (.t 2)), none, none, []⟩,
 ⟨(some 6), .load false 1 (.t 5), none, none, []⟩,
 ⟨(some 7), .p (.move (.t 1)), none, none, []⟩,
 ⟨(some 8), .call 1 67 [(.t 6), (.c (.int .i64 0)), (.t 7)], none, none, []⟩,
 ⟨(some 9), .p (.move (.t 8)), none, none, []⟩,
 ⟨(some 10), .p (.fieldAddr 0 (.t 2)), (some (9, true)), none, []⟩,
 ⟨(some 11), .load false 1 (.t 10), (some (9, true)), none, []⟩,
 ⟨(some 12), .p (.fieldAddr 1 (.t 2)), (some (9, true)), none, []⟩,
 ⟨(some 13), .load false 1 (.t 12), (some (9, true)), none, []⟩,
 ⟨(some 14), .call 1 67 [(.t 11), (.c (.int .i64 0)), (.t 13)], (some (9, true)), none, []⟩,
 ⟨(some 15), .p (.pick (.t 9) (.t 14) (.c (.bool false))), none, none, []⟩,
 ⟨(some 4), .p (.move (.t 15)), none, none, []⟩])
 (.ret))⟩
/-- almadraba/almadrabaref02.within -/
def f67 : AFn := ⟨11, [.tmp 6],
 .seq (.region 0 [⟨(some 6), .p (.move (.c (.bool false))), none, none, []⟩])
 (.seq (.region 0 [⟨(some 7), .p (.move (.t 0)), none, none, []⟩,
 ⟨(some 8), .p (.move (.t 1)), none, none, []⟩,
 ⟨(some 9), .p (.move (.t 2)), none, none, []⟩,
 ⟨(some 10), .call 1 58 [(.t 7), (.t 8), (.t 9)], none, none, []⟩,
 ⟨(some 6), .p (.move (.t 10)), none, none, []⟩])
 (.ret))⟩
/-- almadraba/anchors.fit -/
def f68 : AFn := ⟨13, [.tmp 4],
 .seq (.region 0 [⟨(some 2), .box (.t 0), none, none, []⟩,
 ⟨(some 4), .p (.move (.c (.int .i64 0))), none, none, []⟩])
 (.seq (.seq (.region 0 [⟨(some 6), .load true 7 (.t 2), none, none, []⟩,
 ⟨(some 7), .call 1 18 [(.t 6)], none, none, []⟩,
 ⟨(some 5), .p (.move (.t 7)), none, none, []⟩])
 (.seq (.region 0 [⟨(some 8), .p (.move (.t 5)), none, none, []⟩,
 ⟨(some 9), .p (.bin .neq (.t 8) (.c (.int .i64 0))), none, none, []⟩])
 (.cond (.t 9) (.seq (.region 0 [⟨(some 10), .p (.move (.t 5)), none, none, []⟩,
 ⟨(some 4), .p (.move (.t 10)), none, none, []⟩])
 (.ret))
 (.skip))))
 (.seq (.seq (.region 0 [⟨(some 11), .p (.move (.t 1)), none, none, []⟩,
 ⟨(some 12), .p (.un .not (.t 11)), none, none, []⟩])
 (.cond (.t 12) (.seq (.region 0 [⟨(some 4), .p (.move (.c (.int .i64 1))), none, none, []⟩])
 (.ret))
 (.skip)))
 (.seq (.region 0 [⟨(some 4), .p (.move (.c (.int .i64 0))), none, none, []⟩])
 (.ret))))⟩
/-- almadraba/anchors.hasWall -/
def f69 : AFn := ⟨12, [.tmp 4],
 .seq (.region 0 [⟨(some 2), .box (.t 0), none, none, []⟩,
 ⟨(some 4), .p (.move (.c (.bool false))), none, none, []⟩])
 (.seq (.region 0 [⟨(some 5), .p (.fieldAddr 6 (.t 2)), none, none, []⟩,
 ⟨(some 6), .load false 1 (.t 5), none, none, []⟩,
 ⟨(some 7), .p (.lenS (.t 6)), none, none, []⟩,
 ⟨(some 8), .p (.bin .sub (.t 7) (.c (.int .i64 1))), none, none, []⟩,
 ⟨(some 9), .p (.move (.t 1)), none, none, []⟩,
 ⟨(some 10), .litS 1 1 [.int .i64 0] [(0, (.t 9))], none, none, []⟩,
 ⟨(some 11), .call 1 70 [(.t 8), (.t 10)], none, none, []⟩,
 ⟨(some 4), .p (.move (.t 11)), none, none, []⟩])
 (.ret))⟩
/-- almadraba/anchors.upTo -/
def f70 : AFn := ⟨8, [.tmp 4],
 .seq (.region 0 [⟨(some 2), .box (.t 0), none, none, []⟩,
 ⟨(some 4), .p (.move (.c (.bool false))), none, none, []⟩])
 (.seq (.region 0 [⟨(some 5), .p (.move (.t 1)), none, none, []⟩,
 ⟨(some 6), .p (.mkFn 113 [] [(.t 2)]), none, none, []⟩,
 ⟨(some 7), .call 3 112 [(.t 5), (.t 6)], none, none, []⟩,
 ⟨(some 4), .p (.move (.t 7)), none, none, []⟩])
 (.ret))⟩
/-- almadraba/anchors.load -/
def f71 : AFn := ⟨16, [.tmp 6],
 .seq (.region 0 [⟨(some 3), .box (.t 0), none, none, []⟩,
 ⟨(some 6), .p (.move (.c (.int .i64 0))), none, none, []⟩])
 (.seq (.region 0 [⟨(some 7), .p (.fieldAddr 0 (.t 3)), none, none, []⟩,
 ⟨(some 8), .load false 1 (.t 7), none, none, []⟩,
 ⟨(some 9), .p (.move (.t 1)), none, none, []⟩,
 ⟨(some 10), .p (.bin .mul (.t 8) (.t 9)), none, none, []⟩,
 ⟨(some 11), .p (.fieldAddr 1 (.t 3)), none, none, []⟩,
 ⟨(some 12), .load false 1 (.t 11), none, none, []⟩,
 ⟨(some 13), .p (.move (.t 2)), none, none, []⟩,
 ⟨(some 14), .p (.bin .mul (.t 12) (.t 13)), none, none, []⟩,
 ⟨(some 15), .p (.bin .add (.t 10) (.t 14)), none, none, []⟩,
 ⟨(some 6), .p (.move (.t 15)), none, none, []⟩])
 (.ret))⟩
/-- almadraba/almadrabaref02.ask -/
def f72 : AFn := ⟨13, [.tmp 4],
 .seq (.region 0 [⟨(some 2), .box (.t 0), none, none, []⟩,
 ⟨(some 4), .p (.move (.c (.int .i64 0))), none, none, []⟩])
 (.seq (.seq (.region 0 [⟨(some 6), .load true 7 (.t 2), none, none, []⟩,
 ⟨(some 7), .call 1 19 [(.t 6)], none, none, []⟩,
 ⟨(some 5), .p (.move (.t 7)), none, none, []⟩])
 (.seq (.region 0 [⟨(some 8), .p (.move (.t 5)), none, none, []⟩,
 ⟨(some 9), .p (.bin .neq (.t 8) (.c (.int .i64 0))), none, none, []⟩])
 (.cond (.t 9) (.seq (.region 0 [⟨(some 10), .p (.move (.t 5)), none, none, []⟩,
 ⟨(some 4), .p (.move (.t 10)), none, none, []⟩])
 (.ret))
 (.skip))))
 (.seq (.seq (.region 0 [⟨(some 11), .p (.move (.t 1)), none, none, []⟩,
 ⟨(some 12), .p (.un .not (.t 11)), none, none, []⟩])
 (.cond (.t 12) (.seq (.region 0 [⟨(some 4), .p (.move (.c (.int .i64 1))), none, none, []⟩])
 (.ret))
 (.skip)))
 (.seq (.region 0 [⟨(some 4), .p (.move (.c (.int .i64 0))), none, none, []⟩])
 (.ret))))⟩
/-- almadraba/almadrabaref02.IsForce -/
def f73 : AFn := ⟨5, [.tmp 2],
 .seq (.region 0 [⟨(some 2), .p (.move (.c (.bool false))), none, none, []⟩])
 (.seq (.region 0 [⟨(some 3), .p (.move (.t 0)), none, none, []⟩,
 ⟨(some 4), .call 1 67 [(.t 3), (.c (.int .i64 0)), (.c (.int .i64 20))], none, none, []⟩,
 ⟨(some 2), .p (.move (.t 4)), none, none, []⟩])
 (.ret))⟩
/-- almadraba/almadrabaref02.LoadOf -/
def f74 : AFn := ⟨16, [.tmp 6],
 .seq (.region 0 [⟨(some 3), .box (.t 0), none, none, []⟩,
 ⟨(some 6), .p (.move (.c (.int .i64 0))), none, none, []⟩])
 (.seq (.region 0 [⟨(some 7), .p (.fieldAddr 0 (.t 3)), none, none, []⟩,
 ⟨(some 8), .load false 1 (.t 7), none, none, []⟩,
 ⟨(some 9), .p (.move (.t 1)), none, none, []⟩,
 ⟨(some 10), .p (.bin .mul (.t 8) (.t 9)), none, none, []⟩,
 ⟨(some 11), .p (.fieldAddr 1 (.t 3)), none, none, []⟩,
 ⟨(some 12), .load false 1 (.t 11), none, none, []⟩,
 ⟨(some 13), .p (.move (.t 2)), none, none, []⟩,
 ⟨(some 14), .p (.bin .mul (.t 12) (.t 13)), none, none, []⟩,
 ⟨(some 15), .p (.bin .add (.t 10) (.t 14)), none, none, []⟩,
 ⟨(some 6), .p (.move (.t 15)), none, none, []⟩])
 (.ret))⟩
/-- almadraba/anchors.Upright$1 -/
def f75 : AFn := ⟨18, [.tmp 3],
 .seq (.region 0 [⟨(some 3), .p (.move (.c (.bool false))), none, none, []⟩])
 (.seq (.region 0 [⟨(some 4), .p (.fieldAddr 2 (.t 1)), none, none, []⟩,
 ⟨(some 5), .load false 1 (.t 4), none, none, []⟩,
 ⟨(some 6), .p (.move (.t 0)), none, none, []⟩,
 ⟨(some 7), .p (.bin .mul (.t 5) (.t 6)), none, none, []⟩,
 ⟨(some 8), .p (.fieldAddr 3 (.t 1)), none, none, []⟩,
 ⟨(some 9), .load false 1 (.t 8), none, none, []⟩,
 ⟨(some 10), .p (.bin .leq (.t 7) (.t 9)), none, none, []⟩,
 ⟨(some 11), .p (.move (.t 10)), none, none, []⟩,
 ⟨(some 12), .p (.fieldAddr 3 (.t 1)), (some (11, true)), none, []⟩,
 ⟨(some 13), .load false 1 (.t 12), (some (11, true)), none, []⟩,
 ⟨(some 14), .p (.fieldAddr 4 (.t 1)), (some (11, true)), none, []⟩,
 ⟨(some 15), .load false 1 (.t 14), (some (11, true)), none, []⟩,
 ⟨(some 16), .p (.bin .leq (.t 13) (.t 15)), (some (11, true)), none, []⟩,
 ⟨(some 17), .p (.pick (.t 11) (.t 16) (.c (.bool false))), none, none, []⟩,
 ⟨(some 3), .p (.move (.t 17)), none, none, []⟩])
 (.ret))⟩
/-- almadraba/anchors.known -/
def f76 : AFn := ⟨10, [.tmp 4],
 .seq (.region 0 [⟨(some 4), .p (.move (.c (.int .i64 0))), none, none, []⟩])
 (.seq (.block 0 (.seq (.region 0 [⟨(some 6), .p (.move (.t 0)), none, none, []⟩,
 ⟨(some 5), .p (.move (.t 6)), none, none, []⟩])
 (.cond (.t 5) (.seq (.region 0 [⟨(some 4), .p (.move (.c (.int .i64 1))), none, none, []⟩])
 (.ret))
 (.seq (.region 0 [⟨(some 8), .p (.move (.t 1)), none, none, []⟩,
 ⟨(some 9), .p (.un .not (.t 8)), none, none, []⟩,
 ⟨(some 7), .p (.move (.t 9)), none, none, []⟩])
 (.cond (.t 7) (.seq (.region 0 [⟨(some 4), .p (.move (.c (.int .i64 2))), none, none, []⟩])
 (.ret))
 (.skip))))))
 (.seq (.region 0 [⟨(some 4), .p (.move (.c (.int .i64 3))), none, none, []⟩])
 (.ret)))⟩
/-- almadraba/almadrabaref02.IsUpright -/
def f77 : AFn := ⟨14, [.tmp 4],
 .seq (.region 0 [⟨(some 2), .box (.t 0), none, none, []⟩,
 ⟨(some 4), .p (.move (.c (.bool false))), none, none, []⟩])
 (.seq (.region 0 [⟨(some 5), .p (.fieldAddr 3 (.t 2)), none, none, []⟩,
 ⟨(some 6), .load false 1 (.t 5), none, none, []⟩,
 ⟨(some 7), .p (.fieldAddr 2 (.t 2)), none, none, []⟩,
 ⟨(some 8), .load false 1 (.t 7), none, none, []⟩,
 ⟨(some 9), .p (.move (.t 1)), none, none, []⟩,
 ⟨(some 10), .p (.bin .mul (.t 8) (.t 9)), none, none, []⟩,
 ⟨(some 11), .p (.fieldAddr 4 (.t 2)), none, none, []⟩,
 ⟨(some 12), .load false 1 (.t 11), none, none, []⟩,
 ⟨(some 13), .call 1 67 [(.t 6), (.t 10), (.t 12)], none, none, []⟩,
 ⟨(some 4), .p (.move (.t 13)), none, none, []⟩])
 (.ret))⟩
/-- almadraba/almadrabaref01.Known -/
def f78 : AFn := ⟨11, [.tmp 4],
 .seq (.region 0 [⟨(some 4), .p (.move (.c (.int .i64 0))), none, none, []⟩])
 (.seq (.seq (.region 0 [⟨(some 5), .p (.move (.t 0)), none, none, []⟩])
 (.block 0 (.seq (.region 0 [⟨(some 7), .p (.bin .eql (.t 5) (.c (.int .i64 0))), none, none, []⟩,
 ⟨(some 6), .p (.move (.t 7)), none, none, []⟩])
 (.cond (.t 6) (.seq (.region 0 [⟨(some 4), .p (.move (.c (.int .i64 2))), none, none, []⟩])
 (.ret))
 (.seq (.region 0 [⟨(some 9), .p (.move (.t 1)), none, none, []⟩,
 ⟨(some 10), .p (.bin .eql (.t 5) (.t 9)), none, none, []⟩,
 ⟨(some 8), .p (.move (.t 10)), none, none, []⟩])
 (.cond (.t 8) (.seq (.region 0 [⟨(some 4), .p (.move (.c (.int .i64 1))), none, none, []⟩])
 (.ret))
 (.skip)))))))
 (.seq (.region 0 [⟨(some 4), .p (.move (.c (.int .i64 3))), none, none, []⟩])
 (.ret)))⟩
/-- almadraba/anchors.isTruth -/
def f79 : AFn := ⟨47, [.tmp 4],
 .seq (.region 0 [⟨(some 2), .box (.t 0), none, none, []⟩,
 ⟨(some 3), .box (.t 1), none, none, []⟩,
 ⟨(some 4), .p (.move (.c (.bool false))), none, none, []⟩])
 (.seq (.seq (.region 0 [⟨(some 7), .p (.fieldAddr 0 (.t 2)), none, none, []⟩,
 ⟨(some 8), .load true 2 (.t 7), none, none, []⟩,
 ⟨(some 9), .p (.fieldAddr 0 (.t 3)), none, none, []⟩,
 ⟨(some 10), .load false 1 (.t 9), none, none, []⟩,
 ⟨(some 11), .call 1 114 [(.t 8), (.t 10)], none, none, []⟩,
 ⟨(some 12), .p (.un .not (.t 11)), none, none, []⟩,
 ⟨(some 13), .p (.move (.t 12)), none, none, []⟩,
 ⟨(some 14), .p (.fieldAddr 2 (.t 2)), (some (13, false)), none, []⟩,
 ⟨(some 15), .load true 2 (.t 14), (some (13, false)), none, []⟩,
 ⟨(some 16), .p (.fieldAddr 1 (.t 3)), (some (13, false)), none, []⟩,
 ⟨(some 17), .load false 1 (.t 16), (some (13, false)), none, []⟩,
 ⟨(some 18), .call 1 114 [(.t 15), (.t 17)], (some (13, false)), none, []⟩,
 ⟨(some 19), .p (.un .not (.t 18)), (some (13, false)), none, []⟩,
 ⟨(some 20), .p (.pick (.t 13) (.c (.bool true)) (.t 19)), none, none, []⟩,
 ⟨(some 21), .p (.move (.t 20)), none, none, []⟩,
 ⟨(some 22), .p (.fieldAddr 2 (.t 3)), (some (21, false)), none, []⟩,
 ⟨(some 23), .load false 1 (.t 22), (some (21, false)), none, []⟩,
 ⟨(some 24), .p (.lenS (.t 23)), (some (21, false)), none, []⟩,
 ⟨(some 25), .p (.fieldAddr 4 (.t 2)), (some (21, false)), none, []⟩,
 ⟨(some 26), .load false 1 (.t 25), (some (21, false)), none, []⟩,
 ⟨(some 27), .p (.lenS (.t 26)), (some (21, false)), none, []⟩,
 ⟨(some 28), .p (.bin .neq (.t 24) (.t 27)), (some (21, false)), none, []⟩,
 ⟨(some 29), .p (.pick (.t 21) (.c (.bool true)) (.t 28)), none, none, []⟩])
 (.cond (.t 29) (.seq (.region 0 [⟨(some 4), .p (.move (.c (.bool false))), none, none, []⟩])
 (.ret))
 (.skip)))
 (.seq (.seq (.region 0 [⟨(some 30), .p (.fieldAddr 2 (.t 3)), none, none, []⟩,
 ⟨(some 31), .load false 1 (.t 30), none, none, []⟩,
 ⟨(some 32), .p (.lenS (.t 31)), none, none, []⟩,
 ⟨(some 33), .p (.move (.c (.int .i64 0))), none, none, []⟩])
 (.block 0 (.loop (.seq (.region 0 [⟨(some 34), .p (.bin .lss (.t 33) (.t 32)), none, none, []⟩])
 (.seq (.cond (.t 34) (.skip)
 (.exit 0))
 (.seq (.block 1 (.seq (.region 0 [⟨(some 35), .p (.move (.t 33)), none, none, []⟩,
 ⟨(some 36), .p (.idxSl 1 (.t 31) (.t 33)), none, none, []⟩,
 ⟨(some 37), .load false 1 (.t 36), none, none, []⟩,
 ⟨(some 5), .p (.move (.t 35)), none, none, []⟩,
 ⟨(some 6), .p (.move (.t 37)), none, none, []⟩])
 (.seq (.region 0 [⟨(some 38), .p (.fieldAddr 4 (.t 2)), none, none, []⟩,
 ⟨(some 39), .load false 1 (.t 38), none, none, []⟩,
 ⟨(some 40), .p (.move (.t 5)), none, none, []⟩,
 ⟨(some 41), .p (.idxSl 2 (.t 39) (.t 40)), none, none, []⟩,
 ⟨(some 42), .load true 2 (.t 41), none, none, []⟩,
 ⟨(some 43), .p (.move (.t 6)), none, none, []⟩,
 ⟨(some 44), .call 1 114 [(.t 42), (.t 43)], none, none, []⟩,
 ⟨(some 45), .p (.un .not (.t 44)), none, none, []⟩])
 (.cond (.t 45) (.seq (.region 0 [⟨(some 4), .p (.move (.c (.bool false))), none, none, []⟩])
 (.ret))
 (.skip)))))
 (.region 0 [⟨(some 46), .p (.bin .add (.t 33) (.c (.int .i64 1))), none, none, []⟩,
 ⟨(some 33), .p (.move (.t 46)), none, none, []⟩])))))))
 (.seq (.region 0 [⟨(some 4), .p (.move (.c (.bool true))), none, none, []⟩])
 (.ret))))⟩
/-- (almadraba/anchors.net).first -/
def f80 : AFn := ⟨21, [.cell true 6 2],
 .seq (.region 0 [⟨(some 1), .box (.t 0), none, none, []⟩,
 ⟨(some 2), .alloc [.bool false, .bool false, .bool false, .bool false, .bool false, .bool false], none, none, []⟩])
 (.seq (.region 0 [⟨(some 3), .alloc [.bool false, .bool false, .bool false, .bool false, .bool false, .bool false], none, none, []⟩])
 (.seq (.seq (.region 0 [⟨(some 5), .p (.fieldAddr 0 (.t 1)), none, none, []⟩,
 ⟨(some 6), .p (.fieldAddr 5 (.t 5)), none, none, []⟩,
 ⟨(some 7), .load false 1 (.t 6), none, none, []⟩,
 ⟨(some 8), .p (.lenS (.t 7)), none, none, []⟩,
 ⟨(some 9), .p (.move (.c (.int .i64 0))), none, none, []⟩])
 (.block 0 (.loop (.seq (.region 0 [⟨(some 10), .p (.bin .lss (.t 9) (.t 8)), none, none, []⟩])
 (.seq (.cond (.t 10) (.skip)
 (.exit 0))
 (.seq (.block 1 (.seq (.region 0 [⟨(some 11), .p (.move (.t 9)), none, none, []⟩,
 ⟨(some 4), .p (.move (.t 11)), none, none, []⟩])
 (.region 0 [⟨(some 12), .p (.move (.t 4)), none, none, []⟩,
 ⟨(some 13), .load true 10 (.t 1), none, none, []⟩,
 ⟨(some 14), .p (.move (.t 4)), none, none, []⟩,
 ⟨(some 15), .p (.build [.bool false, .bool false, .bool false, .bool false, .bool false, .bool false] []), none, none, []⟩,
 ⟨(some 16), .call 1 94 [(.t 13), (.t 14), (.t 15)], none, none, []⟩,
 ⟨(some 17), .p (.bin .lss (.t 16) (.c (.int .i64 0))), none, none, []⟩,
 ⟨(some 18), .p (.idxArr 6 1 (.t 3) (.t 12)), none, none, []⟩,
 ⟨none, .store 1 (.t 18) (.t 17), none, none, []⟩])))
 (.region 0 [⟨(some 19), .p (.bin .add (.t 9) (.c (.int .i64 1))), none, none, []⟩,
 ⟨(some 9), .p (.move (.t 19)), none, none, []⟩])))))))
 (.seq (.region 0 [⟨(some 20), .load true 6 (.t 3), none, none, []⟩,
 ⟨none, .store 6 (.t 2) (.t 20), none, none, []⟩])
 (.ret))))⟩
/-- (almadraba/anchors.moved).list -/
def f81 : AFn := ⟨18, [.tmp 2],
 .seq (.region 0 [⟨(some 1), .box (.t 0), none, none, []⟩,
 ⟨(some 2), .p (.move (.c (.nils))), none, none, []⟩])
 (.seq (.region 0 [⟨(some 3), .p (.move (.c (.nils))), none, none, []⟩])
 (.seq (.seq (.region 0 [⟨(some 6), .load true 6 (.t 1), none, none, []⟩,
 ⟨(some 7), .p (.move (.c (.int .i64 0))), none, none, []⟩])
 (.block 0 (.loop (.seq (.region 0 [⟨(some 8), .p (.bin .lss (.t 7) (.c (.int .i64 6))), none, none, []⟩])
 (.seq (.cond (.t 8) (.skip)
 (.exit 0))
 (.seq (.block 1 (.seq (.region 0 [⟨(some 9), .p (.move (.t 7)), none, none, []⟩,
 ⟨(some 10), .p (.idx false 6 1 (.t 6) (.t 7)), none, none, []⟩,
 ⟨(some 4), .p (.move (.t 9)), none, none, []⟩,
 ⟨(some 5), .p (.move (.t 10)), none, none, []⟩])
 (.seq (.region 0 [⟨(some 11), .p (.move (.t 5)), none, none, []⟩])
 (.cond (.t 11) (.region 0 [⟨(some 12), .p (.move (.t 3)), none, none, []⟩,
 ⟨(some 13), .p (.move (.t 4)), none, none, []⟩,
 ⟨(some 14), .litS 1 1 [.int .i64 0] [(0, (.t 13))], none, none, []⟩,
 ⟨(some 15), .append false 1 8 (.t 12) (.t 14), none, none, []⟩,
 ⟨(some 3), .p (.move (.t 15)), none, none, []⟩])
 (.skip)))))
 (.region 0 [⟨(some 16), .p (.bin .add (.t 7) (.c (.int .i64 1))), none, none, []⟩,
 ⟨(some 7), .p (.move (.t 16)), none, none, []⟩])))))))
 (.seq (.region 0 [⟨(some 17), .p (.move (.t 3)), none, none, []⟩,
 ⟨(some 2), .p (.move (.t 17)), none, none, []⟩])
 (.ret))))⟩
/-- almadraba/almadrabaref02.given -/
def f82 : AFn := ⟨16, [.tmp 4],
 .seq (.region 0 [⟨(some 2), .box (.t 0), none, none, []⟩,
 ⟨(some 3), .box (.t 1), none, none, []⟩,
 ⟨(some 4), .p (.move (.c (.int .i64 0))), none, none, []⟩])
 (.seq (.seq (.region 0 [⟨(some 6), .load true 7 (.t 2), none, none, []⟩,
 ⟨(some 7), .call 1 19 [(.t 6)], none, none, []⟩,
 ⟨(some 5), .p (.move (.t 7)), none, none, []⟩])
 (.seq (.region 0 [⟨(some 8), .p (.move (.t 5)), none, none, []⟩,
 ⟨(some 9), .p (.bin .neq (.t 8) (.c (.int .i64 0))), none, none, []⟩])
 (.cond (.t 9) (.seq (.region 0 [⟨(some 10), .p (.move (.t 5)), none, none, []⟩,
 ⟨(some 4), .p (.move (.t 10)), none, none, []⟩])
 (.ret))
 (.skip))))
 (.seq (.region 0 [⟨(some 11), .load true 7 (.t 2), none, none, []⟩,
 ⟨(some 12), .load true 7 (.t 2), none, none, []⟩,
 ⟨(some 13), .load true 3 (.t 3), none, none, []⟩,
 ⟨(some 14), .call 1 102 [(.t 12), (.t 13)], none, none, []⟩,
 ⟨(some 15), .call 1 72 [(.t 11), (.t 14)], none, none, []⟩,
 ⟨(some 4), .p (.move (.t 15)), none, none, []⟩])
 (.ret)))⟩
/-- almadraba/almadrabaref02.more -/
def f83 : AFn := ⟨36, [.tmp 6],
 .seq (.region 0 [⟨(some 3), .box (.t 0), none, none, []⟩,
 ⟨(some 4), .box (.t 1), none, none, []⟩,
 ⟨(some 6), .p (.move (.c (.nils))), none, none, []⟩])
 (.seq (.region 0 [⟨(some 7), .p (.move (.c (.nils))), none, none, []⟩])
 (.seq (.seq (.region 0 [⟨(some 8), .p (.move (.c (.int .i64 0))), none, none, []⟩])
 (.block 0 (.loop (.seq (.seq (.region 0 [⟨(some 9), .p (.move (.t 8)), none, none, []⟩,
 ⟨(some 10), .p (.fieldAddr 5 (.t 3)), none, none, []⟩,
 ⟨(some 11), .load false 1 (.t 10), none, none, []⟩,
 ⟨(some 12), .p (.lenS (.t 11)), none, none, []⟩,
 ⟨(some 13), .p (.bin .lss (.t 9) (.t 12)), none, none, []⟩])
 (.cond (.t 13) (.skip)
 (.exit 0)))
 (.seq (.block 1 (.seq (.region 0 [⟨(some 16), .p (.move (.t 2)), none, none, []⟩,
 ⟨(some 17), .p (.move (.t 8)), none, none, []⟩,
 ⟨(some 18), .call 1 56 [(.t 16), (.t 17)], none, none, []⟩,
 ⟨(some 19), .p (.move (.t 18)), none, none, []⟩,
 ⟨(some 20), .load true 7 (.t 3), (some (19, false)), none, []⟩,
 ⟨(some 21), .load true 3 (.t 4), (some (19, false)), none, []⟩,
 ⟨(some 22), .p (.move (.t 8)), (some (19, false)), none, []⟩,
 ⟨(some 23), .p (.move (.t 2)), (some (19, false)), none, []⟩,
 ⟨(some 24), .call 1 104 [(.t 20), (.t 21), (.t 22), (.t 23)], (some (19, false)), none, []⟩,
 ⟨(some 25), .load true 7 (.t 3), (some (19, false)), none, []⟩,
 ⟨(some 26), .load true 3 (.t 4), (some (19, false)), none, []⟩,
 ⟨(some 27), .p (.move (.t 8)), (some (19, false)), none, []⟩,
 ⟨(some 28), .call 1 103 [(.t 25), (.t 26), (.t 27)], (some (19, false)), none, []⟩,
 ⟨(some 29), .p (.bin .gtr (.t 24) (.t 28)), (some (19, false)), none, []⟩,
 ⟨(some 30), .p (.pick (.t 19) (.c (.bool true)) (.t 29)), none, none, []⟩])
 (.cond (.t 30) (.region 0 [⟨(some 31), .p (.move (.t 7)), none, none, []⟩,
 ⟨(some 32), .p (.move (.t 8)), none, none, []⟩,
 ⟨(some 33), .litS 1 1 [.int .i64 0] [(0, (.t 32))], none, none, []⟩,
 ⟨(some 34), .append false 1 8 (.t 31) (.t 33), none, none, []⟩,
 ⟨(some 7), .p (.move (.t 34)), none, none, []⟩])
 (.skip))))
 (.region 0 [⟨(some 14), .p (.move (.t 8)), none, none, []⟩,
 ⟨(some 15), .p (.bin .add (.t 14) (.c (.int .i64 1))), none, none, []⟩,
 ⟨(some 8), .p (.move (.t 15)), none, none, []⟩]))))))
 (.seq (.region 0 [⟨(some 35), .p (.move (.t 7)), none, none, []⟩,
 ⟨(some 6), .p (.move (.t 35)), none, none, []⟩])
 (.ret))))⟩
/-- (almadraba/anchors.net).drags -/
def f84 : AFn := ⟨33, [.cell true 6 4],
 .seq (.region 0 [⟨(some 2), .box (.t 0), none, none, []⟩,
 ⟨(some 3), .box (.t 1), none, none, []⟩,
 ⟨(some 4), .alloc [.bool false, .bool false, .bool false, .bool false, .bool false, .bool false], none, none, []⟩])
 (.seq (.seq (.region 0 [⟨(some 6), .p (.fieldAddr 0 (.t 2)), none, none, []⟩,
 ⟨(some 7), .p (.fieldAddr 5 (.t 6)), none, none, []⟩,
 ⟨(some 8), .load false 1 (.t 7), none, none, []⟩,
 ⟨(some 9), .p (.lenS (.t 8)), none, none, []⟩,
 ⟨(some 10), .p (.move (.c (.int .i64 0))), none, none, []⟩])
 (.block 0 (.loop (.seq (.region 0 [⟨(some 11), .p (.bin .lss (.t 10) (.t 9)), none, none, []⟩])
 (.seq (.cond (.t 11) (.skip)
 (.exit 0))
 (.seq (.block 1 (.seq (.region 0 [⟨(some 12), .p (.fieldAddr 0 (.t 2)), none, none, []⟩,
 ⟨(some 13), .p (.fieldAddr 5 (.t 12)), none, none, []⟩,
 ⟨(some 14), .load false 1 (.t 13), none, none, []⟩,
 ⟨(some 15), .p (.lenS (.t 14)), none, none, []⟩,
 ⟨(some 16), .p (.move (.c (.int .i64 0))), none, none, []⟩])
 (.block 2 (.loop (.seq (.region 0 [⟨(some 17), .p (.bin .lss (.t 16) (.t 15)), none, none, []⟩])
 (.seq (.cond (.t 17) (.skip)
 (.exit 2))
 (.seq (.block 3 (.seq (.region 0 [⟨(some 18), .p (.move (.t 16)), none, none, []⟩,
 ⟨(some 5), .p (.move (.t 18)), none, none, []⟩])
 (.seq (.region 0 [⟨(some 19), .p (.move (.t 5)), none, none, []⟩,
 ⟨(some 20), .p (.idxArr 6 1 (.t 3) (.t 19)), none, none, []⟩,
 ⟨(some 21), .load false 1 (.t 20), none, none, []⟩,
 ⟨(some 22), .p (.un .not (.t 21)), none, none, []⟩])
 (.cond (.t 22) (.region 0 [⟨(some 23), .p (.move (.t 5)), none, none, []⟩,
 ⟨(some 24), .load true 10 (.t 2), none, none, []⟩,
 ⟨(some 25), .p (.move (.t 5)), none, none, []⟩,
 ⟨(some 26), .load true 6 (.t 3), none, none, []⟩,
 ⟨(some 27), .call 1 94 [(.t 24), (.t 25), (.t 26)], none, none, []⟩,
 ⟨(some 28), .p (.bin .lss (.t 27) (.c (.int .i64 0))), none, none, []⟩,
 ⟨(some 29), .p (.idxArr 6 1 (.t 3) (.t 23)), none, none, []⟩,
 ⟨none, .store 1 (.t 29) (.t 28), none, none, []⟩])
 (.skip)))))
 (.region 0 [⟨(some 30), .p (.bin .add (.t 16) (.c (.int .i64 1))), none, none, []⟩,
 ⟨(some 16), .p (.move (.t 30)), none, none, []⟩]))))))))
 (.region 0 [⟨(some 31), .p (.bin .add (.t 10) (.c (.int .i64 1))), none, none, []⟩,
 ⟨(some 10), .p (.move (.t 31)), none, none, []⟩])))))))
 (.seq (.region 0 [⟨(some 32), .load true 6 (.t 3), none, none, []⟩,
 ⟨none, .store 6 (.t 4) (.t 32), none, none, []⟩])
 (.ret)))⟩
/-- almadraba/almadrabaref02.AtLast -/
def f85 : AFn := ⟨22, [.tmp 6],
 .seq (.region 0 [⟨(some 3), .box (.t 0), none, none, []⟩,
 ⟨(some 4), .box (.t 1), none, none, []⟩,
 ⟨(some 6), .p (.move (.c (.nils))), none, none, []⟩])
 (.seq (.region 0 [⟨(some 8), .load true 7 (.t 3), none, none, []⟩,
 ⟨(some 9), .load true 3 (.t 4), none, none, []⟩,
 ⟨(some 10), .p (.move (.t 2)), none, none, []⟩,
 ⟨(some 11), .call 1 83 [(.t 8), (.t 9), (.t 10)], none, none, []⟩,
 ⟨(some 7), .p (.move (.t 11)), none, none, []⟩])
 (.seq (.seq (.region 0 [⟨(some 12), .p (.move (.t 7)), none, none, []⟩,
 ⟨(some 13), .p (.lenS (.t 12)), none, none, []⟩,
 ⟨(some 14), .p (.move (.t 2)), none, none, []⟩,
 ⟨(some 15), .p (.lenS (.t 14)), none, none, []⟩,
 ⟨(some 16), .p (.bin .eql (.t 13) (.t 15)), none, none, []⟩])
 (.cond (.t 16) (.seq (.region 0 [⟨(some 17), .p (.move (.t 7)), none, none, []⟩,
 ⟨(some 6), .p (.move (.t 17)), none, none, []⟩])
 (.ret))
 (.skip)))
 (.seq (.region 0 [⟨(some 18), .load true 7 (.t 3), none, none, []⟩,
 ⟨(some 19), .load true 3 (.t 4), none, none, []⟩,
 ⟨(some 20), .p (.move (.t 7)), none, none, []⟩,
 ⟨(some 21), .call 1 85 [(.t 18), (.t 19), (.t 20)], none, none, []⟩,
 ⟨(some 6), .p (.move (.t 21)), none, none, []⟩])
 (.ret))))⟩
/-- almadraba/anchors.hasAnchor -/
def f86 : AFn := ⟨12, [.tmp 4],
 .seq (.region 0 [⟨(some 2), .box (.t 0), none, none, []⟩,
 ⟨(some 4), .p (.move (.c (.bool false))), none, none, []⟩])
 (.seq (.region 0 [⟨(some 5), .p (.fieldAddr 5 (.t 2)), none, none, []⟩,
 ⟨(some 6), .load false 1 (.t 5), none, none, []⟩,
 ⟨(some 7), .p (.lenS (.t 6)), none, none, []⟩,
 ⟨(some 8), .p (.bin .sub (.t 7) (.c (.int .i64 1))), none, none, []⟩,
 ⟨(some 9), .p (.move (.t 1)), none, none, []⟩,
 ⟨(some 10), .litS 1 1 [.int .i64 0] [(0, (.t 9))], none, none, []⟩,
 ⟨(some 11), .call 1 70 [(.t 8), (.t 10)], none, none, []⟩,
 ⟨(some 4), .p (.move (.t 11)), none, none, []⟩])
 (.ret))⟩
/-- (almadraba/anchors.net).pulled -/
def f87 : AFn := ⟨11, [.cell true 6 4],
 .seq (.region 0 [⟨(some 2), .box (.t 0), none, none, []⟩,
 ⟨(some 4), .alloc [.bool false, .bool false, .bool false, .bool false, .bool false, .bool false], none, none, []⟩])
 (.seq (.region 0 [⟨(some 5), .alloc [.bool false, .bool false, .bool false, .bool false, .bool false, .bool false], none, none, []⟩])
 (.seq (.region 0 [⟨(some 6), .p (.move (.t 1)), none, none, []⟩,
 ⟨(some 7), .p (.idxArr 6 1 (.t 5) (.t 6)), none, none, []⟩,
 ⟨none, .store 1 (.t 7) (.c (.bool true)), none, none, []⟩])
 (.seq (.region 0 [⟨(some 8), .load true 10 (.t 2), none, none, []⟩,
 ⟨(some 9), .load true 6 (.t 5), none, none, []⟩,
 ⟨(some 10), .call 1 84 [(.t 8), (.t 9)], none, none, []⟩,
 ⟨none, .store 6 (.t 4) (.t 10), none, none, []⟩])
 (.ret))))⟩
/-- (almadraba/anchors.moved).count -/
def f88 : AFn := ⟨6, [.tmp 2],
 .seq (.region 0 [⟨(some 1), .box (.t 0), none, none, []⟩,
 ⟨(some 2), .p (.move (.c (.int .i64 0))), none, none, []⟩])
 (.seq (.region 0 [⟨(some 3), .load true 6 (.t 1), none, none, []⟩,
 ⟨(some 4), .call 1 81 [(.t 3)], none, none, []⟩,
 ⟨(some 5), .p (.lenS (.t 4)), none, none, []⟩,
 ⟨(some 2), .p (.move (.t 5)), none, none, []⟩])
 (.ret))⟩
/-- almadraba/anchors.calmest -/
def f89 : AFn := ⟨5, [.cell true 10 2],
 .seq (.region 0 [⟨(some 1), .box (.t 0), none, none, []⟩,
 ⟨(some 2), .alloc [.int .i64 0, .int .i64 0, .int .i64 0, .int .i64 0, .nils, .nils, .nils, .int .i64 0, .int .i64 0, .nils], none, none, []⟩])
 (.seq (.region 0 [⟨(some 3), .load true 7 (.t 1), none, none, []⟩,
 ⟨(some 4), .call 1 115 [(.t 3), (.c (.fn 116 [] [])), (.c (.fn 117 [] []))], none, none, []⟩,
 ⟨none, .store 10 (.t 2) (.t 4), none, none, []⟩])
 (.ret))⟩
/-- almadraba/anchors.roughest -/
def f90 : AFn := ⟨5, [.cell true 10 2],
 .seq (.region 0 [⟨(some 1), .box (.t 0), none, none, []⟩,
 ⟨(some 2), .alloc [.int .i64 0, .int .i64 0, .int .i64 0, .int .i64 0, .nils, .nils, .nils, .int .i64 0, .int .i64 0, .nils], none, none, []⟩])
 (.seq (.region 0 [⟨(some 3), .load true 7 (.t 1), none, none, []⟩,
 ⟨(some 4), .call 0 115 [(.t 3), (.c (.fn 117 [] [])), (.c (.fn 116 [] []))], none, none, []⟩,
 ⟨none, .store 10 (.t 2) (.t 4), none, none, []⟩])
 (.ret))⟩
/-- almadraba/almadrabaref02.Truths -/
def f91 : AFn := ⟨47, [.tmp 2],
 .seq (.region 0 [⟨(some 1), .box (.t 0), none, none, []⟩,
 ⟨(some 2), .p (.move (.c (.nils))), none, none, []⟩])
 (.seq (.region 0 [⟨(some 3), .p (.move (.c (.nils))), none, none, []⟩])
 (.seq (.region 0 [⟨(some 8), .load true 7 (.t 1), none, none, []⟩,
 ⟨(some 9), .call 1 118 [(.t 8), (.c (.nils))], none, none, []⟩,
 ⟨(some 4), .p (.move (.t 9)), none, none, []⟩])
 (.seq (.seq (.region 0 [⟨(some 10), .p (.fieldAddr 0 (.t 1)), none, none, []⟩,
 ⟨(some 11), .p (.fieldAddr 0 (.t 10)), none, none, []⟩,
 ⟨(some 12), .load false 1 (.t 11), none, none, []⟩,
 ⟨(some 5), .p (.move (.t 12)), none, none, []⟩])
 (.block 0 (.loop (.seq (.seq (.region 0 [⟨(some 13), .p (.move (.t 5)), none, none, []⟩,
 ⟨(some 14), .p (.fieldAddr 0 (.t 1)), none, none, []⟩,
 ⟨(some 15), .p (.fieldAddr 1 (.t 14)), none, none, []⟩,
 ⟨(some 16), .load false 1 (.t 15), none, none, []⟩,
 ⟨(some 17), .p (.bin .leq (.t 13) (.t 16)), none, none, []⟩])
 (.cond (.t 17) (.skip)
 (.exit 0)))
 (.seq (.block 1 (.seq (.region 0 [⟨(some 20), .p (.fieldAddr 2 (.t 1)), none, none, []⟩,
 ⟨(some 21), .p (.fieldAddr 0 (.t 20)), none, none, []⟩,
 ⟨(some 22), .load false 1 (.t 21), none, none, []⟩,
 ⟨(some 6), .p (.move (.t 22)), none, none, []⟩])
 (.block 2 (.loop (.seq (.seq (.region 0 [⟨(some 23), .p (.move (.t 6)), none, none, []⟩,
 ⟨(some 24), .p (.fieldAddr 2 (.t 1)), none, none, []⟩,
 ⟨(some 25), .p (.fieldAddr 1 (.t 24)), none, none, []⟩,
 ⟨(some 26), .load false 1 (.t 25), none, none, []⟩,
 ⟨(some 27), .p (.bin .leq (.t 23) (.t 26)), none, none, []⟩])
 (.cond (.t 27) (.skip)
 (.exit 2)))
 (.seq (.block 3 (.seq (.region 0 [⟨(some 7), .p (.move (.c (.int .i64 0))), none, none, []⟩])
 (.block 4 (.loop (.seq (.seq (.region 0 [⟨(some 30), .p (.move (.t 7)), none, none, []⟩,
 ⟨(some 31), .p (.move (.t 4)), none, none, []⟩,
 ⟨(some 32), .p (.lenS (.t 31)), none, none, []⟩,
 ⟨(some 33), .p (.bin .lss (.t 30) (.t 32)), none, none, []⟩])
 (.cond (.t 33) (.skip)
 (.exit 4)))
 (.seq (.block 5 (.region 0 [⟨(some 36), .p (.move (.t 3)), none, none, []⟩,
 ⟨(some 37), .p (.move (.t 5)), none, none, []⟩,
 ⟨(some 38), .p (.move (.t 6)), none, none, []⟩,
 ⟨(some 39), .p (.move (.t 4)), none, none, []⟩,
 ⟨(some 40), .p (.move (.t 7)), none, none, []⟩,
 ⟨(some 41), .p (.idxSl 1 (.t 39) (.t 40)), none, none, []⟩,
 ⟨(some 42), .load false 1 (.t 41), none, none, []⟩,
 ⟨(some 43), .p (.build [.int .i64 0, .int .i64 0, .nils] [(0, 1, (.t 37)), (1, 1, (.t 38)), (2, 1, (.t 42))]), none, none, []⟩,
 ⟨(some 44), .litS 3 1 [.int .i64 0, .int .i64 0, .nils] [(0, (.t 43))], none, none, []⟩,
 ⟨(some 45), .append false 3 40 (.t 36) (.t 44), none, none, []⟩,
 ⟨(some 3), .p (.move (.t 45)), none, none, []⟩]))
 (.region 0 [⟨(some 34), .p (.move (.t 7)), none, none, []⟩,
 ⟨(some 35), .p (.bin .add (.t 34) (.c (.int .i64 1))), none, none, []⟩,
 ⟨(some 7), .p (.move (.t 35)), none, none, []⟩])))))))
 (.region 0 [⟨(some 28), .p (.move (.t 6)), none, none, []⟩,
 ⟨(some 29), .p (.bin .add (.t 28) (.c (.int .i64 1))), none, none, []⟩,
 ⟨(some 6), .p (.move (.t 29)), none, none, []⟩])))))))
 (.region 0 [⟨(some 18), .p (.move (.t 5)), none, none, []⟩,
 ⟨(some 19), .p (.bin .add (.t 18) (.c (.int .i64 1))), none, none, []⟩,
 ⟨(some 5), .p (.move (.t 19)), none, none, []⟩]))))))
 (.seq (.region 0 [⟨(some 46), .p (.move (.t 3)), none, none, []⟩,
 ⟨(some 2), .p (.move (.t 46)), none, none, []⟩])
 (.ret)))))⟩
/-- (almadraba/anchors.net).holds -/
def f92 : AFn := ⟨7, [.tmp 2],
 .seq (.region 0 [⟨(some 1), .box (.t 0), none, none, []⟩,
 ⟨(some 2), .p (.move (.c (.bool false))), none, none, []⟩])
 (.seq (.region 0 [⟨(some 3), .load true 10 (.t 1), none, none, []⟩,
 ⟨(some 4), .call 1 80 [(.t 3)], none, none, []⟩,
 ⟨(some 5), .call 1 88 [(.t 4)], none, none, []⟩,
 ⟨(some 6), .p (.bin .eql (.t 5) (.c (.int .i64 0))), none, none, []⟩,
 ⟨(some 2), .p (.move (.t 6)), none, none, []⟩])
 (.ret))⟩
/-- almadraba/almadrabaref02.quiet -/
def f93 : AFn := ⟨27, [.tmp 2, .tmp 3],
 .seq (.region 0 [⟨(some 1), .box (.t 0), none, none, []⟩,
 ⟨(some 2), .p (.move (.c (.int .i64 0))), none, none, []⟩,
 ⟨(some 3), .p (.move (.c (.int .i64 0))), none, none, []⟩])
 (.seq (.region 0 [⟨(some 6), .load true 7 (.t 1), none, none, []⟩,
 ⟨(some 7), .call 1 91 [(.t 6)], none, none, []⟩,
 ⟨(some 4), .p (.move (.t 7)), none, none, []⟩])
 (.seq (.seq (.region 0 [⟨(some 5), .p (.move (.c (.int .i64 0))), none, none, []⟩])
 (.block 0 (.loop (.seq (.seq (.region 0 [⟨(some 8), .p (.move (.t 5)), none, none, []⟩,
 ⟨(some 9), .p (.move (.t 4)), none, none, []⟩,
 ⟨(some 10), .p (.lenS (.t 9)), none, none, []⟩,
 ⟨(some 11), .p (.bin .lss (.t 8) (.t 10)), none, none, []⟩])
 (.cond (.t 11) (.skip)
 (.exit 0)))
 (.seq (.block 1 (.seq (.region 0 [⟨(some 14), .load true 7 (.t 1), none, none, []⟩,
 ⟨(some 15), .p (.move (.t 4)), none, none, []⟩,
 ⟨(some 16), .p (.move (.t 5)), none, none, []⟩,
 ⟨(some 17), .p (.idxSl 3 (.t 15) (.t 16)), none, none, []⟩,
 ⟨(some 18), .load true 3 (.t 17), none, none, []⟩,
 ⟨(some 19), .call 1 83 [(.t 14), (.t 18), (.c (.nils))], none, none, []⟩,
 ⟨(some 20), .p (.lenS (.t 19)), none, none, []⟩,
 ⟨(some 21), .p (.bin .eql (.t 20) (.c (.int .i64 0))), none, none, []⟩])
 (.cond (.t 21) (.region 0 [⟨(some 22), .p (.move (.t 2)), none, none, []⟩,
 ⟨(some 23), .p (.bin .add (.t 22) (.c (.int .i64 1))), none, none, []⟩,
 ⟨(some 2), .p (.move (.t 23)), none, none, []⟩])
 (.skip))))
 (.region 0 [⟨(some 12), .p (.move (.t 5)), none, none, []⟩,
 ⟨(some 13), .p (.bin .add (.t 12) (.c (.int .i64 1))), none, none, []⟩,
 ⟨(some 5), .p (.move (.t 13)), none, none, []⟩]))))))
 (.seq (.region 0 [⟨(some 24), .p (.move (.t 2)), none, none, []⟩,
 ⟨(some 25), .p (.move (.t 4)), none, none, []⟩,
 ⟨(some 26), .p (.lenS (.t 25)), none, none, []⟩,
 ⟨(some 2), .p (.move (.t 24)), none, none, []⟩,
 ⟨(some 3), .p (.move (.t 26)), none, none, []⟩])
 (.ret))))⟩
/-- (almadraba/anchors.net).spare -/
def f94 : AFn := ⟨30, [.tmp 6],
 .seq (.region 0 [⟨(some 3), .box (.t 0), none, none, []⟩,
 ⟨(some 5), .box (.t 2), none, none, []⟩,
 ⟨(some 6), .p (.move (.c (.int .i64 0))), none, none, []⟩])
 (.seq (.region 0 [⟨(some 8), .p (.fieldAddr 0 (.t 3)), none, none, []⟩,
 ⟨(some 9), .p (.fieldAddr 5 (.t 8)), none, none, []⟩,
 ⟨(some 10), .load false 1 (.t 9), none, none, []⟩,
 ⟨(some 11), .p (.move (.t 1)), none, none, []⟩,
 ⟨(some 12), .p (.idxSl 2 (.t 10) (.t 11)), none, none, []⟩,
 ⟨(some 13), .load true 2 (.t 12), none, none, []⟩,
 ⟨(some 7), .alloc [.int .i64 0, .int .i64 0], none, none, []⟩,
 ⟨none, .store 2 (.t 7) (.t 13), none, none, []⟩])
 (.seq (.region 0 [⟨(some 14), .p (.fieldAddr 0 (.t 7)), none, none, []⟩,
 ⟨(some 15), .load false 1 (.t 14), none, none, []⟩,
 ⟨(some 16), .p (.bin .mul (.c (.int .i64 2)) (.t 15)), none, none, []⟩,
 ⟨(some 17), .p (.fieldAddr 7 (.t 3)), none, none, []⟩,
 ⟨(some 18), .p (.fieldAddr 2 (.t 17)), none, none, []⟩,
 ⟨(some 19), .load false 1 (.t 18), none, none, []⟩,
 ⟨(some 20), .p (.fieldAddr 1 (.t 7)), none, none, []⟩,
 ⟨(some 21), .load false 1 (.t 20), none, none, []⟩,
 ⟨(some 22), .p (.idxSl 1 (.t 19) (.t 21)), none, none, []⟩,
 ⟨(some 23), .load false 1 (.t 22), none, none, []⟩,
 ⟨(some 24), .p (.bin .mul (.t 16) (.t 23)), none, none, []⟩,
 ⟨(some 25), .load true 10 (.t 3), none, none, []⟩,
 ⟨(some 26), .p (.move (.t 1)), none, none, []⟩,
 ⟨(some 27), .load true 6 (.t 5), none, none, []⟩,
 ⟨(some 28), .call 1 119 [(.t 25), (.t 26), (.t 27)], none, none, []⟩,
 ⟨(some 29), .p (.bin .sub (.t 24) (.t 28)), none, none, []⟩,
 ⟨(some 6), .p (.move (.t 29)), none, none, []⟩])
 (.ret)))⟩
/-- almadraba/anchors.isWind -/
def f95 : AFn := ⟨7, [.tmp 2, .tmp 3],
 .seq (.region 0 [⟨(some 2), .p (.move (.c (.int .i64 0))), none, none, []⟩,
 ⟨(some 3), .p (.move (.c (.int .i64 0))), none, none, []⟩])
 (.seq (.seq (.region 0 [⟨(some 4), .p (.move (.t 0)), none, none, []⟩,
 ⟨(some 5), .p (.bin .gtr (.t 4) (.c (.int .i64 20))), none, none, []⟩])
 (.cond (.t 5) (.seq (.region 0 [⟨(some 2), .p (.move (.c (.int .i64 0))), none, none, []⟩,
 ⟨(some 3), .p (.move (.c (.int .i64 3))), none, none, []⟩])
 (.ret))
 (.skip)))
 (.seq (.region 0 [⟨(some 6), .p (.move (.t 0)), none, none, []⟩,
 ⟨(some 2), .p (.move (.t 6)), none, none, []⟩,
 ⟨(some 3), .p (.move (.c (.int .i64 0))), none, none, []⟩])
 (.ret)))⟩
/-- (almadraba/anchors.net).leastWind -/
def f96 : AFn := ⟨15, [.tmp 2],
 .seq (.region 0 [⟨(some 1), .box (.t 0), none, none, []⟩,
 ⟨(some 2), .p (.move (.c (.int .i64 0))), none, none, []⟩])
 (.seq (.seq (.region 0 [⟨(some 4), .p (.move (.c (.int .i64 0))), none, none, []⟩])
 (.block 0 (.loop (.seq (.region 0 [⟨(some 5), .p (.bin .lss (.t 4) (.c (.int .i64 21))), none, none, []⟩])
 (.seq (.cond (.t 5) (.skip)
 (.exit 0))
 (.seq (.block 1 (.seq (.region 0 [⟨(some 6), .p (.move (.t 4)), none, none, []⟩,
 ⟨(some 3), .p (.move (.t 6)), none, none, []⟩])
 (.seq (.region 0 [⟨(some 7), .p (.move (.t 3)), none, none, []⟩,
 ⟨(some 8), .p (.fieldAddr 7 (.t 1)), none, none, []⟩,
 ⟨(some 9), .p (.fieldAddr 0 (.t 8)), none, none, []⟩,
 ⟨none, .store 1 (.t 9) (.t 7), none, none, []⟩])
 (.seq (.region 0 [⟨(some 10), .load true 10 (.t 1), none, none, []⟩,
 ⟨(some 11), .call 1 92 [(.t 10)], none, none, []⟩,
 ⟨(some 12), .p (.un .not (.t 11)), none, none, []⟩])
 (.cond (.t 12) (.seq (.region 0 [⟨(some 13), .p (.move (.t 3)), none, none, []⟩,
 ⟨(some 2), .p (.move (.t 13)), none, none, []⟩])
 (.ret))
 (.skip))))))
 (.region 0 [⟨(some 14), .p (.bin .add (.t 4) (.c (.int .i64 1))), none, none, []⟩,
 ⟨(some 4), .p (.move (.t 14)), none, none, []⟩])))))))
 (.seq (.region 0 [⟨(some 2), .p (.move (.c (.int .i64 21))), none, none, []⟩])
 (.ret)))⟩
/-- almadraba/almadrabaref02.windOf -/
def f97 : AFn := ⟨22, [.tmp 2],
 .seq (.region 0 [⟨(some 1), .box (.t 0), none, none, []⟩,
 ⟨(some 2), .p (.move (.c (.int .i64 0))), none, none, []⟩])
 (.seq (.region 0 [⟨(some 3), .p (.move (.c (.int .i64 0))), none, none, []⟩])
 (.seq (.block 0 (.loop (.seq (.seq (.region 0 [⟨(some 6), .p (.move (.t 3)), none, none, []⟩,
 ⟨(some 7), .p (.bin .leq (.t 6) (.c (.int .i64 20))), none, none, []⟩])
 (.cond (.t 7) (.skip)
 (.exit 0)))
 (.block 1 (.seq (.seq (.region 0 [⟨(some 9), .load true 7 (.t 1), none, none, []⟩,
 ⟨(some 10), .p (.move (.t 3)), none, none, []⟩,
 ⟨(some 11), .call 1 98 [(.t 9), (.t 10)], none, none, []⟩,
 ⟨(some 12), .call 1 93 [(.t 11)], none, none, []⟩,
 ⟨(some 8), .p (.move (.t 12)), none, none, []⟩,
 ⟨(some 13), .p (.extract (.t 8) 0), none, none, []⟩,
 ⟨(some 14), .p (.extract (.t 8) 1), none, none, []⟩,
 ⟨(some 4), .p (.move (.t 13)), none, none, []⟩,
 ⟨(some 5), .p (.move (.t 14)), none, none, []⟩])
 (.seq (.region 0 [⟨(some 15), .p (.move (.t 4)), none, none, []⟩,
 ⟨(some 16), .p (.move (.t 5)), none, none, []⟩,
 ⟨(some 17), .p (.bin .lss (.t 15) (.t 16)), none, none, []⟩])
 (.cond (.t 17) (.seq (.region 0 [⟨(some 18), .p (.move (.t 3)), none, none, []⟩,
 ⟨(some 2), .p (.move (.t 18)), none, none, []⟩])
 (.ret))
 (.skip))))
 (.region 0 [⟨(some 19), .p (.move (.t 3)), none, none, []⟩,
 ⟨(some 20), .p (.bin .add (.t 19) (.c (.int .i64 1))), none, none, []⟩,
 ⟨(some 3), .p (.move (.t 20)), none, none, []⟩]))))))
 (.seq (.region 0 [⟨(some 21), .p (.move (.t 3)), none, none, []⟩,
 ⟨(some 2), .p (.move (.t 21)), none, none, []⟩])
 (.ret))))⟩
/-- almadraba/almadrabaref02.InWind -/
def f98 : AFn := ⟨13, [.cell true 7 4],
 .seq (.region 0 [⟨(some 2), .box (.t 0), none, none, []⟩,
 ⟨(some 4), .alloc [.int .i64 0, .int .i64 0, .int .i64 0, .int .i64 0, .nils, .nils, .nils], none, none, []⟩])
 (.seq (.region 0 [⟨(some 6), .load true 7 (.t 2), none, none, []⟩,
 ⟨(some 7), .call 1 17 [(.t 6)], none, none, []⟩,
 ⟨(some 5), .alloc [.int .i64 0, .int .i64 0, .int .i64 0, .int .i64 0, .nils, .nils, .nils], none, none, []⟩,
 ⟨none, .store 7 (.t 5) (.t 7), none, none, []⟩])
 (.seq (.region 0 [⟨(some 8), .p (.move (.t 1)), none, none, []⟩,
 ⟨(some 9), .p (.move (.t 1)), none, none, []⟩,
 ⟨(some 10), .p (.build [.int .i64 0, .int .i64 0] [(0, 1, (.t 8)), (1, 1, (.t 9))]), none, none, []⟩,
 ⟨(some 11), .p (.fieldAddr 0 (.t 5)), none, none, []⟩,
 ⟨none, .store 2 (.t 11) (.t 10), none, none, []⟩])
 (.seq (.region 0 [⟨(some 12), .load true 7 (.t 5), none, none, []⟩,
 ⟨none, .store 7 (.t 4) (.t 12), none, none, []⟩])
 (.ret))))⟩
/-- almadraba/anchors.help -/
def f99 : AFn := ⟨47, [.tmp 2, .tmp 3],
 .seq (.region 0 [⟨(some 1), .box (.t 0), none, none, []⟩,
 ⟨(some 2), .p (.move (.c (.int .i64 0))), none, none, []⟩,
 ⟨(some 3), .p (.move (.c (.int .i64 0))), none, none, []⟩])
 (.seq (.region 0 [⟨(some 4), .p (.move (.c (.int .i64 0))), none, none, []⟩,
 ⟨(some 5), .p (.move (.c (.int .i64 (-1)))), none, none, []⟩])
 (.seq (.seq (.region 0 [⟨(some 10), .p (.fieldAddr 5 (.t 1)), none, none, []⟩,
 ⟨(some 11), .load false 1 (.t 10), none, none, []⟩,
 ⟨(some 12), .p (.lenS (.t 11)), none, none, []⟩,
 ⟨(some 13), .p (.move (.c (.int .i64 0))), none, none, []⟩])
 (.block 0 (.loop (.seq (.region 0 [⟨(some 14), .p (.bin .lss (.t 13) (.t 12)), none, none, []⟩])
 (.seq (.cond (.t 14) (.skip)
 (.exit 0))
 (.seq (.block 1 (.seq (.region 0 [⟨(some 15), .p (.move (.t 13)), none, none, []⟩,
 ⟨(some 16), .p (.idxSl 2 (.t 11) (.t 13)), none, none, []⟩,
 ⟨(some 17), .load true 2 (.t 16), none, none, []⟩,
 ⟨(some 7), .alloc [.int .i64 0, .int .i64 0], none, none, []⟩,
 ⟨(some 6), .p (.move (.t 15)), none, none, []⟩,
 ⟨none, .store 2 (.t 7) (.t 17), none, none, []⟩])
 (.seq (.seq (.region 0 [⟨(some 18), .p (.fieldAddr 0 (.t 7)), none, none, []⟩,
 ⟨(some 19), .load false 1 (.t 18), none, none, []⟩,
 ⟨(some 20), .p (.bin .eql (.t 19) (.c (.int .i64 20))), none, none, []⟩])
 (.cond (.t 20) (.exit 1)
 (.skip)))
 (.seq (.region 0 [⟨(some 21), .load true 7 (.t 1), none, none, []⟩,
 ⟨(some 8), .alloc [.int .i64 0, .int .i64 0, .int .i64 0, .int .i64 0, .nils, .nils, .nils], none, none, []⟩,
 ⟨none, .store 7 (.t 8) (.t 21), none, none, []⟩])
 (.seq (.region 0 [⟨(some 22), .p (.fieldAddr 5 (.t 1)), none, none, []⟩,
 ⟨(some 23), .load false 1 (.t 22), none, none, []⟩,
 ⟨(some 24), .call 2 120 [(.t 23)], none, none, []⟩,
 ⟨(some 25), .p (.fieldAddr 5 (.t 8)), none, none, []⟩,
 ⟨none, .store 1 (.t 25) (.t 24), none, none, []⟩])
 (.seq (.region 0 [⟨(some 26), .p (.fieldAddr 5 (.t 8)), none, none, []⟩,
 ⟨(some 27), .load false 1 (.t 26), none, none, []⟩,
 ⟨(some 28), .p (.move (.t 6)), none, none, []⟩,
 ⟨(some 29), .p (.idxSl 2 (.t 27) (.t 28)), none, none, []⟩,
 ⟨(some 30), .p (.fieldAddr 0 (.t 29)), none, none, []⟩,
 ⟨(some 31), .load false 1 (.t 30), none, none, []⟩,
 ⟨(some 32), .p (.bin .add (.t 31) (.c (.int .i64 1))), none, none, []⟩,
 ⟨(some 33), .p (.idxSl 2 (.t 27) (.t 28)), none, none, []⟩,
 ⟨(some 34), .p (.fieldAddr 0 (.t 33)), none, none, []⟩,
 ⟨none, .store 1 (.t 34) (.t 32), none, none, []⟩])
 (.seq (.region 0 [⟨(some 35), .load true 7 (.t 8), none, none, []⟩,
 ⟨(some 36), .call 0 90 [(.t 35)], none, none, []⟩,
 ⟨(some 37), .call 1 96 [(.t 36)], none, none, []⟩,
 ⟨(some 9), .p (.move (.t 37)), none, none, []⟩])
 (.seq (.region 0 [⟨(some 38), .p (.move (.t 9)), none, none, []⟩,
 ⟨(some 39), .p (.move (.t 5)), none, none, []⟩,
 ⟨(some 40), .p (.bin .gtr (.t 38) (.t 39)), none, none, []⟩])
 (.cond (.t 40) (.region 0 [⟨(some 41), .p (.move (.t 6)), none, none, []⟩,
 ⟨(some 42), .p (.move (.t 9)), none, none, []⟩,
 ⟨(some 4), .p (.move (.t 41)), none, none, []⟩,
 ⟨(some 5), .p (.move (.t 42)), none, none, []⟩])
 (.skip))))))))))
 (.region 0 [⟨(some 43), .p (.bin .add (.t 13) (.c (.int .i64 1))), none, none, []⟩,
 ⟨(some 13), .p (.move (.t 43)), none, none, []⟩])))))))
 (.seq (.seq (.region 0 [⟨(some 44), .p (.move (.t 5)), none, none, []⟩,
 ⟨(some 45), .p (.bin .lss (.t 44) (.c (.int .i64 0))), none, none, []⟩])
 (.cond (.t 45) (.seq (.region 0 [⟨(some 2), .p (.move (.c (.int .i64 0))), none, none, []⟩,
 ⟨(some 3), .p (.move (.c (.int .i64 2))), none, none, []⟩])
 (.ret))
 (.skip)))
 (.seq (.region 0 [⟨(some 46), .p (.move (.t 4)), none, none, []⟩,
 ⟨(some 2), .p (.move (.t 46)), none, none, []⟩,
 ⟨(some 3), .p (.move (.c (.int .i64 0))), none, none, []⟩])
 (.ret)))))⟩
/-- (almadraba/anchors.net).need -/
def f100 : AFn := ⟨42, [.tmp 4, .tmp 5],
 .seq (.region 0 [⟨(some 2), .box (.t 0), none, none, []⟩,
 ⟨(some 4), .p (.move (.c (.int .i64 0))), none, none, []⟩,
 ⟨(some 5), .p (.move (.c (.bool false))), none, none, []⟩])
 (.seq (.seq (.region 0 [⟨(some 7), .p (.fieldAddr 0 (.t 2)), none, none, []⟩,
 ⟨(some 8), .p (.fieldAddr 5 (.t 7)), none, none, []⟩,
 ⟨(some 9), .load false 1 (.t 8), none, none, []⟩,
 ⟨(some 10), .p (.move (.t 1)), none, none, []⟩,
 ⟨(some 11), .p (.idxSl 2 (.t 9) (.t 10)), none, none, []⟩,
 ⟨(some 12), .p (.fieldAddr 0 (.t 11)), none, none, []⟩,
 ⟨(some 13), .load false 1 (.t 12), none, none, []⟩,
 ⟨(some 14), .p (.bin .sub (.c (.int .i64 20)) (.t 13)), none, none, []⟩,
 ⟨(some 15), .p (.bin .add (.t 14) (.c (.int .i64 1))), none, none, []⟩,
 ⟨(some 16), .p (.move (.c (.int .i64 0))), none, none, []⟩])
 (.block 0 (.loop (.seq (.region 0 [⟨(some 17), .p (.bin .lss (.t 16) (.t 15)), none, none, []⟩])
 (.seq (.cond (.t 17) (.skip)
 (.exit 0))
 (.seq (.block 1 (.seq (.region 0 [⟨(some 18), .p (.move (.t 16)), none, none, []⟩,
 ⟨(some 6), .p (.move (.t 18)), none, none, []⟩])
 (.seq (.region 0 [⟨(some 19), .load true 10 (.t 2), none, none, []⟩,
 ⟨(some 20), .p (.move (.t 1)), none, none, []⟩,
 ⟨(some 21), .p (.build [.bool false, .bool false, .bool false, .bool false, .bool false, .bool false] []), none, none, []⟩,
 ⟨(some 22), .call 1 94 [(.t 19), (.t 20), (.t 21)], none, none, []⟩,
 ⟨(some 23), .p (.move (.t 6)), none, none, []⟩,
 ⟨(some 24), .p (.bin .mul (.c (.int .i64 2)) (.t 23)), none, none, []⟩,
 ⟨(some 25), .p (.fieldAddr 7 (.t 2)), none, none, []⟩,
 ⟨(some 26), .p (.fieldAddr 2 (.t 25)), none, none, []⟩,
 ⟨(some 27), .load false 1 (.t 26), none, none, []⟩,
 ⟨(some 28), .p (.fieldAddr 0 (.t 2)), none, none, []⟩,
 ⟨(some 29), .p (.fieldAddr 5 (.t 28)), none, none, []⟩,
 ⟨(some 30), .load false 1 (.t 29), none, none, []⟩,
 ⟨(some 31), .p (.move (.t 1)), none, none, []⟩,
 ⟨(some 32), .p (.idxSl 2 (.t 30) (.t 31)), none, none, []⟩,
 ⟨(some 33), .p (.fieldAddr 1 (.t 32)), none, none, []⟩,
 ⟨(some 34), .load false 1 (.t 33), none, none, []⟩,
 ⟨(some 35), .p (.idxSl 1 (.t 27) (.t 34)), none, none, []⟩,
 ⟨(some 36), .load false 1 (.t 35), none, none, []⟩,
 ⟨(some 37), .p (.bin .mul (.t 24) (.t 36)), none, none, []⟩,
 ⟨(some 38), .p (.bin .add (.t 22) (.t 37)), none, none, []⟩,
 ⟨(some 39), .p (.bin .geq (.t 38) (.c (.int .i64 0))), none, none, []⟩])
 (.cond (.t 39) (.seq (.region 0 [⟨(some 40), .p (.move (.t 6)), none, none, []⟩,
 ⟨(some 4), .p (.move (.t 40)), none, none, []⟩,
 ⟨(some 5), .p (.move (.c (.bool true))), none, none, []⟩])
 (.ret))
 (.skip)))))
 (.region 0 [⟨(some 41), .p (.bin .add (.t 16) (.c (.int .i64 1))), none, none, []⟩,
 ⟨(some 16), .p (.move (.t 41)), none, none, []⟩])))))))
 (.seq (.region 0 [⟨(some 4), .p (.move (.c (.int .i64 0))), none, none, []⟩,
 ⟨(some 5), .p (.move (.c (.bool false))), none, none, []⟩])
 (.ret)))⟩
/-- almadraba/almadrabaref02.holds -/
def f101 : AFn := ⟨23, [.tmp 4],
 .seq (.region 0 [⟨(some 2), .box (.t 0), none, none, []⟩,
 ⟨(some 4), .p (.move (.c (.bool false))), none, none, []⟩])
 (.seq (.region 0 [⟨(some 7), .load true 7 (.t 2), none, none, []⟩,
 ⟨(some 8), .call 1 91 [(.t 7)], none, none, []⟩,
 ⟨(some 5), .p (.move (.t 8)), none, none, []⟩])
 (.seq (.seq (.region 0 [⟨(some 6), .p (.move (.c (.int .i64 0))), none, none, []⟩])
 (.block 0 (.loop (.seq (.seq (.region 0 [⟨(some 9), .p (.move (.t 6)), none, none, []⟩,
 ⟨(some 10), .p (.move (.t 5)), none, none, []⟩,
 ⟨(some 11), .p (.lenS (.t 10)), none, none, []⟩,
 ⟨(some 12), .p (.bin .lss (.t 9) (.t 11)), none, none, []⟩])
 (.cond (.t 12) (.skip)
 (.exit 0)))
 (.seq (.block 1 (.seq (.region 0 [⟨(some 15), .load true 7 (.t 2), none, none, []⟩,
 ⟨(some 16), .p (.move (.t 5)), none, none, []⟩,
 ⟨(some 17), .p (.move (.t 6)), none, none, []⟩,
 ⟨(some 18), .p (.idxSl 3 (.t 16) (.t 17)), none, none, []⟩,
 ⟨(some 19), .load true 3 (.t 18), none, none, []⟩,
 ⟨(some 20), .p (.move (.t 1)), none, none, []⟩,
 ⟨(some 21), .call 1 55 [(.t 15), (.t 19), (.t 20)], none, none, []⟩,
 ⟨(some 22), .p (.bin .lss (.t 21) (.c (.int .i64 0))), none, none, []⟩])
 (.cond (.t 22) (.seq (.region 0 [⟨(some 4), .p (.move (.c (.bool false))), none, none, []⟩])
 (.ret))
 (.skip))))
 (.region 0 [⟨(some 13), .p (.move (.t 6)), none, none, []⟩,
 ⟨(some 14), .p (.bin .add (.t 13) (.c (.int .i64 1))), none, none, []⟩,
 ⟨(some 6), .p (.move (.t 14)), none, none, []⟩]))))))
 (.seq (.region 0 [⟨(some 4), .p (.move (.c (.bool true))), none, none, []⟩])
 (.ret))))⟩
/-- almadraba/almadrabaref02.IsTruth -/
def f102 : AFn := ⟨63, [.tmp 4],
 .seq (.region 0 [⟨(some 2), .box (.t 0), none, none, []⟩,
 ⟨(some 3), .box (.t 1), none, none, []⟩,
 ⟨(some 4), .p (.move (.c (.bool false))), none, none, []⟩])
 (.seq (.seq (.region 0 [⟨(some 6), .p (.fieldAddr 0 (.t 3)), none, none, []⟩,
 ⟨(some 7), .load false 1 (.t 6), none, none, []⟩,
 ⟨(some 8), .p (.fieldAddr 0 (.t 2)), none, none, []⟩,
 ⟨(some 9), .p (.fieldAddr 0 (.t 8)), none, none, []⟩,
 ⟨(some 10), .load false 1 (.t 9), none, none, []⟩,
 ⟨(some 11), .p (.fieldAddr 0 (.t 2)), none, none, []⟩,
 ⟨(some 12), .p (.fieldAddr 1 (.t 11)), none, none, []⟩,
 ⟨(some 13), .load false 1 (.t 12), none, none, []⟩,
 ⟨(some 14), .call 1 67 [(.t 7), (.t 10), (.t 13)], none, none, []⟩,
 ⟨(some 15), .p (.un .not (.t 14)), none, none, []⟩,
 ⟨(some 16), .p (.move (.t 15)), none, none, []⟩,
 ⟨(some 17), .p (.fieldAddr 1 (.t 3)), (some (16, false)), none, []⟩,
 ⟨(some 18), .load false 1 (.t 17), (some (16, false)), none, []⟩,
 ⟨(some 19), .p (.fieldAddr 2 (.t 2)), (some (16, false)), none, []⟩,
 ⟨(some 20), .p (.fieldAddr 0 (.t 19)), (some (16, false)), none, []⟩,
 ⟨(some 21), .load false 1 (.t 20), (some (16, false)), none, []⟩,
 ⟨(some 22), .p (.fieldAddr 2 (.t 2)), (some (16, false)), none, []⟩,
 ⟨(some 23), .p (.fieldAddr 1 (.t 22)), (some (16, false)), none, []⟩,
 ⟨(some 24), .load false 1 (.t 23), (some (16, false)), none, []⟩,
 ⟨(some 25), .call 1 67 [(.t 18), (.t 21), (.t 24)], (some (16, false)), none, []⟩,
 ⟨(some 26), .p (.un .not (.t 25)), (some (16, false)), none, []⟩,
 ⟨(some 27), .p (.pick (.t 16) (.c (.bool true)) (.t 26)), none, none, []⟩,
 ⟨(some 28), .p (.move (.t 27)), none, none, []⟩,
 ⟨(some 29), .p (.fieldAddr 2 (.t 3)), (some (28, false)), none, []⟩,
 ⟨(some 30), .load false 1 (.t 29), (some (28, false)), none, []⟩,
 ⟨(some 31), .p (.lenS (.t 30)), (some (28, false)), none, []⟩,
 ⟨(some 32), .p (.fieldAddr 4 (.t 2)), (some (28, false)), none, []⟩,
 ⟨(some 33), .load false 1 (.t 32), (some (28, false)), none, []⟩,
 ⟨(some 34), .p (.lenS (.t 33)), (some (28, false)), none, []⟩,
 ⟨(some 35), .p (.bin .neq (.t 31) (.t 34)), (some (28, false)), none, []⟩,
 ⟨(some 36), .p (.pick (.t 28) (.c (.bool true)) (.t 35)), none, none, []⟩])
 (.cond (.t 36) (.seq (.region 0 [⟨(some 4), .p (.move (.c (.bool false))), none, none, []⟩])
 (.ret))
 (.skip)))
 (.seq (.seq (.region 0 [⟨(some 5), .p (.move (.c (.int .i64 0))), none, none, []⟩])
 (.block 0 (.loop (.seq (.seq (.region 0 [⟨(some 37), .p (.move (.t 5)), none, none, []⟩,
 ⟨(some 38), .p (.fieldAddr 2 (.t 3)), none, none, []⟩,
 ⟨(some 39), .load false 1 (.t 38), none, none, []⟩,
 ⟨(some 40), .p (.lenS (.t 39)), none, none, []⟩,
 ⟨(some 41), .p (.bin .lss (.t 37) (.t 40)), none, none, []⟩])
 (.cond (.t 41) (.skip)
 (.exit 0)))
 (.seq (.block 1 (.seq (.region 0 [⟨(some 44), .p (.fieldAddr 2 (.t 3)), none, none, []⟩,
 ⟨(some 45), .load false 1 (.t 44), none, none, []⟩,
 ⟨(some 46), .p (.move (.t 5)), none, none, []⟩,
 ⟨(some 47), .p (.idxSl 1 (.t 45) (.t 46)), none, none, []⟩,
 ⟨(some 48), .load false 1 (.t 47), none, none, []⟩,
 ⟨(some 49), .p (.fieldAddr 4 (.t 2)), none, none, []⟩,
 ⟨(some 50), .load false 1 (.t 49), none, none, []⟩,
 ⟨(some 51), .p (.move (.t 5)), none, none, []⟩,
 ⟨(some 52), .p (.idxSl 2 (.t 50) (.t 51)), none, none, []⟩,
 ⟨(some 53), .p (.fieldAddr 0 (.t 52)), none, none, []⟩,
 ⟨(some 54), .load false 1 (.t 53), none, none, []⟩,
 ⟨(some 55), .p (.fieldAddr 4 (.t 2)), none, none, []⟩,
 ⟨(some 56), .load false 1 (.t 55), none, none, []⟩,
 ⟨(some 57), .p (.move (.t 5)), none, none, []⟩,
 ⟨(some 58), .p (.idxSl 2 (.t 56) (.t 57)), none, none, []⟩,
 ⟨(some 59), .p (.fieldAddr 1 (.t 58)), none, none, []⟩,
 ⟨(some 60), .load false 1 (.t 59), none, none, []⟩,
 ⟨(some 61), .call 1 67 [(.t 48), (.t 54), (.t 60)], none, none, []⟩,
 ⟨(some 62), .p (.un .not (.t 61)), none, none, []⟩])
 (.cond (.t 62) (.seq (.region 0 [⟨(some 4), .p (.move (.c (.bool false))), none, none, []⟩])
 (.ret))
 (.skip))))
 (.region 0 [⟨(some 42), .p (.move (.t 5)), none, none, []⟩,
 ⟨(some 43), .p (.bin .add (.t 42) (.c (.int .i64 1))), none, none, []⟩,
 ⟨(some 5), .p (.move (.t 43)), none, none, []⟩]))))))
 (.seq (.region 0 [⟨(some 4), .p (.move (.c (.bool true))), none, none, []⟩])
 (.ret))))⟩
/-- almadraba/almadrabaref02.Can -/
def f103 : AFn := ⟨25, [.tmp 6],
 .seq (.region 0 [⟨(some 3), .box (.t 0), none, none, []⟩,
 ⟨(some 4), .box (.t 1), none, none, []⟩,
 ⟨(some 6), .p (.move (.c (.int .i64 0))), none, none, []⟩])
 (.seq (.region 0 [⟨(some 7), .p (.fieldAddr 5 (.t 3)), none, none, []⟩,
 ⟨(some 8), .load false 1 (.t 7), none, none, []⟩,
 ⟨(some 9), .p (.move (.t 2)), none, none, []⟩,
 ⟨(some 10), .p (.idxSl 2 (.t 8) (.t 9)), none, none, []⟩,
 ⟨(some 11), .p (.fieldAddr 0 (.t 10)), none, none, []⟩,
 ⟨(some 12), .load false 1 (.t 11), none, none, []⟩,
 ⟨(some 13), .p (.bin .mul (.c (.int .i64 2)) (.t 12)), none, none, []⟩,
 ⟨(some 14), .p (.fieldAddr 2 (.t 4)), none, none, []⟩,
 ⟨(some 15), .load false 1 (.t 14), none, none, []⟩,
 ⟨(some 16), .p (.fieldAddr 5 (.t 3)), none, none, []⟩,
 ⟨(some 17), .load false 1 (.t 16), none, none, []⟩,
 ⟨(some 18), .p (.move (.t 2)), none, none, []⟩,
 ⟨(some 19), .p (.idxSl 2 (.t 17) (.t 18)), none, none, []⟩,
 ⟨(some 20), .p (.fieldAddr 1 (.t 19)), none, none, []⟩,
 ⟨(some 21), .load false 1 (.t 20), none, none, []⟩,
 ⟨(some 22), .p (.idxSl 1 (.t 15) (.t 21)), none, none, []⟩,
 ⟨(some 23), .load false 1 (.t 22), none, none, []⟩,
 ⟨(some 24), .p (.bin .mul (.t 13) (.t 23)), none, none, []⟩,
 ⟨(some 6), .p (.move (.t 24)), none, none, []⟩])
 (.ret))⟩
/-- almadraba/almadrabaref02.Bears -/
def f104 : AFn := ⟨77, [.tmp 8],
 .seq (.region 0 [⟨(some 4), .box (.t 0), none, none, []⟩,
 ⟨(some 5), .box (.t 1), none, none, []⟩,
 ⟨(some 8), .p (.move (.c (.int .i64 0))), none, none, []⟩])
 (.seq (.region 0 [⟨(some 9), .p (.move (.c (.int .i64 0))), none, none, []⟩])
 (.seq (.seq (.region 0 [⟨(some 10), .p (.move (.t 2)), none, none, []⟩,
 ⟨(some 11), .p (.bin .gtr (.t 10) (.c (.int .i64 0))), none, none, []⟩])
 (.cond (.t 11) (.seq (.region 0 [⟨(some 12), .p (.move (.t 9)), none, none, []⟩,
 ⟨(some 13), .p (.fieldAddr 6 (.t 4)), none, none, []⟩,
 ⟨(some 14), .load false 1 (.t 13), none, none, []⟩,
 ⟨(some 15), .p (.move (.t 2)), none, none, []⟩,
 ⟨(some 16), .p (.bin .sub (.t 15) (.c (.int .i64 1))), none, none, []⟩,
 ⟨(some 17), .p (.idxSl 5 (.t 14) (.t 16)), none, none, []⟩,
 ⟨(some 18), .load true 5 (.t 17), none, none, []⟩,
 ⟨(some 19), .p (.fieldAddr 0 (.t 5)), none, none, []⟩,
 ⟨(some 20), .load false 1 (.t 19), none, none, []⟩,
 ⟨(some 21), .p (.fieldAddr 1 (.t 5)), none, none, []⟩,
 ⟨(some 22), .load false 1 (.t 21), none, none, []⟩,
 ⟨(some 23), .call 1 74 [(.t 18), (.t 20), (.t 22)], none, none, []⟩,
 ⟨(some 24), .p (.bin .add (.t 12) (.t 23)), none, none, []⟩,
 ⟨(some 9), .p (.move (.t 24)), none, none, []⟩])
 (.seq (.region 0 [⟨(some 25), .p (.move (.t 3)), none, none, []⟩,
 ⟨(some 26), .p (.move (.t 2)), none, none, []⟩,
 ⟨(some 27), .p (.bin .sub (.t 26) (.c (.int .i64 1))), none, none, []⟩,
 ⟨(some 28), .call 1 56 [(.t 25), (.t 27)], none, none, []⟩])
 (.cond (.t 28) (.region 0 [⟨(some 29), .p (.move (.t 9)), none, none, []⟩,
 ⟨(some 30), .p (.fieldAddr 6 (.t 4)), none, none, []⟩,
 ⟨(some 31), .load false 1 (.t 30), none, none, []⟩,
 ⟨(some 32), .p (.move (.t 2)), none, none, []⟩,
 ⟨(some 33), .p (.bin .sub (.t 32) (.c (.int .i64 1))), none, none, []⟩,
 ⟨(some 34), .p (.idxSl 5 (.t 31) (.t 33)), none, none, []⟩,
 ⟨(some 35), .load true 5 (.t 34), none, none, []⟩,
 ⟨(some 36), .p (.fieldAddr 0 (.t 5)), none, none, []⟩,
 ⟨(some 37), .load false 1 (.t 36), none, none, []⟩,
 ⟨(some 38), .p (.fieldAddr 1 (.t 5)), none, none, []⟩,
 ⟨(some 39), .load false 1 (.t 38), none, none, []⟩,
 ⟨(some 40), .call 1 74 [(.t 35), (.t 37), (.t 39)], none, none, []⟩,
 ⟨(some 41), .p (.bin .add (.t 29) (.t 40)), none, none, []⟩,
 ⟨(some 9), .p (.move (.t 41)), none, none, []⟩])
 (.skip))))
 (.skip)))
 (.seq (.seq (.region 0 [⟨(some 42), .p (.move (.t 2)), none, none, []⟩,
 ⟨(some 43), .p (.fieldAddr 5 (.t 4)), none, none, []⟩,
 ⟨(some 44), .load false 1 (.t 43), none, none, []⟩,
 ⟨(some 45), .p (.lenS (.t 44)), none, none, []⟩,
 ⟨(some 46), .p (.bin .sub (.t 45) (.c (.int .i64 1))), none, none, []⟩,
 ⟨(some 47), .p (.bin .lss (.t 42) (.t 46)), none, none, []⟩])
 (.cond (.t 47) (.seq (.region 0 [⟨(some 48), .p (.move (.t 9)), none, none, []⟩,
 ⟨(some 49), .p (.fieldAddr 6 (.t 4)), none, none, []⟩,
 ⟨(some 50), .load false 1 (.t 49), none, none, []⟩,
 ⟨(some 51), .p (.move (.t 2)), none, none, []⟩,
 ⟨(some 52), .p (.idxSl 5 (.t 50) (.t 51)), none, none, []⟩,
 ⟨(some 53), .load true 5 (.t 52), none, none, []⟩,
 ⟨(some 54), .p (.fieldAddr 0 (.t 5)), none, none, []⟩,
 ⟨(some 55), .load false 1 (.t 54), none, none, []⟩,
 ⟨(some 56), .p (.fieldAddr 1 (.t 5)), none, none, []⟩,
 ⟨(some 57), .load false 1 (.t 56), none, none, []⟩,
 ⟨(some 58), .call 1 74 [(.t 53), (.t 55), (.t 57)], none, none, []⟩,
 ⟨(some 59), .p (.bin .add (.t 48) (.t 58)), none, none, []⟩,
 ⟨(some 9), .p (.move (.t 59)), none, none, []⟩])
 (.seq (.region 0 [⟨(some 60), .p (.move (.t 3)), none, none, []⟩,
 ⟨(some 61), .p (.move (.t 2)), none, none, []⟩,
 ⟨(some 62), .p (.bin .add (.t 61) (.c (.int .i64 1))), none, none, []⟩,
 ⟨(some 63), .call 1 56 [(.t 60), (.t 62)], none, none, []⟩])
 (.cond (.t 63) (.region 0 [⟨(some 64), .p (.move (.t 9)), none, none, []⟩,
 ⟨(some 65), .p (.fieldAddr 6 (.t 4)), none, none, []⟩,
 ⟨(some 66), .load false 1 (.t 65), none, none, []⟩,
 ⟨(some 67), .p (.move (.t 2)), none, none, []⟩,
 ⟨(some 68), .p (.idxSl 5 (.t 66) (.t 67)), none, none, []⟩,
 ⟨(some 69), .load true 5 (.t 68), none, none, []⟩,
 ⟨(some 70), .p (.fieldAddr 0 (.t 5)), none, none, []⟩,
 ⟨(some 71), .load false 1 (.t 70), none, none, []⟩,
 ⟨(some 72), .p (.fieldAddr 1 (.t 5)), none, none, []⟩,
 ⟨(some 73), .load false 1 (.t 72), none, none, []⟩,
 ⟨(some 74), .call 1 74 [(.t 69), (.t 71), (.t 73)], none, none, []⟩,
 ⟨(some 75), .p (.bin .add (.t 64) (.t 74)), none, none, []⟩,
 ⟨(some 9), .p (.move (.t 75)), none, none, []⟩])
 (.skip))))
 (.skip)))
 (.seq (.region 0 [⟨(some 76), .p (.move (.t 9)), none, none, []⟩,
 ⟨(some 8), .p (.move (.t 76)), none, none, []⟩])
 (.ret)))))⟩
/-- almadraba/anchors.valid$1 -/
def f105 : AFn := ⟨5, [.tmp 2],
 .seq (.region 0 [⟨(some 1), .box (.t 0), none, none, []⟩,
 ⟨(some 2), .p (.move (.c (.bool false))), none, none, []⟩])
 (.seq (.region 0 [⟨(some 3), .load true 2 (.t 1), none, none, []⟩,
 ⟨(some 4), .call 1 106 [(.t 3), (.c (.int .i64 9))], none, none, []⟩,
 ⟨(some 2), .p (.move (.t 4)), none, none, []⟩])
 (.ret))⟩
/-- almadraba/anchors.isSpan -/
def f106 : AFn := ⟨19, [.tmp 4],
 .seq (.region 0 [⟨(some 2), .box (.t 0), none, none, []⟩,
 ⟨(some 4), .p (.move (.c (.bool false))), none, none, []⟩])
 (.seq (.region 0 [⟨(some 5), .p (.move (.t 1)), none, none, []⟩,
 ⟨(some 6), .p (.fieldAddr 0 (.t 2)), none, none, []⟩,
 ⟨(some 7), .load false 1 (.t 6), none, none, []⟩,
 ⟨(some 8), .p (.fieldAddr 1 (.t 2)), none, none, []⟩,
 ⟨(some 9), .load false 1 (.t 8), none, none, []⟩,
 ⟨(some 10), .litS 1 2 [.int .i64 0] [(0, (.t 7)), (1, (.t 9))], none, none, []⟩,
 ⟨(some 11), .call 1 70 [(.t 5), (.t 10)], none, none, []⟩,
 ⟨(some 12), .p (.move (.t 11)), none, none, []⟩,
 ⟨(some 13), .p (.fieldAddr 0 (.t 2)), (some (12, true)), none, []⟩,
 ⟨(some 14), .load false 1 (.t 13), (some (12, true)), none, []⟩,
 ⟨(some 15), .p (.fieldAddr 1 (.t 2)), (some (12, true)), none, []⟩,
 ⟨(some 16), .load false 1 (.t 15), (some (12, true)), none, []⟩,
 ⟨(some 17), .p (.bin .leq (.t 14) (.t 16)), (some (12, true)), none, []⟩,
 ⟨(some 18), .p (.pick (.t 12) (.t 17) (.c (.bool false))), none, none, []⟩,
 ⟨(some 4), .p (.move (.t 18)), none, none, []⟩])
 (.ret))⟩
/-- almadraba/anchors.valid$2 -/
def f107 : AFn := ⟨18, [.tmp 3],
 .seq (.region 0 [⟨(some 2), .box (.t 0), none, none, []⟩,
 ⟨(some 3), .p (.move (.c (.bool false))), none, none, []⟩])
 (.seq (.region 0 [⟨(some 4), .p (.fieldAddr 0 (.t 2)), none, none, []⟩,
 ⟨(some 5), .load false 1 (.t 4), none, none, []⟩,
 ⟨(some 6), .litS 1 1 [.int .i64 0] [(0, (.t 5))], none, none, []⟩,
 ⟨(some 7), .call 1 70 [(.c (.int .i64 20)), (.t 6)], none, none, []⟩,
 ⟨(some 8), .p (.move (.t 7)), none, none, []⟩,
 ⟨(some 9), .p (.fieldAddr 4 (.t 1)), (some (8, true)), none, []⟩,
 ⟨(some 10), .load false 1 (.t 9), (some (8, true)), none, []⟩,
 ⟨(some 11), .p (.lenS (.t 10)), (some (8, true)), none, []⟩,
 ⟨(some 12), .p (.bin .sub (.t 11) (.c (.int .i64 1))), (some (8, true)), none, []⟩,
 ⟨(some 13), .p (.fieldAddr 1 (.t 2)), (some (8, true)), none, []⟩,
 ⟨(some 14), .load false 1 (.t 13), (some (8, true)), none, []⟩,
 ⟨(some 15), .litS 1 1 [.int .i64 0] [(0, (.t 14))], (some (8, true)), none, []⟩,
 ⟨(some 16), .call 1 70 [(.t 12), (.t 15)], (some (8, true)), none, []⟩,
 ⟨(some 17), .p (.pick (.t 8) (.t 16) (.c (.bool false))), none, none, []⟩,
 ⟨(some 3), .p (.move (.t 17)), none, none, []⟩])
 (.ret))⟩
/-- almadraba/anchors.all[almadraba/api.Span] -/
def f108 : AFn := ⟨18, [.tmp 4],
 .seq (.region 0 [⟨(some 4), .p (.move (.c (.bool false))), none, none, []⟩])
 (.seq (.seq (.region 0 [⟨(some 7), .p (.move (.t 0)), none, none, []⟩,
 ⟨(some 8), .p (.lenS (.t 7)), none, none, []⟩,
 ⟨(some 9), .p (.move (.c (.int .i64 0))), none, none, []⟩])
 (.block 0 (.loop (.seq (.region 0 [⟨(some 10), .p (.bin .lss (.t 9) (.t 8)), none, none, []⟩])
 (.seq (.cond (.t 10) (.skip)
 (.exit 0))
 (.seq (.block 1 (.seq (.region 0 [⟨(some 11), .p (.idxSl 2 (.t 7) (.t 9)), none, none, []⟩,
 ⟨(some 12), .load true 2 (.t 11), none, none, []⟩,
 ⟨(some 6), .alloc [.int .i64 0, .int .i64 0], none, none, []⟩,
 ⟨none, .store 2 (.t 6) (.t 12), none, none, []⟩])
 (.seq (.region 0 [⟨(some 13), .p (.move (.t 1)), none, none, []⟩,
 ⟨(some 14), .load true 2 (.t 6), none, none, []⟩,
 ⟨(some 15), .callv true (.t 13) [(.t 14)], none, none, []⟩,
 ⟨(some 16), .p (.un .not (.t 15)), none, none, []⟩])
 (.cond (.t 16) (.seq (.region 0 [⟨(some 4), .p (.move (.c (.bool false))), none, none, []⟩])
 (.ret))
 (.skip)))))
 (.region 0 [⟨(some 17), .p (.bin .add (.t 9) (.c (.int .i64 1))), none, none, []⟩,
 ⟨(some 9), .p (.move (.t 17)), none, none, []⟩])))))))
 (.seq (.region 0 [⟨(some 4), .p (.move (.c (.bool true))), none, none, []⟩])
 (.ret)))⟩
/-- almadraba/anchors.all[almadraba/api.Anchor] -/
def f109 : AFn := ⟨18, [.tmp 4],
 .seq (.region 0 [⟨(some 4), .p (.move (.c (.bool false))), none, none, []⟩])
 (.seq (.seq (.region 0 [⟨(some 7), .p (.move (.t 0)), none, none, []⟩,
 ⟨(some 8), .p (.lenS (.t 7)), none, none, []⟩,
 ⟨(some 9), .p (.move (.c (.int .i64 0))), none, none, []⟩])
 (.block 0 (.loop (.seq (.region 0 [⟨(some 10), .p (.bin .lss (.t 9) (.t 8)), none, none, []⟩])
 (.seq (.cond (.t 10) (.skip)
 (.exit 0))
 (.seq (.block 1 (.seq (.region 0 [⟨(some 11), .p (.idxSl 2 (.t 7) (.t 9)), none, none, []⟩,
 ⟨(some 12), .load true 2 (.t 11), none, none, []⟩,
 ⟨(some 6), .alloc [.int .i64 0, .int .i64 0], none, none, []⟩,
 ⟨none, .store 2 (.t 6) (.t 12), none, none, []⟩])
 (.seq (.region 0 [⟨(some 13), .p (.move (.t 1)), none, none, []⟩,
 ⟨(some 14), .load true 2 (.t 6), none, none, []⟩,
 ⟨(some 15), .callv true (.t 13) [(.t 14)], none, none, []⟩,
 ⟨(some 16), .p (.un .not (.t 15)), none, none, []⟩])
 (.cond (.t 16) (.seq (.region 0 [⟨(some 4), .p (.move (.c (.bool false))), none, none, []⟩])
 (.ret))
 (.skip)))))
 (.region 0 [⟨(some 17), .p (.bin .add (.t 9) (.c (.int .i64 1))), none, none, []⟩,
 ⟨(some 9), .p (.move (.t 17)), none, none, []⟩])))))))
 (.seq (.region 0 [⟨(some 4), .p (.move (.c (.bool true))), none, none, []⟩])
 (.ret)))⟩
/-- almadraba/anchors.all[almadraba/api.AnchorWall] -/
def f110 : AFn := ⟨18, [.tmp 4],
 .seq (.region 0 [⟨(some 4), .p (.move (.c (.bool false))), none, none, []⟩])
 (.seq (.seq (.region 0 [⟨(some 7), .p (.move (.t 0)), none, none, []⟩,
 ⟨(some 8), .p (.lenS (.t 7)), none, none, []⟩,
 ⟨(some 9), .p (.move (.c (.int .i64 0))), none, none, []⟩])
 (.block 0 (.loop (.seq (.region 0 [⟨(some 10), .p (.bin .lss (.t 9) (.t 8)), none, none, []⟩])
 (.seq (.cond (.t 10) (.skip)
 (.exit 0))
 (.seq (.block 1 (.seq (.region 0 [⟨(some 11), .p (.idxSl 5 (.t 7) (.t 9)), none, none, []⟩,
 ⟨(some 12), .load true 5 (.t 11), none, none, []⟩,
 ⟨(some 6), .alloc [.int .i64 0, .int .i64 0, .int .i64 0, .int .i64 0, .int .i64 0], none, none, []⟩,
 ⟨none, .store 5 (.t 6) (.t 12), none, none, []⟩])
 (.seq (.region 0 [⟨(some 13), .p (.move (.t 1)), none, none, []⟩,
 ⟨(some 14), .load true 5 (.t 6), none, none, []⟩,
 ⟨(some 15), .callv true (.t 13) [(.t 14)], none, none, []⟩,
 ⟨(some 16), .p (.un .not (.t 15)), none, none, []⟩])
 (.cond (.t 16) (.seq (.region 0 [⟨(some 4), .p (.move (.c (.bool false))), none, none, []⟩])
 (.ret))
 (.skip)))))
 (.region 0 [⟨(some 17), .p (.bin .add (.t 9) (.c (.int .i64 1))), none, none, []⟩,
 ⟨(some 9), .p (.move (.t 17)), none, none, []⟩])))))))
 (.seq (.region 0 [⟨(some 4), .p (.move (.c (.bool true))), none, none, []⟩])
 (.ret)))⟩
/-- almadraba/anchors.isWall -/
def f111 : AFn := ⟨19, [.tmp 2],
 .seq (.region 0 [⟨(some 1), .box (.t 0), none, none, []⟩,
 ⟨(some 2), .p (.move (.c (.bool false))), none, none, []⟩])
 (.seq (.region 0 [⟨(some 3), .p (.fieldAddr 0 (.t 1)), none, none, []⟩,
 ⟨(some 4), .load false 1 (.t 3), none, none, []⟩,
 ⟨(some 5), .p (.fieldAddr 1 (.t 1)), none, none, []⟩,
 ⟨(some 6), .load false 1 (.t 5), none, none, []⟩,
 ⟨(some 7), .p (.fieldAddr 2 (.t 1)), none, none, []⟩,
 ⟨(some 8), .load false 1 (.t 7), none, none, []⟩,
 ⟨(some 9), .litS 1 3 [.int .i64 0] [(0, (.t 4)), (1, (.t 6)), (2, (.t 8))], none, none, []⟩,
 ⟨(some 10), .call 1 70 [(.c (.int .i64 9)), (.t 9)], none, none, []⟩,
 ⟨(some 11), .p (.move (.t 10)), none, none, []⟩,
 ⟨(some 12), .p (.fieldAddr 3 (.t 1)), (some (11, true)), none, []⟩,
 ⟨(some 13), .load false 1 (.t 12), (some (11, true)), none, []⟩,
 ⟨(some 14), .p (.fieldAddr 4 (.t 1)), (some (11, true)), none, []⟩,
 ⟨(some 15), .load false 1 (.t 14), (some (11, true)), none, []⟩,
 ⟨(some 16), .litS 1 2 [.int .i64 0] [(0, (.t 13)), (1, (.t 15))], (some (11, true)), none, []⟩,
 ⟨(some 17), .call 1 70 [(.c (.int .i64 99)), (.t 16)], (some (11, true)), none, []⟩,
 ⟨(some 18), .p (.pick (.t 11) (.t 17) (.c (.bool false))), none, none, []⟩,
 ⟨(some 2), .p (.move (.t 18)), none, none, []⟩])
 (.ret))⟩
/-- almadraba/anchors.all[int] -/
def f112 : AFn := ⟨18, [.tmp 4],
 .seq (.region 0 [⟨(some 4), .p (.move (.c (.bool false))), none, none, []⟩])
 (.seq (.seq (.region 0 [⟨(some 7), .p (.move (.t 0)), none, none, []⟩,
 ⟨(some 8), .p (.lenS (.t 7)), none, none, []⟩,
 ⟨(some 9), .p (.move (.c (.int .i64 0))), none, none, []⟩])
 (.block 0 (.loop (.seq (.region 0 [⟨(some 10), .p (.bin .lss (.t 9) (.t 8)), none, none, []⟩])
 (.seq (.cond (.t 10) (.skip)
 (.exit 0))
 (.seq (.block 1 (.seq (.region 0 [⟨(some 11), .p (.idxSl 1 (.t 7) (.t 9)), none, none, []⟩,
 ⟨(some 12), .load false 1 (.t 11), none, none, []⟩,
 ⟨(some 6), .p (.move (.t 12)), none, none, []⟩])
 (.seq (.region 0 [⟨(some 13), .p (.move (.t 1)), none, none, []⟩,
 ⟨(some 14), .p (.move (.t 6)), none, none, []⟩,
 ⟨(some 15), .callv true (.t 13) [(.t 14)], none, none, []⟩,
 ⟨(some 16), .p (.un .not (.t 15)), none, none, []⟩])
 (.cond (.t 16) (.seq (.region 0 [⟨(some 4), .p (.move (.c (.bool false))), none, none, []⟩])
 (.ret))
 (.skip)))))
 (.region 0 [⟨(some 17), .p (.bin .add (.t 9) (.c (.int .i64 1))), none, none, []⟩,
 ⟨(some 9), .p (.move (.t 17)), none, none, []⟩])))))))
 (.seq (.region 0 [⟨(some 4), .p (.move (.c (.bool true))), none, none, []⟩])
 (.ret)))⟩
/-- almadraba/anchors.upTo$1 -/
def f113 : AFn := ⟨11, [.tmp 3],
 .seq (.region 0 [⟨(some 3), .p (.move (.c (.bool false))), none, none, []⟩])
 (.seq (.region 0 [⟨(some 4), .p (.move (.t 0)), none, none, []⟩,
 ⟨(some 5), .p (.bin .leq (.c (.int .i64 0)) (.t 4)), none, none, []⟩,
 ⟨(some 6), .p (.move (.t 5)), none, none, []⟩,
 ⟨(some 7), .p (.move (.t 0)), (some (6, true)), none, []⟩,
 ⟨(some 8), .load false 1 (.t 1), (some (6, true)), none, []⟩,
 ⟨(some 9), .p (.bin .leq (.t 7) (.t 8)), (some (6, true)), none, []⟩,
 ⟨(some 10), .p (.pick (.t 6) (.t 9) (.c (.bool false))), none, none, []⟩,
 ⟨(some 3), .p (.move (.t 10)), none, none, []⟩])
 (.ret))⟩
/-- almadraba/anchors.within -/
def f114 : AFn := ⟨15, [.tmp 4],
 .seq (.region 0 [⟨(some 2), .box (.t 0), none, none, []⟩,
 ⟨(some 4), .p (.move (.c (.bool false))), none, none, []⟩])
 (.seq (.region 0 [⟨(some 5), .p (.fieldAddr 0 (.t 2)), none, none, []⟩,
 ⟨(some 6), .load false 1 (.t 5), none, none, []⟩,
 ⟨(some 7), .p (.move (.t 1)), none, none, []⟩,
 ⟨(some 8), .p (.bin .leq (.t 6) (.t 7)), none, none, []⟩,
 ⟨(some 9), .p (.move (.t 8)), none, none, []⟩,
 ⟨(some 10), .p (.move (.t 1)), (some (9, true)), none, []⟩,
 ⟨(some 11), .p (.fieldAddr 1 (.t 2)), (some (9, true)), none, []⟩,
 ⟨(some 12), .load false 1 (.t 11), (some (9, true)), none, []⟩,
 ⟨(some 13), .p (.bin .leq (.t 10) (.t 12)), (some (9, true)), none, []⟩,
 ⟨(some 14), .p (.pick (.t 9) (.t 13) (.c (.bool false))), none, none, []⟩,
 ⟨(some 4), .p (.move (.t 14)), none, none, []⟩])
 (.ret))⟩
/-- almadraba/anchors.at -/
def f115 : AFn := ⟨38, [.cell true 10 6],
 .seq (.region 0 [⟨(some 3), .box (.t 0), none, none, []⟩,
 ⟨(some 6), .alloc [.int .i64 0, .int .i64 0, .int .i64 0, .int .i64 0, .nils, .nils, .nils, .int .i64 0, .int .i64 0, .nils], none, none, []⟩])
 (.seq (.region 1 [⟨(some 10), .p (.move (.t 1)), none, none, []⟩,
 ⟨(some 11), .p (.fieldAddr 0 (.t 3)), none, none, []⟩,
 ⟨(some 12), .load true 2 (.t 11), none, none, [0]⟩,
 ⟨(some 13), .callv true (.t 10) [(.t 12)], none, none, [0]⟩,
 ⟨(some 14), .p (.move (.t 1)), none, none, []⟩,
 ⟨(some 15), .p (.fieldAddr 2 (.t 3)), none, none, []⟩,
 ⟨(some 16), .load true 2 (.t 15), none, none, [0]⟩,
 ⟨(some 17), .callv true (.t 14) [(.t 16)], none, none, [0]⟩,
 ⟨(some 18), .p (.build [.int .i64 0, .int .i64 0, .nils] [(0, 1, (.t 13)), (1, 1, (.t 17))]), none, none, []⟩,
 ⟨(some 7), .alloc [.int .i64 0, .int .i64 0, .nils], none, (some 0), []⟩,
 ⟨none, .store 3 (.t 7) (.t 18), none, (some 0), []⟩])
 (.seq (.seq (.region 0 [⟨(some 19), .p (.fieldAddr 4 (.t 3)), none, none, []⟩,
 ⟨(some 20), .load false 1 (.t 19), none, none, []⟩,
 ⟨(some 21), .p (.lenS (.t 20)), none, none, []⟩,
 ⟨(some 22), .p (.move (.c (.int .i64 0))), none, none, []⟩])
 (.block 0 (.loop (.seq (.region 0 [⟨(some 23), .p (.bin .lss (.t 22) (.t 21)), none, none, []⟩])
 (.seq (.cond (.t 23) (.skip)
 (.exit 0))
 (.seq (.block 1 (.seq (.region 0 [⟨(some 24), .p (.idxSl 2 (.t 20) (.t 22)), none, none, []⟩,
 ⟨(some 25), .load true 2 (.t 24), none, none, []⟩,
 ⟨(some 9), .alloc [.int .i64 0, .int .i64 0], none, none, []⟩,
 ⟨none, .store 2 (.t 9) (.t 25), none, none, []⟩])
 (.region 1 [⟨(some 26), .p (.fieldAddr 2 (.t 7)), none, none, []⟩,
 ⟨(some 27), .load false 1 (.t 26), none, none, [0]⟩,
 ⟨(some 28), .p (.move (.t 2)), none, none, []⟩,
 ⟨(some 29), .load true 2 (.t 9), none, none, [0]⟩,
 ⟨(some 30), .callv true (.t 28) [(.t 29)], none, none, [0]⟩,
 ⟨(some 31), .litS 1 1 [.int .i64 0] [(0, (.t 30))], none, none, []⟩,
 ⟨(some 32), .append false 1 8 (.t 27) (.t 31), none, (some 0), []⟩,
 ⟨(some 33), .p (.fieldAddr 2 (.t 7)), none, none, []⟩,
 ⟨none, .store 1 (.t 33) (.t 32), none, none, []⟩])))
 (.region 0 [⟨(some 34), .p (.bin .add (.t 22) (.c (.int .i64 1))), none, none, []⟩,
 ⟨(some 22), .p (.move (.t 34)), none, none, []⟩])))))))
 (.seq (.region 0 [⟨(some 35), .load true 7 (.t 3), none, none, []⟩,
 ⟨(some 36), .load true 3 (.t 7), none, none, []⟩,
 ⟨(some 37), .p (.build [.int .i64 0, .int .i64 0, .int .i64 0, .int .i64 0, .nils, .nils, .nils, .int .i64 0, .int .i64 0, .nils] [(0, 7, (.t 35)), (7, 3, (.t 36))]), none, none, []⟩,
 ⟨none, .store 10 (.t 6) (.t 37), none, none, []⟩])
 (.ret))))⟩
/-- almadraba/anchors.low -/
def f116 : AFn := ⟨5, [.tmp 2],
 .seq (.region 0 [⟨(some 1), .box (.t 0), none, none, []⟩,
 ⟨(some 2), .p (.move (.c (.int .i64 0))), none, none, []⟩])
 (.seq (.region 0 [⟨(some 3), .p (.fieldAddr 0 (.t 1)), none, none, []⟩,
 ⟨(some 4), .load false 1 (.t 3), none, none, []⟩,
 ⟨(some 2), .p (.move (.t 4)), none, none, []⟩])
 (.ret))⟩
/-- almadraba/anchors.high -/
def f117 : AFn := ⟨5, [.tmp 2],
 .seq (.region 0 [⟨(some 1), .box (.t 0), none, none, []⟩,
 ⟨(some 2), .p (.move (.c (.int .i64 0))), none, none, []⟩])
 (.seq (.region 0 [⟨(some 3), .p (.fieldAddr 1 (.t 1)), none, none, []⟩,
 ⟨(some 4), .load false 1 (.t 3), none, none, []⟩,
 ⟨(some 2), .p (.move (.t 4)), none, none, []⟩])
 (.ret))⟩
/-- almadraba/almadrabaref02.grips -/
def f118 : AFn := ⟨41, [.tmp 4],
 .seq (.region 0 [⟨(some 2), .box (.t 0), none, none, []⟩,
 ⟨(some 4), .p (.move (.c (.nils))), none, none, []⟩])
 (.seq (.seq (.region 0 [⟨(some 8), .p (.move (.t 1)), none, none, []⟩,
 ⟨(some 9), .p (.lenS (.t 8)), none, none, []⟩,
 ⟨(some 10), .p (.fieldAddr 4 (.t 2)), none, none, []⟩,
 ⟨(some 11), .load false 1 (.t 10), none, none, []⟩,
 ⟨(some 12), .p (.lenS (.t 11)), none, none, []⟩,
 ⟨(some 13), .p (.bin .eql (.t 9) (.t 12)), none, none, []⟩])
 (.cond (.t 13) (.seq (.region 0 [⟨(some 14), .p (.move (.t 1)), none, none, []⟩,
 ⟨(some 15), .buildSlice 1 1 [.nils] [(0, (.t 14))], none, none, []⟩,
 ⟨(some 4), .p (.move (.t 15)), none, none, []⟩])
 (.ret))
 (.skip)))
 (.seq (.region 0 [⟨(some 5), .p (.move (.c (.nils))), none, none, []⟩])
 (.seq (.region 0 [⟨(some 16), .p (.fieldAddr 4 (.t 2)), none, none, []⟩,
 ⟨(some 17), .load false 1 (.t 16), none, none, []⟩,
 ⟨(some 18), .p (.move (.t 1)), none, none, []⟩,
 ⟨(some 19), .p (.lenS (.t 18)), none, none, []⟩,
 ⟨(some 20), .p (.idxSl 2 (.t 17) (.t 19)), none, none, []⟩,
 ⟨(some 21), .load true 2 (.t 20), none, none, []⟩,
 ⟨(some 6), .alloc [.int .i64 0, .int .i64 0], none, none, []⟩,
 ⟨none, .store 2 (.t 6) (.t 21), none, none, []⟩])
 (.seq (.seq (.region 0 [⟨(some 22), .p (.fieldAddr 0 (.t 6)), none, none, []⟩,
 ⟨(some 23), .load false 1 (.t 22), none, none, []⟩,
 ⟨(some 7), .p (.move (.t 23)), none, none, []⟩])
 (.block 0 (.loop (.seq (.seq (.region 0 [⟨(some 24), .p (.move (.t 7)), none, none, []⟩,
 ⟨(some 25), .p (.fieldAddr 1 (.t 6)), none, none, []⟩,
 ⟨(some 26), .load false 1 (.t 25), none, none, []⟩,
 ⟨(some 27), .p (.bin .leq (.t 24) (.t 26)), none, none, []⟩])
 (.cond (.t 27) (.skip)
 (.exit 0)))
 (.seq (.block 1 (.region 5 [⟨(some 30), .p (.move (.t 5)), none, none, []⟩,
 ⟨(some 31), .load true 7 (.t 2), none, none, [0, 1, 2, 3, 4]⟩,
 ⟨(some 32), .buildSlice 1 0 [.int .i64 0] [], none, (some 0), []⟩,
 ⟨(some 33), .p (.move (.t 1)), none, none, []⟩,
 ⟨(some 34), .append true 1 8 (.t 32) (.t 33), none, (some 1), [2, 3, 4]⟩,
 ⟨(some 35), .p (.move (.t 7)), none, none, []⟩,
 ⟨(some 36), .buildSlice 1 1 [.int .i64 0] [(0, (.t 35))], none, (some 2), []⟩,
 ⟨(some 37), .append true 1 8 (.t 34) (.t 36), none, (some 3), [4]⟩,
 ⟨(some 38), .call 0 118 [(.t 31), (.t 37)], none, none, [4]⟩,
 ⟨(some 39), .append false 1 24 (.t 30) (.t 38), none, (some 4), []⟩,
 ⟨(some 5), .p (.move (.t 39)), none, none, []⟩]))
 (.region 0 [⟨(some 28), .p (.move (.t 7)), none, none, []⟩,
 ⟨(some 29), .p (.bin .add (.t 28) (.c (.int .i64 1))), none, none, []⟩,
 ⟨(some 7), .p (.move (.t 29)), none, none, []⟩]))))))
 (.seq (.region 0 [⟨(some 40), .p (.move (.t 5)), none, none, []⟩,
 ⟨(some 4), .p (.move (.t 40)), none, none, []⟩])
 (.ret))))))⟩
/-- (almadraba/anchors.net).bears -/
def f119 : AFn := ⟨22, [.tmp 6],
 .seq (.region 0 [⟨(some 3), .box (.t 0), none, none, []⟩,
 ⟨(some 5), .box (.t 2), none, none, []⟩,
 ⟨(some 6), .p (.move (.c (.int .i64 0))), none, none, []⟩])
 (.seq (.region 0 [⟨(some 7), .alloc [.int .i64 0], none, none, []⟩,
 ⟨none, .store 1 (.t 7) (.c (.int .i64 0)), none, none, []⟩])
 (.seq (.region 0 [⟨(some 9), .p (.mkFn 121 [] [(.t 3), (.t 7), (.t 5)]), none, none, []⟩,
 ⟨(some 8), .p (.move (.t 9)), none, none, []⟩])
 (.seq (.region 0 [⟨(some 10), .p (.move (.t 8)), none, none, []⟩,
 ⟨(some 11), .p (.move (.t 1)), none, none, []⟩,
 ⟨(some 12), .p (.bin .sub (.t 11) (.c (.int .i64 1))), none, none, []⟩,
 ⟨(some 13), .p (.move (.t 1)), none, none, []⟩,
 ⟨(some 14), .p (.bin .sub (.t 13) (.c (.int .i64 1))), none, none, []⟩,
 ⟨(some 15), .callv false (.t 10) [(.t 12), (.t 14)], none, none, []⟩])
 (.seq (.region 0 [⟨(some 16), .p (.move (.t 8)), none, none, []⟩,
 ⟨(some 17), .p (.move (.t 1)), none, none, []⟩,
 ⟨(some 18), .p (.move (.t 1)), none, none, []⟩,
 ⟨(some 19), .p (.bin .add (.t 18) (.c (.int .i64 1))), none, none, []⟩,
 ⟨(some 20), .callv false (.t 16) [(.t 17), (.t 19)], none, none, []⟩])
 (.seq (.region 0 [⟨(some 21), .load false 1 (.t 7), none, none, []⟩,
 ⟨(some 6), .p (.move (.t 21)), none, none, []⟩])
 (.ret))))))⟩
/-- slices.Clone[[]almadraba/api.Anchor,almadraba/api.Anchor] -/
def f120 : AFn := ⟨8, [.tmp 2],
 .seq (.region 0 [⟨(some 2), .p (.move (.c (.nils))), none, none, []⟩])
 (.seq (.seq (.region 0 [⟨(some 3), .p (.move (.t 0)), none, none, []⟩,
 ⟨(some 4), .p (.isNil (.t 3) (.c (.nils))), none, none, []⟩])
 (.cond (.t 4) (.seq (.region 0 [⟨(some 2), .p (.move (.c (.nils))), none, none, []⟩])
 (.ret))
 (.skip)))
 (.seq (.region 0 [⟨(some 5), .buildSlice 2 0 [.int .i64 0, .int .i64 0] [], none, none, []⟩,
 ⟨(some 6), .p (.move (.t 0)), none, none, []⟩,
 ⟨(some 7), .append false 2 16 (.t 5) (.t 6), none, none, []⟩,
 ⟨(some 2), .p (.move (.t 7)), none, none, []⟩])
 (.ret)))⟩
/-- (almadraba/anchors.net).bears$1 -/
def f121 : AFn := ⟨35, [],
 .seq (.seq (.region 0 [⟨(some 8), .p (.fieldAddr 0 (.t 2)), none, none, []⟩,
 ⟨(some 9), .load true 7 (.t 8), none, none, []⟩,
 ⟨(some 10), .p (.move (.t 0)), none, none, []⟩,
 ⟨(some 11), .call 1 69 [(.t 9), (.t 10)], none, none, []⟩,
 ⟨(some 12), .p (.un .not (.t 11)), none, none, []⟩])
 (.cond (.t 12) (.ret)
 (.skip)))
 (.seq (.region 0 [⟨(some 13), .p (.fieldAddr 0 (.t 2)), none, none, []⟩,
 ⟨(some 14), .p (.fieldAddr 6 (.t 13)), none, none, []⟩,
 ⟨(some 15), .load false 1 (.t 14), none, none, []⟩,
 ⟨(some 16), .p (.move (.t 0)), none, none, []⟩,
 ⟨(some 17), .p (.idxSl 5 (.t 15) (.t 16)), none, none, []⟩,
 ⟨(some 18), .load true 5 (.t 17), none, none, []⟩,
 ⟨(some 19), .p (.fieldAddr 7 (.t 2)), none, none, []⟩,
 ⟨(some 20), .p (.fieldAddr 0 (.t 19)), none, none, []⟩,
 ⟨(some 21), .load false 1 (.t 20), none, none, []⟩,
 ⟨(some 22), .p (.fieldAddr 7 (.t 2)), none, none, []⟩,
 ⟨(some 23), .p (.fieldAddr 1 (.t 22)), none, none, []⟩,
 ⟨(some 24), .load false 1 (.t 23), none, none, []⟩,
 ⟨(some 25), .call 1 71 [(.t 18), (.t 21), (.t 24)], none, none, []⟩,
 ⟨(some 7), .p (.move (.t 25)), none, none, []⟩])
 (.seq (.region 0 [⟨(some 26), .load false 1 (.t 3), none, none, []⟩,
 ⟨(some 27), .p (.move (.t 7)), none, none, []⟩,
 ⟨(some 28), .p (.bin .add (.t 26) (.t 27)), none, none, []⟩,
 ⟨none, .store 1 (.t 3) (.t 28), none, none, []⟩])
 (.seq (.region 0 [⟨(some 29), .p (.move (.t 1)), none, none, []⟩,
 ⟨(some 30), .p (.idxArr 6 1 (.t 4) (.t 29)), none, none, []⟩,
 ⟨(some 31), .load false 1 (.t 30), none, none, []⟩])
 (.cond (.t 31) (.region 0 [⟨(some 32), .load false 1 (.t 3), none, none, []⟩,
 ⟨(some 33), .p (.move (.t 7)), none, none, []⟩,
 ⟨(some 34), .p (.bin .add (.t 32) (.t 33)), none, none, []⟩,
 ⟨none, .store 1 (.t 3) (.t 34), none, none, []⟩])
 (.skip)))))⟩
end Go.Proofs.Ytpflneddfhifkaa.T
