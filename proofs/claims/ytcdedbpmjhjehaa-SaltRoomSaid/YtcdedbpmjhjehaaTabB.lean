/-
The code of functions of the seat, as the abstract machine has it (printed by a tool of ours off the dump).
-/
import Derived.Test.YtcdedbpmjhjehaaTabA
namespace Go.Proofs.Ytcdedbpmjhjehaa.T
open Go Go.Am
/-- almadraba/almadrabalaw08.Far -/
def f29 : AFn := ⟨25, [.tmp 2],
 .seq (.region 0 [oQ 1 (.box (.t 0)),
 oP 2 (.move (.c (.bool false)))])
 (.seq (.seq (.region 0 [oQ 5 (.load true 4 (.t 1)),
 oQ 6 (.call 1 15 [(.t 5)])])
 (.cond (.t 6) (.seq (.region 0 [oP 2 (.move (.c (.bool true)))])
 (.ret))
 (.skip)))
 (.seq (.seq (.region 0 [oQ 7 (.load true 4 (.t 1)),
 oQ 8 (.call 1 20 [(.t 7)]),
 oP 9 (.bin .neq (.t 8) (.c (.int .i64 0)))])
 (.cond (.t 9) (.seq (.region 0 [oP 2 (.move (.c (.bool false)))])
 (.ret))
 (.skip)))
 (.seq (.region 0 [oP 3 (.move (.c (.int .i64 1)))])
 (.seq (.seq (.region 0 [oP 4 (.move (.c (.int .i64 0)))])
 (.block 0 (.loop (.seq (.seq (.region 0 [oP 10 (.move (.t 4)),
 oP 11 (.fieldAddr 2 (.t 1)),
 oQ 12 (.load false 1 (.t 11)),
 oP 13 (.lenS (.t 12)),
 oP 14 (.bin .lss (.t 10) (.t 13))])
 (.cond (.t 14) (.skip)
 (.exit 0)))
 (.seq (.block 1 (.region 0 [oP 17 (.move (.t 3)),
 oP 18 (.fieldAddr 3 (.t 1)),
 oQ 19 (.load false 1 (.t 18)),
 oP 20 (.lenS (.t 19)),
 oP 21 (.bin .add (.t 20) (.c (.int .i64 1))),
 oP 22 (.bin .mul (.t 17) (.t 21)),
 oP 3 (.move (.t 22))]))
 (.region 0 [oP 15 (.move (.t 4)),
 oP 16 (.bin .add (.t 15) (.c (.int .i64 1))),
 oP 4 (.move (.t 16))]))))))
 (.seq (.region 0 [oP 23 (.move (.t 3)),
 oP 24 (.bin .gtr (.t 23) (.c (.int .i64 700))),
 oP 2 (.move (.t 24))])
 (.ret))))))⟩
/-- almadraba/salt.Least -/
def f30 : AFn := ⟨21, [.tmp 2, .tmp 3],
 .seq (.region 0 [oQ 1 (.box (.t 0)),
 oP 2 (.move (.c (.int .i64 0))),
 oP 3 (.move (.c (.int .i64 0)))])
 (.seq (.seq (.region 0 [oQ 8 (.load true 4 (.t 1)),
 oQ 9 (.call 1 19 [(.t 8)]),
 oP 4 (.move (.t 9))])
 (.seq (.region 0 [oP 10 (.move (.t 4)),
 oP 11 (.bin .neq (.t 10) (.c (.int .i64 0)))])
 (.cond (.t 11) (.seq (.region 0 [oP 12 (.move (.t 4)),
 oP 2 (.move (.c (.int .i64 0))),
 oP 3 (.move (.t 12))])
 (.ret))
 (.skip))))
 (.seq (.region 0 [oQ 14 (.load true 4 (.t 1)),
 oQ 15 (.call 1 76 [(.t 14), (.c (.fn 77 [] []))]),
 oP 13 (.move (.t 15)),
 oP 16 (.extract (.t 13) 0),
 oP 17 (.extract (.t 13) 1),
 oP 18 (.extract (.t 13) 2),
 oP 5 (.move (.t 16)),
 oP 6 (.move (.t 17)),
 oP 7 (.move (.t 18))])
 (.seq (.region 0 [oP 19 (.move (.t 6)),
 oP 20 (.move (.t 7)),
 oP 2 (.move (.t 19)),
 oP 3 (.move (.t 20))])
 (.ret))))⟩
/-- almadraba/salt.Pack -/
def f32 : AFn := ⟨21, [.tmp 2, .tmp 3],
 .seq (.region 0 [oQ 1 (.box (.t 0)),
 oP 2 (.move (.c (.nils))),
 oP 3 (.move (.c (.int .i64 0)))])
 (.seq (.seq (.region 0 [oQ 8 (.load true 4 (.t 1)),
 oQ 9 (.call 1 19 [(.t 8)]),
 oP 4 (.move (.t 9))])
 (.seq (.region 0 [oP 10 (.move (.t 4)),
 oP 11 (.bin .neq (.t 10) (.c (.int .i64 0)))])
 (.cond (.t 11) (.seq (.region 0 [oP 12 (.move (.t 4)),
 oP 2 (.move (.c (.nils))),
 oP 3 (.move (.t 12))])
 (.ret))
 (.skip))))
 (.seq (.region 0 [oQ 14 (.load true 4 (.t 1)),
 oQ 15 (.call 1 76 [(.t 14), (.c (.fn 77 [] []))]),
 oP 13 (.move (.t 15)),
 oP 16 (.extract (.t 13) 0),
 oP 17 (.extract (.t 13) 1),
 oP 18 (.extract (.t 13) 2),
 oP 5 (.move (.t 16)),
 oP 6 (.move (.t 17)),
 oP 7 (.move (.t 18))])
 (.seq (.region 0 [oP 19 (.move (.t 5)),
 oP 20 (.move (.t 7)),
 oP 2 (.move (.t 19)),
 oP 3 (.move (.t 20))])
 (.ret))))⟩
/-- almadraba/salt.Fewest -/
def f34 : AFn := ⟨21, [.tmp 2, .tmp 3],
 .seq (.region 0 [oQ 1 (.box (.t 0)),
 oP 2 (.move (.c (.int .i64 0))),
 oP 3 (.move (.c (.int .i64 0)))])
 (.seq (.seq (.region 0 [oQ 8 (.load true 4 (.t 1)),
 oQ 9 (.call 1 19 [(.t 8)]),
 oP 4 (.move (.t 9))])
 (.seq (.region 0 [oP 10 (.move (.t 4)),
 oP 11 (.bin .neq (.t 10) (.c (.int .i64 0)))])
 (.cond (.t 11) (.seq (.region 0 [oP 12 (.move (.t 4)),
 oP 2 (.move (.c (.int .i64 0))),
 oP 3 (.move (.t 12))])
 (.ret))
 (.skip))))
 (.seq (.region 0 [oQ 14 (.load true 4 (.t 1)),
 oQ 15 (.call 1 76 [(.t 14), (.c (.fn 79 [] []))]),
 oP 13 (.move (.t 15)),
 oP 16 (.extract (.t 13) 0),
 oP 17 (.extract (.t 13) 1),
 oP 18 (.extract (.t 13) 2),
 oP 5 (.move (.t 16)),
 oP 6 (.move (.t 17)),
 oP 7 (.move (.t 18))])
 (.seq (.region 0 [oP 19 (.move (.t 6)),
 oP 20 (.move (.t 7)),
 oP 2 (.move (.t 19)),
 oP 3 (.move (.t 20))])
 (.ret))))⟩
/-- almadraba/salt.Where -/
def f36 : AFn := ⟨21, [.tmp 4, .tmp 5],
 .seq (.region 0 [oQ 2 (.box (.t 0)),
 oQ 3 (.box (.t 1)),
 oP 4 (.move (.c (.nils))),
 oP 5 (.move (.c (.int .i64 0)))])
 (.seq (.seq (.region 0 [oQ 7 (.load true 4 (.t 2)),
 oQ 8 (.call 1 19 [(.t 7)]),
 oP 6 (.move (.t 8))])
 (.seq (.region 0 [oP 9 (.move (.t 6)),
 oP 10 (.bin .neq (.t 9) (.c (.int .i64 0)))])
 (.cond (.t 10) (.seq (.region 0 [oP 11 (.move (.t 6)),
 oP 4 (.move (.c (.nils))),
 oP 5 (.move (.t 11))])
 (.ret))
 (.skip))))
 (.seq (.seq (.region 0 [oQ 12 (.load true 4 (.t 2)),
 oQ 13 (.load false 1 (.t 3)),
 oQ 14 (.call 1 80 [(.t 12), (.t 13)]),
 oP 15 (.un .not (.t 14))])
 (.cond (.t 15) (.seq (.region 0 [oP 4 (.move (.c (.nils))),
 oP 5 (.move (.c (.int .i64 1)))])
 (.ret))
 (.skip)))
 (.seq (.region 0 [oQ 16 (.load true 4 (.t 2)),
 oP 17 (.mkFn 82 [] [(.t 3)]),
 oQ 18 (.call 0 81 [(.t 16), (.t 17)]),
 oP 19 (.extract (.t 18) 0),
 oP 20 (.extract (.t 18) 1),
 oP 4 (.move (.t 19)),
 oP 5 (.move (.t 20))])
 (.ret))))⟩
/-- almadraba/salt.Early -/
def f38 : AFn := ⟨20, [.tmp 4, .tmp 5],
 .seq (.region 0 [oQ 2 (.box (.t 0)),
 oP 4 (.move (.c (.int .i64 0))),
 oP 5 (.move (.c (.int .i64 0)))])
 (.seq (.seq (.region 0 [oQ 7 (.load true 4 (.t 2)),
 oQ 8 (.call 1 19 [(.t 7)]),
 oP 6 (.move (.t 8))])
 (.seq (.region 0 [oP 9 (.move (.t 6)),
 oP 10 (.bin .neq (.t 9) (.c (.int .i64 0)))])
 (.cond (.t 10) (.seq (.region 0 [oP 11 (.move (.t 6)),
 oP 4 (.move (.c (.int .i64 0))),
 oP 5 (.move (.t 11))])
 (.ret))
 (.skip))))
 (.seq (.seq (.region 0 [oP 12 (.move (.t 1)),
 oQ 13 (.call 1 83 [(.t 12), (.c (.int .i64 0)), (.c (.int .i64 20))]),
 oP 14 (.un .not (.t 13))])
 (.cond (.t 14) (.seq (.region 0 [oP 4 (.move (.c (.int .i64 0))),
 oP 5 (.move (.c (.int .i64 1)))])
 (.ret))
 (.skip)))
 (.seq (.region 0 [oQ 15 (.load true 4 (.t 2)),
 oP 16 (.move (.t 1)),
 oQ 17 (.call 1 84 [(.t 15), (.t 16)]),
 oP 18 (.extract (.t 17) 0),
 oP 19 (.extract (.t 17) 1),
 oP 4 (.move (.t 18)),
 oP 5 (.move (.t 19))])
 (.ret))))⟩
/-- almadraba/salt.Spare -/
def f40 : AFn := ⟨14, [.tmp 2, .tmp 3],
 .seq (.region 0 [oQ 1 (.box (.t 0)),
 oP 2 (.move (.c (.nils))),
 oP 3 (.move (.c (.int .i64 0)))])
 (.seq (.seq (.region 0 [oQ 5 (.load true 4 (.t 1)),
 oQ 6 (.call 1 19 [(.t 5)]),
 oP 4 (.move (.t 6))])
 (.seq (.region 0 [oP 7 (.move (.t 4)),
 oP 8 (.bin .neq (.t 7) (.c (.int .i64 0)))])
 (.cond (.t 8) (.seq (.region 0 [oP 9 (.move (.t 4)),
 oP 2 (.move (.c (.nils))),
 oP 3 (.move (.t 9))])
 (.ret))
 (.skip))))
 (.seq (.region 0 [oQ 10 (.load true 4 (.t 1)),
 oQ 11 (.call 0 81 [(.t 10), (.c (.fn 85 [] []))]),
 oP 12 (.extract (.t 11) 0),
 oP 13 (.extract (.t 11) 1),
 oP 2 (.move (.t 12)),
 oP 3 (.move (.t 13))])
 (.ret)))⟩
/-- almadraba/salt.Stock -/
def f42 : AFn := ⟨18, [.tmp 4, .tmp 5],
 .seq (.region 0 [oQ 2 (.box (.t 0)),
 oP 4 (.move (.c (.int .i64 0))),
 oP 5 (.move (.c (.int .i64 0)))])
 (.seq (.seq (.region 0 [oQ 7 (.load true 4 (.t 2)),
 oQ 8 (.call 1 19 [(.t 7)]),
 oP 6 (.move (.t 8))])
 (.seq (.region 0 [oP 9 (.move (.t 6)),
 oP 10 (.bin .neq (.t 9) (.c (.int .i64 0)))])
 (.cond (.t 10) (.seq (.region 0 [oP 11 (.move (.t 6)),
 oP 4 (.move (.c (.int .i64 0))),
 oP 5 (.move (.t 11))])
 (.ret))
 (.skip))))
 (.seq (.seq (.region 0 [oP 12 (.move (.t 1)),
 oQ 13 (.call 1 83 [(.t 12), (.c (.int .i64 0)), (.c (.int .i64 999))]),
 oP 14 (.un .not (.t 13))])
 (.cond (.t 14) (.seq (.region 0 [oP 4 (.move (.c (.int .i64 0))),
 oP 5 (.move (.c (.int .i64 1)))])
 (.ret))
 (.skip)))
 (.seq (.region 0 [oQ 15 (.load true 4 (.t 2)),
 oP 16 (.move (.t 1)),
 oQ 17 (.call 1 86 [(.t 15), (.t 16)]),
 oP 4 (.move (.t 17)),
 oP 5 (.move (.c (.int .i64 0)))])
 (.ret))))⟩
/-- almadraba/salt.Buy -/
def f44 : AFn := ⟨14, [.tmp 2, .tmp 3],
 .seq (.region 0 [oQ 1 (.box (.t 0)),
 oP 2 (.move (.c (.int .i64 0))),
 oP 3 (.move (.c (.int .i64 0)))])
 (.seq (.seq (.region 0 [oQ 5 (.load true 4 (.t 1)),
 oQ 6 (.call 1 19 [(.t 5)]),
 oP 4 (.move (.t 6))])
 (.seq (.region 0 [oP 7 (.move (.t 4)),
 oP 8 (.bin .neq (.t 7) (.c (.int .i64 0)))])
 (.cond (.t 8) (.seq (.region 0 [oP 9 (.move (.t 4)),
 oP 2 (.move (.c (.int .i64 0))),
 oP 3 (.move (.t 9))])
 (.ret))
 (.skip))))
 (.seq (.region 0 [oQ 10 (.load true 4 (.t 1)),
 oQ 11 (.call 1 89 [(.t 10)]),
 oP 12 (.extract (.t 11) 0),
 oP 13 (.extract (.t 11) 1),
 oP 2 (.move (.t 12)),
 oP 3 (.move (.t 13))])
 (.ret)))⟩
/-- almadraba/almadrabalaw08.ready -/
def f46 : AFn := ⟨11, [.tmp 2],
 .seq (.region 0 [oQ 1 (.box (.t 0)),
 oP 2 (.move (.c (.bool false)))])
 (.seq (.region 0 [oQ 3 (.load true 4 (.t 1)),
 oQ 4 (.call 1 29 [(.t 3)]),
 oP 5 (.un .not (.t 4)),
 oP 6 (.move (.t 5)),
 ⟨(some 7), .load true 4 (.t 1), (some (6, true)), none, []⟩,
 ⟨(some 8), .call 1 20 [(.t 7)], (some (6, true)), none, []⟩,
 oG 9 6 true (.bin .eql (.t 8) (.c (.int .i64 0))),
 oP 10 (.pick (.t 6) (.t 9) (.c (.bool false))),
 oP 2 (.move (.t 10))])
 (.ret))⟩
/-- almadraba/almadrabaref08.IsPacking -/
def f47 : AFn := ⟨28, [.tmp 4],
 .seq (.region 0 [oQ 2 (.box (.t 0)),
 oP 4 (.move (.c (.bool false)))])
 (.seq (.seq (.region 0 [oP 6 (.move (.t 1)),
 oP 7 (.lenS (.t 6)),
 oP 8 (.fieldAddr 2 (.t 2)),
 oQ 9 (.load false 1 (.t 8)),
 oP 10 (.lenS (.t 9)),
 oP 11 (.bin .neq (.t 7) (.t 10))])
 (.cond (.t 11) (.seq (.region 0 [oP 4 (.move (.c (.bool false)))])
 (.ret))
 (.skip)))
 (.seq (.seq (.region 0 [oP 5 (.move (.c (.int .i64 0)))])
 (.block 0 (.loop (.seq (.seq (.region 0 [oP 12 (.move (.t 5)),
 oP 13 (.move (.t 1)),
 oP 14 (.lenS (.t 13)),
 oP 15 (.bin .lss (.t 12) (.t 14))])
 (.cond (.t 15) (.skip)
 (.exit 0)))
 (.seq (.block 1 (.seq (.region 0 [oQ 18 (.load true 4 (.t 2)),
 oP 19 (.move (.t 1)),
 oP 20 (.move (.t 5)),
 oP 21 (.idxSl 1 (.t 19) (.t 20)),
 oQ 22 (.load false 1 (.t 21)),
 oQ 23 (.call 1 58 [(.t 18), (.t 22)]),
 oP 24 (.un .not (.t 23))])
 (.cond (.t 24) (.seq (.region 0 [oP 4 (.move (.c (.bool false)))])
 (.ret))
 (.skip))))
 (.region 0 [oP 16 (.move (.t 5)),
 oP 17 (.bin .add (.t 16) (.c (.int .i64 1))),
 oP 5 (.move (.t 17))]))))))
 (.seq (.region 0 [oQ 25 (.load true 4 (.t 2)),
 oP 26 (.move (.t 1)),
 oQ 27 (.call 1 90 [(.t 25), (.t 26)]),
 oP 4 (.move (.t 27))])
 (.ret))))⟩
/-- almadraba/almadrabaref08.IsDay -/
def f48 : AFn := ⟨5, [.tmp 2],
 .seq (.region 0 [oP 2 (.move (.c (.bool false)))])
 (.seq (.region 0 [oP 3 (.move (.t 0)),
 oQ 4 (.call 1 66 [(.t 3), (.c (.int .i64 0)), (.c (.int .i64 20))]),
 oP 2 (.move (.t 4))])
 (.ret))⟩
/-- almadraba/almadrabalaw08.both -/
def f49 : AFn := ⟨54, [.tmp 2, .tmp 3, .tmp 4, .tmp 5],
 .seq (.region 0 [oQ 1 (.box (.t 0)),
 oP 2 (.move (.c (.int .i64 0))),
 oP 3 (.move (.c (.int .i64 0))),
 oP 4 (.move (.c (.bool false))),
 oP 5 (.move (.c (.bool false)))])
 (.seq (.region 0 [oQ 11 (.load true 4 (.t 1)),
 oQ 12 (.call 1 30 [(.t 11)]),
 oP 10 (.move (.t 12)),
 oP 13 (.extract (.t 10) 0),
 oP 14 (.extract (.t 10) 1),
 oP 6 (.move (.t 13)),
 oP 7 (.move (.t 14))])
 (.seq (.region 0 [oQ 16 (.load true 4 (.t 1)),
 oQ 17 (.call 1 34 [(.t 16)]),
 oP 15 (.move (.t 17)),
 oP 18 (.extract (.t 15) 0),
 oP 19 (.extract (.t 15) 1),
 oP 8 (.move (.t 18)),
 oP 9 (.move (.t 19))])
 (.seq (.seq (.region 0 [oP 20 (.move (.t 7)),
 oP 21 (.bin .neq (.t 20) (.c (.int .i64 0))),
 oP 22 (.move (.t 21)),
 oG 23 22 true (.move (.t 7)),
 oG 24 22 true (.bin .neq (.t 23) (.c (.int .i64 3))),
 oP 25 (.pick (.t 22) (.t 24) (.c (.bool false))),
 oP 26 (.move (.t 25)),
 oG 27 26 false (.move (.t 9)),
 oG 28 26 false (.move (.t 7)),
 oG 29 26 false (.bin .neq (.t 27) (.t 28)),
 oP 30 (.pick (.t 26) (.c (.bool true)) (.t 29)),
 oP 31 (.move (.t 30)),
 oG 32 31 false (.move (.t 6)),
 oG 33 31 false (.bin .lss (.t 32) (.c (.int .i64 0))),
 oP 34 (.pick (.t 31) (.c (.bool true)) (.t 33)),
 oP 35 (.move (.t 34)),
 oG 36 35 false (.move (.t 6)),
 oG 37 35 false (.bin .gtr (.t 36) (.c (.int .i64 1000))),
 oP 38 (.pick (.t 35) (.c (.bool true)) (.t 37)),
 oP 39 (.move (.t 38)),
 oG 40 39 false (.move (.t 8)),
 oG 41 39 false (.bin .lss (.t 40) (.c (.int .i64 0))),
 oP 42 (.pick (.t 39) (.c (.bool true)) (.t 41)),
 oP 43 (.move (.t 42)),
 oG 44 43 false (.move (.t 8)),
 oG 45 43 false (.fieldAddr 3 (.t 1)),
 ⟨(some 46), .load false 1 (.t 45), (some (43, false)), none, []⟩,
 oG 47 43 false (.lenS (.t 46)),
 oG 48 43 false (.bin .gtr (.t 44) (.t 47)),
 oP 49 (.pick (.t 43) (.c (.bool true)) (.t 48))])
 (.cond (.t 49) (.seq (.region 0 [oP 2 (.move (.c (.int .i64 0))),
 oP 3 (.move (.c (.int .i64 0))),
 oP 4 (.move (.c (.bool false))),
 oP 5 (.move (.c (.bool true)))])
 (.ret))
 (.skip)))
 (.seq (.region 0 [oP 50 (.move (.t 6)),
 oP 51 (.move (.t 8)),
 oP 52 (.move (.t 7)),
 oP 53 (.bin .eql (.t 52) (.c (.int .i64 0))),
 oP 2 (.move (.t 50)),
 oP 3 (.move (.t 51)),
 oP 4 (.move (.t 53)),
 oP 5 (.move (.c (.bool false)))])
 (.ret)))))⟩
/-- almadraba/almadrabaref08.AllSalt -/
def f50 : AFn := ⟨22, [.tmp 4],
 .seq (.region 0 [oQ 2 (.box (.t 0)),
 oP 4 (.move (.c (.int .i64 0)))])
 (.seq (.region 0 [oP 5 (.move (.c (.int .i64 0)))])
 (.seq (.seq (.region 0 [oP 6 (.move (.c (.int .i64 0)))])
 (.block 0 (.loop (.seq (.seq (.region 0 [oP 7 (.move (.t 6)),
 oP 8 (.fieldAddr 3 (.t 2)),
 oQ 9 (.load false 1 (.t 8)),
 oP 10 (.lenS (.t 9)),
 oP 11 (.bin .lss (.t 7) (.t 10))])
 (.cond (.t 11) (.skip)
 (.exit 0)))
 (.seq (.block 1 (.region 0 [oP 14 (.move (.t 5)),
 oQ 15 (.load true 4 (.t 2)),
 oP 16 (.move (.t 1)),
 oP 17 (.move (.t 6)),
 oQ 18 (.call 1 56 [(.t 16), (.t 17)]),
 oQ 19 (.call 1 71 [(.t 15), (.t 18)]),
 oP 20 (.bin .add (.t 14) (.t 19)),
 oP 5 (.move (.t 20))]))
 (.region 0 [oP 12 (.move (.t 6)),
 oP 13 (.bin .add (.t 12) (.c (.int .i64 1))),
 oP 6 (.move (.t 13))]))))))
 (.seq (.region 0 [oP 21 (.move (.t 5)),
 oP 4 (.move (.t 21))])
 (.ret))))⟩
/-- almadraba/almadrabaref08.Used -/
def f51 : AFn := ⟨22, [.tmp 4],
 .seq (.region 0 [oQ 2 (.box (.t 0)),
 oP 4 (.move (.c (.int .i64 0)))])
 (.seq (.region 0 [oP 5 (.move (.c (.int .i64 0)))])
 (.seq (.seq (.region 0 [oP 6 (.move (.c (.int .i64 0)))])
 (.block 0 (.loop (.seq (.seq (.region 0 [oP 7 (.move (.t 6)),
 oP 8 (.fieldAddr 3 (.t 2)),
 oQ 9 (.load false 1 (.t 8)),
 oP 10 (.lenS (.t 9)),
 oP 11 (.bin .lss (.t 7) (.t 10))])
 (.cond (.t 11) (.skip)
 (.exit 0)))
 (.seq (.block 1 (.seq (.region 0 [oP 14 (.move (.t 1)),
 oP 15 (.move (.t 6)),
 oQ 16 (.call 1 56 [(.t 14), (.t 15)]),
 oP 17 (.lenS (.t 16)),
 oP 18 (.bin .gtr (.t 17) (.c (.int .i64 0)))])
 (.cond (.t 18) (.region 0 [oP 19 (.move (.t 5)),
 oP 20 (.bin .add (.t 19) (.c (.int .i64 1))),
 oP 5 (.move (.t 20))])
 (.skip))))
 (.region 0 [oP 12 (.move (.t 6)),
 oP 13 (.bin .add (.t 12) (.c (.int .i64 1))),
 oP 6 (.move (.t 13))]))))))
 (.seq (.region 0 [oP 21 (.move (.t 5)),
 oP 4 (.move (.t 21))])
 (.ret))))⟩
/-- almadraba/almadrabaref08.EarlyOf -/
def f52 : AFn := ⟨31, [.tmp 6],
 .seq (.region 0 [oQ 3 (.box (.t 0)),
 oP 6 (.move (.c (.int .i64 0)))])
 (.seq (.region 0 [oP 7 (.move (.c (.int .i64 0)))])
 (.seq (.seq (.region 0 [oP 8 (.move (.c (.int .i64 0)))])
 (.block 0 (.loop (.seq (.seq (.region 0 [oP 10 (.move (.t 8)),
 oP 11 (.fieldAddr 3 (.t 3)),
 oQ 12 (.load false 1 (.t 11)),
 oP 13 (.lenS (.t 12)),
 oP 14 (.bin .lss (.t 10) (.t 13))])
 (.cond (.t 14) (.skip)
 (.exit 0)))
 (.seq (.block 1 (.seq (.region 0 [oP 17 (.move (.t 1)),
 oP 18 (.move (.t 8)),
 oQ 19 (.call 1 56 [(.t 17), (.t 18)]),
 oP 9 (.move (.t 19))])
 (.seq (.region 0 [oQ 20 (.load true 4 (.t 3)),
 oP 21 (.move (.t 9)),
 oQ 22 (.call 1 75 [(.t 20), (.t 21)]),
 oP 23 (.move (.t 2)),
 oP 24 (.bin .leq (.t 22) (.t 23))])
 (.cond (.t 24) (.region 0 [oP 25 (.move (.t 7)),
 oQ 26 (.load true 4 (.t 3)),
 oP 27 (.move (.t 9)),
 oQ 28 (.call 1 74 [(.t 26), (.t 27)]),
 oP 29 (.bin .add (.t 25) (.t 28)),
 oP 7 (.move (.t 29))])
 (.skip)))))
 (.region 0 [oP 15 (.move (.t 8)),
 oP 16 (.bin .add (.t 15) (.c (.int .i64 1))),
 oP 8 (.move (.t 16))]))))))
 (.seq (.region 0 [oP 30 (.move (.t 7)),
 oP 6 (.move (.t 30))])
 (.ret))))⟩
/-- almadraba/almadrabalaw08.all -/
def f53 : AFn := ⟨21, [.tmp 2],
 .seq (.region 0 [oQ 1 (.box (.t 0)),
 oP 2 (.move (.c (.int .i64 0)))])
 (.seq (.region 0 [oP 3 (.move (.c (.int .i64 0)))])
 (.seq (.seq (.region 0 [oP 4 (.move (.c (.int .i64 0)))])
 (.block 0 (.loop (.seq (.seq (.region 0 [oP 5 (.move (.t 4)),
 oP 6 (.fieldAddr 2 (.t 1)),
 oQ 7 (.load false 1 (.t 6)),
 oP 8 (.lenS (.t 7)),
 oP 9 (.bin .lss (.t 5) (.t 8))])
 (.cond (.t 9) (.skip)
 (.exit 0)))
 (.seq (.block 1 (.region 0 [oP 12 (.move (.t 3)),
 oP 13 (.fieldAddr 2 (.t 1)),
 oQ 14 (.load false 1 (.t 13)),
 oP 15 (.move (.t 4)),
 oP 16 (.idxSl 2 (.t 14) (.t 15)),
 oP 17 (.fieldAddr 1 (.t 16)),
 oQ 18 (.load false 1 (.t 17)),
 oP 19 (.bin .add (.t 12) (.t 18)),
 oP 3 (.move (.t 19))]))
 (.region 0 [oP 10 (.move (.t 4)),
 oP 11 (.bin .add (.t 10) (.c (.int .i64 1))),
 oP 4 (.move (.t 11))]))))))
 (.seq (.region 0 [oP 20 (.move (.t 3)),
 oP 2 (.move (.t 20))])
 (.ret))))⟩
/-- almadraba/almadrabaref01.Rising -/
def f54 : AFn := ⟨38, [.tmp 6],
 .seq (.region 0 [oP 6 (.move (.c (.bool false)))])
 (.seq (.seq (.region 0 [oP 7 (.move (.c (.int .i64 0)))])
 (.block 0 (.loop (.seq (.seq (.region 0 [oP 8 (.move (.t 7)),
 oP 9 (.move (.t 0)),
 oP 10 (.lenS (.t 9)),
 oP 11 (.bin .lss (.t 8) (.t 10))])
 (.cond (.t 11) (.skip)
 (.exit 0)))
 (.seq (.block 1 (.seq (.region 0 [oP 14 (.move (.t 0)),
 oP 15 (.move (.t 7)),
 oP 16 (.idxSl 1 (.t 14) (.t 15)),
 oQ 17 (.load false 1 (.t 16)),
 oP 18 (.move (.t 1)),
 oP 19 (.move (.t 2)),
 oQ 20 (.call 1 57 [(.t 17), (.t 18), (.t 19)]),
 oP 21 (.un .not (.t 20)),
 oP 22 (.move (.t 21)),
 oG 23 22 false (.move (.t 7)),
 oG 24 22 false (.bin .gtr (.t 23) (.c (.int .i64 0))),
 oG 25 22 false (.move (.t 24)),
 oG 26 25 true (.move (.t 0)),
 oG 27 25 true (.move (.t 7)),
 oG 28 25 true (.idxSl 1 (.t 26) (.t 27)),
 ⟨(some 29), .load false 1 (.t 28), (some (25, true)), none, []⟩,
 oG 30 25 true (.move (.t 0)),
 oG 31 25 true (.move (.t 7)),
 oG 32 25 true (.bin .sub (.t 31) (.c (.int .i64 1))),
 oG 33 25 true (.idxSl 1 (.t 30) (.t 32)),
 ⟨(some 34), .load false 1 (.t 33), (some (25, true)), none, []⟩,
 oG 35 25 true (.bin .leq (.t 29) (.t 34)),
 oG 36 22 false (.pick (.t 25) (.t 35) (.c (.bool false))),
 oP 37 (.pick (.t 22) (.c (.bool true)) (.t 36))])
 (.cond (.t 37) (.seq (.region 0 [oP 6 (.move (.c (.bool false)))])
 (.ret))
 (.skip))))
 (.region 0 [oP 12 (.move (.t 7)),
 oP 13 (.bin .add (.t 12) (.c (.int .i64 1))),
 oP 7 (.move (.t 13))]))))))
 (.seq (.region 0 [oP 6 (.move (.c (.bool true)))])
 (.ret)))⟩
/-- almadraba/almadrabaref01.In -/
def f55 : AFn := ⟨18, [.tmp 4],
 .seq (.region 0 [oP 4 (.move (.c (.bool false)))])
 (.seq (.seq (.region 0 [oP 5 (.move (.c (.int .i64 0)))])
 (.block 0 (.loop (.seq (.seq (.region 0 [oP 6 (.move (.t 5)),
 oP 7 (.move (.t 0)),
 oP 8 (.lenS (.t 7)),
 oP 9 (.bin .lss (.t 6) (.t 8))])
 (.cond (.t 9) (.skip)
 (.exit 0)))
 (.seq (.block 1 (.seq (.region 0 [oP 12 (.move (.t 0)),
 oP 13 (.move (.t 5)),
 oP 14 (.idxSl 1 (.t 12) (.t 13)),
 oQ 15 (.load false 1 (.t 14)),
 oP 16 (.move (.t 1)),
 oP 17 (.bin .eql (.t 15) (.t 16))])
 (.cond (.t 17) (.seq (.region 0 [oP 4 (.move (.c (.bool true)))])
 (.ret))
 (.skip))))
 (.region 0 [oP 10 (.move (.t 5)),
 oP 11 (.bin .add (.t 10) (.c (.int .i64 1))),
 oP 5 (.move (.t 11))]))))))
 (.seq (.region 0 [oP 4 (.move (.c (.bool false)))])
 (.ret)))⟩
/-- almadraba/almadrabaref08.In -/
def f56 : AFn := ⟨24, [.tmp 4],
 .seq (.region 0 [oP 4 (.move (.c (.nils)))])
 (.seq (.region 0 [oP 5 (.move (.c (.nils)))])
 (.seq (.seq (.region 0 [oP 6 (.move (.c (.int .i64 0)))])
 (.block 0 (.loop (.seq (.seq (.region 0 [oP 7 (.move (.t 6)),
 oP 8 (.move (.t 0)),
 oP 9 (.lenS (.t 8)),
 oP 10 (.bin .lss (.t 7) (.t 9))])
 (.cond (.t 10) (.skip)
 (.exit 0)))
 (.seq (.block 1 (.seq (.region 0 [oP 13 (.move (.t 0)),
 oP 14 (.move (.t 6)),
 oP 15 (.idxSl 1 (.t 13) (.t 14)),
 oQ 16 (.load false 1 (.t 15)),
 oP 17 (.move (.t 1)),
 oP 18 (.bin .eql (.t 16) (.t 17))])
 (.cond (.t 18) (.region 0 [oP 19 (.move (.t 5)),
 oP 20 (.move (.t 6)),
 oQ 21 (.litS 1 1 [.int .i64 0] [(0, (.t 20))]),
 oQ 22 (.append false 1 8 (.t 19) (.t 21)),
 oP 5 (.move (.t 22))])
 (.skip))))
 (.region 0 [oP 11 (.move (.t 6)),
 oP 12 (.bin .add (.t 11) (.c (.int .i64 1))),
 oP 6 (.move (.t 12))]))))))
 (.seq (.region 0 [oP 23 (.move (.t 5)),
 oP 4 (.move (.t 23))])
 (.ret))))⟩
/-- almadraba/almadrabaref01.Within -/
def f57 : AFn := ⟨15, [.tmp 6],
 .seq (.region 0 [oP 6 (.move (.c (.bool false)))])
 (.seq (.region 0 [oP 7 (.move (.t 1)),
 oP 8 (.move (.t 0)),
 oP 9 (.bin .leq (.t 7) (.t 8)),
 oP 10 (.move (.t 9)),
 oG 11 10 true (.move (.t 0)),
 oG 12 10 true (.move (.t 2)),
 oG 13 10 true (.bin .leq (.t 11) (.t 12)),
 oP 14 (.pick (.t 10) (.t 13) (.c (.bool false))),
 oP 6 (.move (.t 14))])
 (.ret))⟩
/-- almadraba/almadrabaref08.IsBarrel -/
def f58 : AFn := ⟨11, [.tmp 4],
 .seq (.region 0 [oQ 2 (.box (.t 0)),
 oP 4 (.move (.c (.bool false)))])
 (.seq (.region 0 [oP 5 (.move (.t 1)),
 oP 6 (.fieldAddr 3 (.t 2)),
 oQ 7 (.load false 1 (.t 6)),
 oP 8 (.lenS (.t 7)),
 oP 9 (.bin .sub (.t 8) (.c (.int .i64 1))),
 oQ 10 (.call 1 66 [(.t 5), (.c (.int .i64 0)), (.t 9)]),
 oP 4 (.move (.t 10))])
 (.ret))⟩
/-- almadraba/almadrabaref08.More -/
def f59 : AFn := ⟨15, [.cell true 4 4],
 .seq (.region 0 [oQ 2 (.box (.t 0)),
 oQ 4 (.alloc [.nils, .int .i64 0, .nils, .nils])])
 (.seq (.region 0 [oQ 6 (.load true 4 (.t 2)),
 oQ 7 (.call 2 17 [(.t 6)]),
 oQ 5 (.alloc [.nils, .int .i64 0, .nils, .nils]),
 ⟨none, .store 4 (.t 5) (.t 7), none, none, []⟩])
 (.seq (.region 0 [oP 8 (.fieldAddr 3 (.t 5)),
 oQ 9 (.load false 1 (.t 8)),
 oP 10 (.move (.t 1)),
 oQ 11 (.litS 1 1 [.int .i64 0] [(0, (.t 10))]),
 oQ 12 (.append false 1 8 (.t 9) (.t 11)),
 oP 13 (.fieldAddr 3 (.t 5)),
 ⟨none, .store 1 (.t 13) (.t 12), none, none, []⟩])
 (.seq (.region 0 [oQ 14 (.load true 4 (.t 5)),
 ⟨none, .store 4 (.t 4) (.t 14), none, none, []⟩])
 (.ret))))⟩
/-- almadraba/almadrabaref08.IsStock -/
def f60 : AFn := ⟨5, [.tmp 2],
 .seq (.region 0 [oP 2 (.move (.c (.bool false)))])
 (.seq (.region 0 [oP 3 (.move (.t 0)),
 oQ 4 (.call 1 66 [(.t 3), (.c (.int .i64 0)), (.c (.int .i64 999))]),
 oP 2 (.move (.t 4))])
 (.ret))⟩
/-- almadraba/almadrabaref08.IsPart -/
def f61 : AFn := ⟨11, [.tmp 4],
 .seq (.region 0 [oQ 2 (.box (.t 0)),
 oP 4 (.move (.c (.bool false)))])
 (.seq (.region 0 [oP 5 (.move (.t 1)),
 oP 6 (.fieldAddr 2 (.t 2)),
 oQ 7 (.load false 1 (.t 6)),
 oP 8 (.lenS (.t 7)),
 oP 9 (.bin .sub (.t 8) (.c (.int .i64 1))),
 oQ 10 (.call 1 66 [(.t 5), (.c (.int .i64 0)), (.t 9)]),
 oP 4 (.move (.t 10))])
 (.ret))⟩
/-- almadraba/almadrabaref08.Without -/
def f62 : AFn := ⟨22, [.cell true 4 4],
 .seq (.region 0 [oQ 2 (.box (.t 0)),
 oQ 4 (.alloc [.nils, .int .i64 0, .nils, .nils])])
 (.seq (.region 0 [oQ 6 (.load true 4 (.t 2)),
 oQ 7 (.call 1 17 [(.t 6)]),
 oQ 5 (.alloc [.nils, .int .i64 0, .nils, .nils]),
 ⟨none, .store 4 (.t 5) (.t 7), none, none, []⟩])
 (.seq (.region 3 [⟨(some 8), .buildSlice 2 0 [.int .i64 0, .int .i64 0] [], none, (some 0), []⟩,
 oP 9 (.fieldAddr 2 (.t 2)),
 ⟨(some 10), .load false 1 (.t 9), none, none, [0, 1, 2]⟩,
 oP 11 (.move (.t 1)),
 oP 12 (.slice 2 (.t 10) none (some (.t 11))),
 ⟨(some 13), .append true 2 16 (.t 8) (.t 12), none, (some 1), [2]⟩,
 oP 14 (.fieldAddr 2 (.t 2)),
 ⟨(some 15), .load false 1 (.t 14), none, none, [0, 1, 2]⟩,
 oP 16 (.move (.t 1)),
 oP 17 (.bin .add (.t 16) (.c (.int .i64 1))),
 oP 18 (.slice 2 (.t 15) (some (.t 17)) none),
 ⟨(some 19), .append false 2 16 (.t 13) (.t 18), none, (some 2), []⟩,
 oP 20 (.fieldAddr 2 (.t 5)),
 ⟨none, .store 1 (.t 20) (.t 19), none, none, []⟩])
 (.seq (.region 0 [oQ 21 (.load true 4 (.t 5)),
 ⟨none, .store 4 (.t 4) (.t 21), none, none, []⟩])
 (.ret))))⟩
/-- almadraba/almadrabaref08.AreParts -/
def f63 : AFn := ⟨11, [.tmp 4],
 .seq (.region 0 [oQ 2 (.box (.t 0)),
 oP 4 (.move (.c (.bool false)))])
 (.seq (.region 0 [oP 5 (.move (.t 1)),
 oP 6 (.fieldAddr 2 (.t 2)),
 oQ 7 (.load false 1 (.t 6)),
 oP 8 (.lenS (.t 7)),
 oP 9 (.bin .sub (.t 8) (.c (.int .i64 1))),
 oQ 10 (.call 1 54 [(.t 5), (.c (.int .i64 0)), (.t 9)]),
 oP 4 (.move (.t 10))])
 (.ret))⟩
/-- almadraba/almadrabalaw08.Example -/
def f64 : AFn := ⟨16, [.cell true 4 0, .cell true 4 1],
 .seq (.region 0 [oQ 0 (.alloc [.nils, .int .i64 0, .nils, .nils]),
 oQ 1 (.alloc [.nils, .int .i64 0, .nils, .nils])])
 (.seq (.region 0 [oP 2 (.build [.int .i64 0, .int .i64 0] [(0, 1, (.c (.int .i64 3))), (1, 1, (.c (.int .i64 10)))]),
 oP 3 (.build [.int .i64 0, .int .i64 0] [(0, 1, (.c (.int .i64 5))), (1, 1, (.c (.int .i64 4)))]),
 oQ 4 (.litS 2 2 [.int .i64 0, .int .i64 0] [(0, (.t 2)), (1, (.t 3))]),
 oP 5 (.build [.int .i64 0, .int .i64 0] [(1, 1, (.c (.int .i64 10)))]),
 oP 6 (.build [.int .i64 0, .int .i64 0] [(1, 1, (.c (.int .i64 15)))]),
 oP 7 (.build [.int .i64 0, .int .i64 0] [(0, 1, (.c (.int .i64 1))), (1, 1, (.c (.int .i64 8)))]),
 oQ 8 (.litS 2 3 [.int .i64 0, .int .i64 0] [(0, (.t 5)), (1, (.t 6)), (2, (.t 7))]),
 oQ 9 (.litS 1 2 [.int .i64 0] [(0, (.c (.int .i64 40))), (1, (.c (.int .i64 20)))]),
 oP 10 (.build [.nils, .int .i64 0, .nils, .nils] [(0, 1, (.t 4)), (1, 1, (.c (.int .i64 2))), (2, 1, (.t 8)), (3, 1, (.t 9))]),
 ⟨none, .store 4 (.t 0) (.t 10), none, none, []⟩])
 (.seq (.region 0 [oQ 11 (.load true 4 (.t 0)),
 ⟨none, .store 4 (.t 1) (.t 11), none, none, []⟩])
 (.seq (.region 0 [oQ 12 (.litS 1 2 [.int .i64 0] [(0, (.c (.int .i64 40))), (1, (.c (.int .i64 13)))]),
 oP 13 (.fieldAddr 3 (.t 1)),
 ⟨none, .store 1 (.t 13) (.t 12), none, none, []⟩])
 (.seq (.region 0 [oQ 14 (.load true 4 (.t 0)),
 oQ 15 (.loadR true 4 (.t 1) 1),
 ⟨none, .storeR 4 (.t 0) (.t 14) [1], none, none, []⟩,
 ⟨none, .store 4 (.t 1) (.t 15), none, none, []⟩])
 (.ret)))))⟩
/-- (almadraba/salt.house).valid -/
def f65 : AFn := ⟨46, [.tmp 2],
 .seq (.region 0 [oQ 1 (.box (.t 0)),
 oP 2 (.move (.c (.bool false)))])
 (.seq (.region 0 [oP 3 (.move (.c (.fn 91 [] [])))])
 (.seq (.region 0 [oP 6 (.mkFn 92 [] [(.t 1)]),
 oP 4 (.move (.t 6))])
 (.seq (.region 0 [oP 5 (.move (.c (.fn 93 [] [])))])
 (.seq (.region 0 [oP 7 (.fieldAddr 0 (.t 1)),
 oQ 8 (.load false 1 (.t 7)),
 oP 9 (.lenS (.t 8)),
 oP 10 (.bin .leq (.t 9) (.c (.int .i64 3))),
 oP 11 (.move (.t 10)),
 oG 12 11 true (.fieldAddr 0 (.t 1)),
 ⟨(some 13), .load false 1 (.t 12), (some (11, true)), none, []⟩,
 oG 14 11 true (.move (.t 3)),
 ⟨(some 15), .call 3 94 [(.t 13), (.t 14)], (some (11, true)), none, []⟩,
 oP 16 (.pick (.t 11) (.t 15) (.c (.bool false))),
 oP 17 (.move (.t 16)),
 oG 18 17 true (.fieldAddr 1 (.t 1)),
 ⟨(some 19), .load false 1 (.t 18), (some (17, true)), none, []⟩,
 ⟨(some 20), .call 1 83 [(.t 19), (.c (.int .i64 0)), (.c (.int .i64 9))], (some (17, true)), none, []⟩,
 oP 21 (.pick (.t 17) (.t 20) (.c (.bool false))),
 oP 22 (.move (.t 21)),
 oG 23 22 true (.fieldAddr 2 (.t 1)),
 ⟨(some 24), .load false 1 (.t 23), (some (22, true)), none, []⟩,
 oG 25 22 true (.lenS (.t 24)),
 oG 26 22 true (.bin .leq (.t 25) (.c (.int .i64 6))),
 oP 27 (.pick (.t 22) (.t 26) (.c (.bool false))),
 oP 28 (.move (.t 27)),
 oG 29 28 true (.fieldAddr 2 (.t 1)),
 ⟨(some 30), .load false 1 (.t 29), (some (28, true)), none, []⟩,
 oG 31 28 true (.move (.t 4)),
 ⟨(some 32), .call 3 95 [(.t 30), (.t 31)], (some (28, true)), none, []⟩,
 oP 33 (.pick (.t 28) (.t 32) (.c (.bool false))),
 oP 34 (.move (.t 33)),
 oG 35 34 true (.fieldAddr 3 (.t 1)),
 ⟨(some 36), .load false 1 (.t 35), (some (34, true)), none, []⟩,
 oG 37 34 true (.lenS (.t 36)),
 oG 38 34 true (.bin .leq (.t 37) (.c (.int .i64 4))),
 oP 39 (.pick (.t 34) (.t 38) (.c (.bool false))),
 oP 40 (.move (.t 39)),
 oG 41 40 true (.fieldAddr 3 (.t 1)),
 ⟨(some 42), .load false 1 (.t 41), (some (40, true)), none, []⟩,
 oG 43 40 true (.move (.t 5)),
 ⟨(some 44), .call 3 96 [(.t 42), (.t 43)], (some (40, true)), none, []⟩,
 oP 45 (.pick (.t 40) (.t 44) (.c (.bool false))),
 oP 2 (.move (.t 45))])
 (.ret)))))⟩
/-- almadraba/almadrabaref08.within -/
def f66 : AFn := ⟨11, [.tmp 6],
 .seq (.region 0 [oP 6 (.move (.c (.bool false)))])
 (.seq (.region 0 [oP 7 (.move (.t 0)),
 oP 8 (.move (.t 1)),
 oP 9 (.move (.t 2)),
 oQ 10 (.call 1 57 [(.t 7), (.t 8), (.t 9)]),
 oP 6 (.move (.t 10))])
 (.ret))⟩
/-- (almadraba/salt.house).areParts -/
def f67 : AFn := ⟨32, [.tmp 4],
 .seq (.region 0 [oQ 2 (.box (.t 0)),
 oP 4 (.move (.c (.bool false)))])
 (.seq (.seq (.region 0 [oP 7 (.move (.t 1)),
 oP 8 (.lenS (.t 7)),
 oP 9 (.move (.c (.int .i64 0)))])
 (.block 0 (.loop (.seq (.region 0 [oP 10 (.bin .lss (.t 9) (.t 8))])
 (.seq (.cond (.t 10) (.skip)
 (.exit 0))
 (.seq (.block 1 (.seq (.region 0 [oP 11 (.move (.t 9)),
 oP 12 (.idxSl 1 (.t 7) (.t 9)),
 oQ 13 (.load false 1 (.t 12)),
 oP 5 (.move (.t 11)),
 oP 6 (.move (.t 13))])
 (.seq (.region 0 [oQ 14 (.load true 4 (.t 2)),
 oP 15 (.move (.t 6)),
 oQ 16 (.call 1 80 [(.t 14), (.t 15)]),
 oP 17 (.un .not (.t 16)),
 oP 18 (.move (.t 17)),
 oG 19 18 false (.move (.t 5)),
 oG 20 18 false (.bin .gtr (.t 19) (.c (.int .i64 0))),
 oG 21 18 false (.move (.t 20)),
 oG 22 21 true (.move (.t 6)),
 oG 23 21 true (.move (.t 1)),
 oG 24 21 true (.move (.t 5)),
 oG 25 21 true (.bin .sub (.t 24) (.c (.int .i64 1))),
 oG 26 21 true (.idxSl 1 (.t 23) (.t 25)),
 ⟨(some 27), .load false 1 (.t 26), (some (21, true)), none, []⟩,
 oG 28 21 true (.bin .leq (.t 22) (.t 27)),
 oG 29 18 false (.pick (.t 21) (.t 28) (.c (.bool false))),
 oP 30 (.pick (.t 18) (.c (.bool true)) (.t 29))])
 (.cond (.t 30) (.seq (.region 0 [oP 4 (.move (.c (.bool false)))])
 (.ret))
 (.skip)))))
 (.region 0 [oP 31 (.bin .add (.t 9) (.c (.int .i64 1))),
 oP 9 (.move (.t 31))])))))))
 (.seq (.region 0 [oP 4 (.move (.c (.bool true)))])
 (.ret)))⟩
/-- (almadraba/salt.house).saltOf -/
def f68 : AFn := ⟨18, [.tmp 4],
 .seq (.region 0 [oQ 2 (.box (.t 0)),
 oQ 3 (.box (.t 1)),
 oP 4 (.move (.c (.int .i64 0)))])
 (.seq (.seq (.region 0 [oP 5 (.fieldAddr 0 (.t 3)),
 oQ 6 (.load false 1 (.t 5)),
 oP 7 (.bin .eql (.t 6) (.c (.int .i64 0)))])
 (.cond (.t 7) (.seq (.region 0 [oP 4 (.move (.c (.int .i64 0)))])
 (.ret))
 (.skip)))
 (.seq (.region 0 [oP 8 (.fieldAddr 1 (.t 2)),
 oQ 9 (.load false 1 (.t 8)),
 oP 10 (.fieldAddr 1 (.t 3)),
 oQ 11 (.load false 1 (.t 10)),
 oP 12 (.fieldAddr 2 (.t 3)),
 oQ 13 (.load false 1 (.t 12)),
 oP 14 (.bin .mul (.t 11) (.t 13)),
 oP 15 (.bin .add (.t 14) (.c (.int .i64 9))),
 oP 16 (.bin .quo (.t 15) (.c (.int .i64 10))),
 oP 17 (.bin .add (.t 9) (.t 16)),
 oP 4 (.move (.t 17))])
 (.ret)))⟩
/-- (almadraba/salt.house).fill -/
def f69 : AFn := ⟨52, [.cell true 4 6],
 .seq (.region 0 [oQ 3 (.box (.t 0)),
 oQ 4 (.box (.t 1)),
 oQ 6 (.alloc [.int .i64 0, .int .i64 0, .int .i64 0, .int .i64 0])])
 (.seq (.seq (.region 0 [oP 11 (.move (.t 2)),
 oP 12 (.lenS (.t 11)),
 oP 13 (.move (.c (.int .i64 0)))])
 (.block 0 (.loop (.seq (.region 0 [oP 14 (.bin .lss (.t 13) (.t 12))])
 (.seq (.cond (.t 14) (.skip)
 (.exit 0))
 (.seq (.block 1 (.seq (.region 0 [oP 15 (.idxSl 1 (.t 11) (.t 13)),
 oQ 16 (.load false 1 (.t 15)),
 oP 8 (.move (.t 16))])
 (.seq (.region 0 [oP 17 (.fieldAddr 2 (.t 3)),
 oQ 18 (.load false 1 (.t 17)),
 oP 19 (.move (.t 8)),
 oP 20 (.idxSl 2 (.t 18) (.t 19)),
 oQ 21 (.load true 2 (.t 20)),
 oQ 9 (.alloc [.int .i64 0, .int .i64 0]),
 ⟨none, .store 2 (.t 9) (.t 21), none, none, []⟩])
 (.seq (.region 0 [oP 22 (.fieldAddr 0 (.t 3)),
 oQ 23 (.load false 1 (.t 22)),
 oP 24 (.fieldAddr 0 (.t 9)),
 oQ 25 (.load false 1 (.t 24)),
 oP 26 (.idxSl 2 (.t 23) (.t 25)),
 oQ 27 (.load true 2 (.t 26)),
 oQ 10 (.alloc [.int .i64 0, .int .i64 0]),
 ⟨none, .store 2 (.t 10) (.t 27), none, none, []⟩])
 (.seq (.region 0 [oP 28 (.fieldAddr 0 (.t 4)),
 oQ 29 (.load false 1 (.t 28)),
 oP 30 (.bin .add (.t 29) (.c (.int .i64 1))),
 oP 31 (.fieldAddr 0 (.t 4)),
 ⟨none, .store 1 (.t 31) (.t 30), none, none, []⟩])
 (.seq (.region 0 [oP 32 (.fieldAddr 1 (.t 4)),
 oQ 33 (.load false 1 (.t 32)),
 oP 34 (.fieldAddr 1 (.t 9)),
 oQ 35 (.load false 1 (.t 34)),
 oP 36 (.bin .add (.t 33) (.t 35)),
 oP 37 (.fieldAddr 1 (.t 4)),
 ⟨none, .store 1 (.t 37) (.t 36), none, none, []⟩])
 (.seq (.region 0 [oP 38 (.fieldAddr 2 (.t 4)),
 oQ 39 (.load false 1 (.t 38)),
 oP 40 (.fieldAddr 0 (.t 10)),
 oQ 41 (.load false 1 (.t 40)),
 oP 42 (.minmax true (.t 39) [(.t 41)]),
 oP 43 (.fieldAddr 2 (.t 4)),
 ⟨none, .store 1 (.t 43) (.t 42), none, none, []⟩])
 (.region 0 [oP 44 (.fieldAddr 3 (.t 4)),
 oQ 45 (.load false 1 (.t 44)),
 oP 46 (.fieldAddr 1 (.t 10)),
 oQ 47 (.load false 1 (.t 46)),
 oP 48 (.minmax true (.t 45) [(.t 47)]),
 oP 49 (.fieldAddr 3 (.t 4)),
 ⟨none, .store 1 (.t 49) (.t 48), none, none, []⟩]))))))))
 (.region 0 [oP 50 (.bin .add (.t 13) (.c (.int .i64 1))),
 oP 13 (.move (.t 50))])))))))
 (.seq (.region 0 [oQ 51 (.load true 4 (.t 4)),
 ⟨none, .store 4 (.t 6) (.t 51), none, none, []⟩])
 (.ret)))⟩
/-- almadraba/almadrabaref08.SaltOf -/
def f71 : AFn := ⟨42, [.tmp 4],
 .seq (.region 0 [oQ 2 (.box (.t 0)),
 oP 4 (.move (.c (.int .i64 0)))])
 (.seq (.seq (.region 0 [oP 7 (.move (.t 1)),
 oP 8 (.lenS (.t 7)),
 oP 9 (.bin .eql (.t 8) (.c (.int .i64 0)))])
 (.cond (.t 9) (.seq (.region 0 [oP 4 (.move (.c (.int .i64 0)))])
 (.ret))
 (.skip)))
 (.seq (.region 0 [oP 5 (.move (.c (.int .i64 0)))])
 (.seq (.seq (.region 0 [oP 6 (.move (.c (.int .i64 0)))])
 (.block 0 (.loop (.seq (.seq (.region 0 [oP 10 (.move (.t 6)),
 oP 11 (.move (.t 1)),
 oP 12 (.lenS (.t 11)),
 oP 13 (.bin .lss (.t 10) (.t 12))])
 (.cond (.t 13) (.skip)
 (.exit 0)))
 (.seq (.block 1 (.region 0 [oP 16 (.move (.t 5)),
 oP 17 (.fieldAddr 0 (.t 2)),
 oQ 18 (.load false 1 (.t 17)),
 oP 19 (.fieldAddr 2 (.t 2)),
 oQ 20 (.load false 1 (.t 19)),
 oP 21 (.move (.t 1)),
 oP 22 (.move (.t 6)),
 oP 23 (.idxSl 1 (.t 21) (.t 22)),
 oQ 24 (.load false 1 (.t 23)),
 oP 25 (.idxSl 2 (.t 20) (.t 24)),
 oP 26 (.fieldAddr 0 (.t 25)),
 oQ 27 (.load false 1 (.t 26)),
 oP 28 (.idxSl 2 (.t 18) (.t 27)),
 oP 29 (.fieldAddr 0 (.t 28)),
 oQ 30 (.load false 1 (.t 29)),
 oP 31 (.minmax true (.t 16) [(.t 30)]),
 oP 5 (.move (.t 31))]))
 (.region 0 [oP 14 (.move (.t 6)),
 oP 15 (.bin .add (.t 14) (.c (.int .i64 1))),
 oP 6 (.move (.t 15))]))))))
 (.seq (.region 0 [oP 32 (.fieldAddr 1 (.t 2)),
 oQ 33 (.load false 1 (.t 32)),
 oQ 34 (.load true 4 (.t 2)),
 oP 35 (.move (.t 1)),
 oQ 36 (.call 1 74 [(.t 34), (.t 35)]),
 oP 37 (.move (.t 5)),
 oP 38 (.bin .mul (.t 36) (.t 37)),
 oP 39 (.bin .add (.t 38) (.c (.int .i64 9))),
 oP 40 (.bin .quo (.t 39) (.c (.int .i64 10))),
 oP 41 (.bin .add (.t 33) (.t 40)),
 oP 4 (.move (.t 41))])
 (.ret)))))⟩
/-- (almadraba/salt.house).laid -/
def f72 : AFn := ⟨44, [.cell true 16 4, .tmp 5],
 .seq (.region 0 [oQ 2 (.box (.t 0)),
 oQ 4 (.alloc [.int .i64 0, .int .i64 0, .int .i64 0, .int .i64 0, .int .i64 0, .int .i64 0, .int .i64 0, .int .i64 0, .int .i64 0, .int .i64 0, .int .i64 0, .int .i64 0, .int .i64 0, .int .i64 0, .int .i64 0, .int .i64 0]),
 oP 5 (.move (.c (.bool false)))])
 (.seq (.region 0 [oQ 6 (.alloc [.int .i64 0, .int .i64 0, .int .i64 0, .int .i64 0, .int .i64 0, .int .i64 0, .int .i64 0, .int .i64 0, .int .i64 0, .int .i64 0, .int .i64 0, .int .i64 0, .int .i64 0, .int .i64 0, .int .i64 0, .int .i64 0])])
 (.seq (.seq (.region 0 [oP 11 (.move (.t 1)),
 oP 12 (.lenS (.t 11)),
 oP 13 (.fieldAddr 2 (.t 2)),
 oQ 14 (.load false 1 (.t 13)),
 oP 15 (.lenS (.t 14)),
 oP 16 (.bin .neq (.t 12) (.t 15))])
 (.cond (.t 16) (.seq (.region 0 [oQ 17 (.load true 16 (.t 6)),
 ⟨none, .store 16 (.t 4) (.t 17), none, none, []⟩,
 oP 5 (.move (.c (.bool false)))])
 (.ret))
 (.skip)))
 (.seq (.seq (.region 0 [oP 18 (.move (.t 1)),
 oP 19 (.lenS (.t 18)),
 oP 20 (.move (.c (.int .i64 0)))])
 (.block 0 (.loop (.seq (.region 0 [oP 21 (.bin .lss (.t 20) (.t 19))])
 (.seq (.cond (.t 21) (.skip)
 (.exit 0))
 (.seq (.block 1 (.seq (.region 0 [oP 22 (.move (.t 20)),
 oP 23 (.idxSl 1 (.t 18) (.t 20)),
 oQ 24 (.load false 1 (.t 23)),
 oP 7 (.move (.t 22)),
 oP 8 (.move (.t 24))])
 (.seq (.seq (.region 0 [oQ 25 (.load true 4 (.t 2)),
 oP 26 (.move (.t 8)),
 oQ 27 (.call 1 73 [(.t 25), (.t 26)]),
 oP 28 (.un .not (.t 27))])
 (.cond (.t 28) (.seq (.region 0 [oQ 29 (.load true 16 (.t 6)),
 ⟨none, .store 16 (.t 4) (.t 29), none, none, []⟩,
 oP 5 (.move (.c (.bool false)))])
 (.ret))
 (.skip)))
 (.seq (.region 0 [oQ 31 (.load true 4 (.t 2)),
 oQ 32 (.load true 16 (.t 6)),
 oP 33 (.move (.t 7)),
 oP 34 (.move (.t 8)),
 oQ 35 (.call 1 97 [(.t 31), (.t 32), (.t 33), (.t 34)]),
 oP 30 (.move (.t 35)),
 oP 36 (.extract (.t 30) 0),
 oP 37 (.extract (.t 30) 1),
 oQ 9 (.alloc [.int .i64 0, .int .i64 0, .int .i64 0, .int .i64 0, .int .i64 0, .int .i64 0, .int .i64 0, .int .i64 0, .int .i64 0, .int .i64 0, .int .i64 0, .int .i64 0, .int .i64 0, .int .i64 0, .int .i64 0, .int .i64 0]),
 ⟨none, .store 16 (.t 9) (.t 36), none, none, []⟩,
 oP 10 (.move (.t 37))])
 (.seq (.seq (.region 0 [oP 38 (.move (.t 10)),
 oP 39 (.un .not (.t 38))])
 (.cond (.t 39) (.seq (.region 0 [oQ 40 (.load true 16 (.t 6)),
 ⟨none, .store 16 (.t 4) (.t 40), none, none, []⟩,
 oP 5 (.move (.c (.bool false)))])
 (.ret))
 (.skip)))
 (.region 0 [oQ 41 (.load true 16 (.t 9)),
 ⟨none, .store 16 (.t 6) (.t 41), none, none, []⟩]))))))
 (.region 0 [oP 42 (.bin .add (.t 20) (.c (.int .i64 1))),
 oP 20 (.move (.t 42))])))))))
 (.seq (.region 0 [oQ 43 (.load true 16 (.t 6)),
 ⟨none, .store 16 (.t 4) (.t 43), none, none, []⟩,
 oP 5 (.move (.c (.bool true)))])
 (.ret)))))⟩
/-- (almadraba/salt.house).hasBarrel -/
def f73 : AFn := ⟨11, [.tmp 4],
 .seq (.region 0 [oQ 2 (.box (.t 0)),
 oP 4 (.move (.c (.bool false)))])
 (.seq (.region 0 [oP 5 (.move (.t 1)),
 oP 6 (.fieldAddr 3 (.t 2)),
 oQ 7 (.load false 1 (.t 6)),
 oP 8 (.lenS (.t 7)),
 oP 9 (.bin .sub (.t 8) (.c (.int .i64 1))),
 oQ 10 (.call 1 83 [(.t 5), (.c (.int .i64 0)), (.t 9)]),
 oP 4 (.move (.t 10))])
 (.ret))⟩
/-- almadraba/almadrabaref08.PoundsOf -/
def f74 : AFn := ⟨25, [.tmp 4],
 .seq (.region 0 [oQ 2 (.box (.t 0)),
 oP 4 (.move (.c (.int .i64 0)))])
 (.seq (.region 0 [oP 5 (.move (.c (.int .i64 0)))])
 (.seq (.seq (.region 0 [oP 6 (.move (.c (.int .i64 0)))])
 (.block 0 (.loop (.seq (.seq (.region 0 [oP 7 (.move (.t 6)),
 oP 8 (.move (.t 1)),
 oP 9 (.lenS (.t 8)),
 oP 10 (.bin .lss (.t 7) (.t 9))])
 (.cond (.t 10) (.skip)
 (.exit 0)))
 (.seq (.block 1 (.region 0 [oP 13 (.move (.t 5)),
 oP 14 (.fieldAddr 2 (.t 2)),
 oQ 15 (.load false 1 (.t 14)),
 oP 16 (.move (.t 1)),
 oP 17 (.move (.t 6)),
 oP 18 (.idxSl 1 (.t 16) (.t 17)),
 oQ 19 (.load false 1 (.t 18)),
 oP 20 (.idxSl 2 (.t 15) (.t 19)),
 oP 21 (.fieldAddr 1 (.t 20)),
 oQ 22 (.load false 1 (.t 21)),
 oP 23 (.bin .add (.t 13) (.t 22)),
 oP 5 (.move (.t 23))]))
 (.region 0 [oP 11 (.move (.t 6)),
 oP 12 (.bin .add (.t 11) (.c (.int .i64 1))),
 oP 6 (.move (.t 12))]))))))
 (.seq (.region 0 [oP 24 (.move (.t 5)),
 oP 4 (.move (.t 24))])
 (.ret))))⟩
/-- almadraba/almadrabaref08.DaysOf -/
def f75 : AFn := ⟨30, [.tmp 4],
 .seq (.region 0 [oQ 2 (.box (.t 0)),
 oP 4 (.move (.c (.int .i64 0)))])
 (.seq (.region 0 [oP 5 (.move (.c (.int .i64 0)))])
 (.seq (.seq (.region 0 [oP 6 (.move (.c (.int .i64 0)))])
 (.block 0 (.loop (.seq (.seq (.region 0 [oP 7 (.move (.t 6)),
 oP 8 (.move (.t 1)),
 oP 9 (.lenS (.t 8)),
 oP 10 (.bin .lss (.t 7) (.t 9))])
 (.cond (.t 10) (.skip)
 (.exit 0)))
 (.seq (.block 1 (.region 0 [oP 13 (.move (.t 5)),
 oP 14 (.fieldAddr 0 (.t 2)),
 oQ 15 (.load false 1 (.t 14)),
 oP 16 (.fieldAddr 2 (.t 2)),
 oQ 17 (.load false 1 (.t 16)),
 oP 18 (.move (.t 1)),
 oP 19 (.move (.t 6)),
 oP 20 (.idxSl 1 (.t 18) (.t 19)),
 oQ 21 (.load false 1 (.t 20)),
 oP 22 (.idxSl 2 (.t 17) (.t 21)),
 oP 23 (.fieldAddr 0 (.t 22)),
 oQ 24 (.load false 1 (.t 23)),
 oP 25 (.idxSl 2 (.t 15) (.t 24)),
 oP 26 (.fieldAddr 1 (.t 25)),
 oQ 27 (.load false 1 (.t 26)),
 oP 28 (.minmax true (.t 13) [(.t 27)]),
 oP 5 (.move (.t 28))]))
 (.region 0 [oP 11 (.move (.t 6)),
 oP 12 (.bin .add (.t 11) (.c (.int .i64 1))),
 oP 6 (.move (.t 12))]))))))
 (.seq (.region 0 [oP 29 (.move (.t 5)),
 oP 4 (.move (.t 29))])
 (.ret))))⟩
/-- (almadraba/salt.house).best -/
def f76 : AFn := ⟨36, [.tmp 4, .tmp 5, .tmp 6],
 .seq (.region 0 [oQ 2 (.box (.t 0)),
 oQ 3 (.box (.t 1)),
 oP 4 (.move (.c (.nils))),
 oP 5 (.move (.c (.int .i64 0))),
 oP 6 (.move (.c (.int .i64 0)))])
 (.seq (.seq (.region 0 [oQ 12 (.load true 4 (.t 2)),
 oQ 13 (.call 1 98 [(.t 12)]),
 oP 14 (.un .not (.t 13))])
 (.cond (.t 14) (.seq (.region 0 [oP 4 (.move (.c (.nils))),
 oP 5 (.move (.c (.int .i64 0))),
 oP 6 (.move (.c (.int .i64 3)))])
 (.ret))
 (.skip)))
 (.seq (.region 0 [oP 15 (.fieldAddr 2 (.t 2)),
 oQ 16 (.load false 1 (.t 15)),
 oP 17 (.lenS (.t 16)),
 oQ 18 (.makeSlice false 1 8 [.int .i64 0] (.t 17) (.t 17)),
 oQ 7 (.alloc [.nils]),
 oQ 8 (.alloc [.int .i64 0]),
 ⟨none, .store 1 (.t 7) (.t 18), none, none, []⟩,
 ⟨none, .store 1 (.t 8) (.c (.int .i64 9223372036854775807)), none, none, []⟩])
 (.seq (.seq (.region 0 [oQ 19 (.load true 4 (.t 2)),
 oP 20 (.mkFn 99 [(.t 19)] [])])
 (.block 0 (.rangeFunc (.t 20) [21, 22] (.seq (.region 0 [oP 9 (.move (.t 21))])
 (.region 0 [oQ 10 (.alloc [.int .i64 0, .int .i64 0, .int .i64 0, .int .i64 0, .int .i64 0, .int .i64 0, .int .i64 0, .int .i64 0, .int .i64 0, .int .i64 0, .int .i64 0, .int .i64 0, .int .i64 0, .int .i64 0, .int .i64 0, .int .i64 0]),
 ⟨none, .store 16 (.t 10) (.t 22), none, none, []⟩]))
 (.block 1 (.seq (.region 0 [oQ 23 (.load false 1 (.t 3)),
 oQ 24 (.load true 4 (.t 2)),
 oQ 25 (.load true 16 (.t 10)),
 oQ 26 (.callv true (.t 23) [(.t 24), (.t 25)]),
 oP 11 (.move (.t 26))])
 (.seq (.region 0 [oP 27 (.move (.t 11)),
 oQ 28 (.load false 1 (.t 8)),
 oP 29 (.bin .lss (.t 27) (.t 28))])
 (.cond (.t 29) (.seq (.region 0 [oQ 30 (.load false 1 (.t 7)),
 oP 31 (.move (.t 9)),
 oQ 32 (.w (.cpy 1 (.t 30) (.t 31)))])
 (.region 0 [oP 33 (.move (.t 11)),
 ⟨none, .store 1 (.t 8) (.t 33), none, none, []⟩]))
 (.skip))))))))
 (.seq (.region 0 [oQ 34 (.load false 1 (.t 7)),
 oQ 35 (.load false 1 (.t 8)),
 oP 4 (.move (.t 34)),
 oP 5 (.move (.t 35)),
 oP 6 (.move (.c (.int .i64 0)))])
 (.ret)))))⟩
/-- (almadraba/salt.house).salt -/
def f77 : AFn := ⟨19, [.tmp 4],
 .seq (.region 0 [oQ 2 (.box (.t 0)),
 oQ 3 (.box (.t 1)),
 oP 4 (.move (.c (.int .i64 0)))])
 (.seq (.region 0 [oP 5 (.move (.c (.int .i64 0)))])
 (.seq (.seq (.region 0 [oQ 8 (.load true 16 (.t 3)),
 oP 9 (.move (.c (.int .i64 0)))])
 (.block 0 (.loop (.seq (.region 0 [oP 10 (.bin .lss (.t 9) (.c (.int .i64 4)))])
 (.seq (.cond (.t 10) (.skip)
 (.exit 0))
 (.seq (.block 1 (.seq (.region 0 [oP 11 (.idx true 4 4 (.t 8) (.t 9)),
 oQ 7 (.alloc [.int .i64 0, .int .i64 0, .int .i64 0, .int .i64 0]),
 ⟨none, .store 4 (.t 7) (.t 11), none, none, []⟩])
 (.region 0 [oP 12 (.move (.t 5)),
 oQ 13 (.load true 4 (.t 2)),
 oQ 14 (.load true 4 (.t 7)),
 oQ 15 (.call 1 68 [(.t 13), (.t 14)]),
 oP 16 (.bin .add (.t 12) (.t 15)),
 oP 5 (.move (.t 16))])))
 (.region 0 [oP 17 (.bin .add (.t 9) (.c (.int .i64 1))),
 oP 9 (.move (.t 17))])))))))
 (.seq (.region 0 [oP 18 (.move (.t 5)),
 oP 4 (.move (.t 18))])
 (.ret))))⟩
/-- (almadraba/salt.house).used -/
def f79 : AFn := ⟨19, [.tmp 4],
 .seq (.region 0 [oQ 2 (.box (.t 0)),
 oQ 3 (.box (.t 1)),
 oP 4 (.move (.c (.int .i64 0)))])
 (.seq (.region 0 [oP 5 (.move (.c (.int .i64 0)))])
 (.seq (.seq (.region 0 [oQ 8 (.load true 16 (.t 3)),
 oP 9 (.move (.c (.int .i64 0)))])
 (.block 0 (.loop (.seq (.region 0 [oP 10 (.bin .lss (.t 9) (.c (.int .i64 4)))])
 (.seq (.cond (.t 10) (.skip)
 (.exit 0))
 (.seq (.block 1 (.seq (.region 0 [oP 11 (.idx true 4 4 (.t 8) (.t 9)),
 oQ 7 (.alloc [.int .i64 0, .int .i64 0, .int .i64 0, .int .i64 0]),
 ⟨none, .store 4 (.t 7) (.t 11), none, none, []⟩])
 (.seq (.region 0 [oP 12 (.fieldAddr 0 (.t 7)),
 oQ 13 (.load false 1 (.t 12)),
 oP 14 (.bin .gtr (.t 13) (.c (.int .i64 0)))])
 (.cond (.t 14) (.region 0 [oP 15 (.move (.t 5)),
 oP 16 (.bin .add (.t 15) (.c (.int .i64 1))),
 oP 5 (.move (.t 16))])
 (.skip)))))
 (.region 0 [oP 17 (.bin .add (.t 9) (.c (.int .i64 1))),
 oP 9 (.move (.t 17))])))))))
 (.seq (.region 0 [oP 18 (.move (.t 5)),
 oP 4 (.move (.t 18))])
 (.ret))))⟩
/-- (almadraba/salt.house).hasPart -/
def f80 : AFn := ⟨11, [.tmp 4],
 .seq (.region 0 [oQ 2 (.box (.t 0)),
 oP 4 (.move (.c (.bool false)))])
 (.seq (.region 0 [oP 5 (.move (.t 1)),
 oP 6 (.fieldAddr 2 (.t 2)),
 oQ 7 (.load false 1 (.t 6)),
 oP 8 (.lenS (.t 7)),
 oP 9 (.bin .sub (.t 8) (.c (.int .i64 1))),
 oQ 10 (.call 1 83 [(.t 5), (.c (.int .i64 0)), (.t 9)]),
 oP 4 (.move (.t 10))])
 (.ret))⟩
/-- (almadraba/salt.house).barrels -/
def f81 : AFn := ⟨53, [.tmp 4, .tmp 5],
 .seq (.region 0 [oQ 2 (.box (.t 0)),
 oQ 3 (.box (.t 1)),
 oP 4 (.move (.c (.nils))),
 oP 5 (.move (.c (.int .i64 0)))])
 (.seq (.seq (.region 0 [oQ 12 (.load true 4 (.t 2)),
 oQ 13 (.call 1 98 [(.t 12)]),
 oP 14 (.un .not (.t 13))])
 (.cond (.t 14) (.seq (.region 0 [oP 4 (.move (.c (.nils))),
 oP 5 (.move (.c (.int .i64 3)))])
 (.ret))
 (.skip)))
 (.seq (.region 0 [oQ 6 (.alloc [.bool false, .bool false, .bool false, .bool false])])
 (.seq (.seq (.region 0 [oQ 15 (.load true 4 (.t 2)),
 oP 16 (.mkFn 99 [(.t 15)] [])])
 (.block 0 (.rangeFunc (.t 16) [17, 18] (.seq (.region 0 [oP 7 (.move (.t 17))])
 (.region 0 [oQ 8 (.alloc [.int .i64 0, .int .i64 0, .int .i64 0, .int .i64 0, .int .i64 0, .int .i64 0, .int .i64 0, .int .i64 0, .int .i64 0, .int .i64 0, .int .i64 0, .int .i64 0, .int .i64 0, .int .i64 0, .int .i64 0, .int .i64 0]),
 ⟨none, .store 16 (.t 8) (.t 18), none, none, []⟩]))
 (.block 1 (.seq (.region 0 [oP 19 (.fieldAddr 3 (.t 2)),
 oQ 20 (.load false 1 (.t 19)),
 oP 21 (.lenS (.t 20)),
 oP 22 (.move (.c (.int .i64 0)))])
 (.block 2 (.loop (.seq (.region 0 [oP 23 (.bin .lss (.t 22) (.t 21))])
 (.seq (.cond (.t 23) (.skip)
 (.exit 2))
 (.seq (.block 3 (.seq (.region 0 [oP 24 (.move (.t 22)),
 oP 9 (.move (.t 24))])
 (.region 0 [oP 25 (.move (.t 9)),
 oP 26 (.move (.t 9)),
 oP 27 (.idxArr 4 1 (.t 6) (.t 26)),
 oQ 28 (.load false 1 (.t 27)),
 oP 29 (.move (.t 28)),
 ⟨(some 30), .load false 1 (.t 3), (some (29, false)), none, []⟩,
 oG 31 29 false (.move (.t 7)),
 ⟨(some 32), .load true 16 (.t 8), (some (29, false)), none, []⟩,
 oG 33 29 false (.move (.t 9)),
 ⟨(some 34), .callv true (.t 30) [(.t 31), (.t 32), (.t 33)], (some (29, false)), none, []⟩,
 oP 35 (.pick (.t 29) (.c (.bool true)) (.t 34)),
 oP 36 (.idxArr 4 1 (.t 6) (.t 25)),
 ⟨none, .store 1 (.t 36) (.t 35), none, none, []⟩])))
 (.region 0 [oP 37 (.bin .add (.t 22) (.c (.int .i64 1))),
 oP 22 (.move (.t 37))])))))))))))
 (.seq (.region 0 [oP 10 (.move (.c (.nils)))])
 (.seq (.seq (.region 0 [oP 38 (.fieldAddr 3 (.t 2)),
 oQ 39 (.load false 1 (.t 38)),
 oP 40 (.lenS (.t 39)),
 oP 41 (.move (.c (.int .i64 0)))])
 (.block 4 (.loop (.seq (.region 0 [oP 42 (.bin .lss (.t 41) (.t 40))])
 (.seq (.cond (.t 42) (.skip)
 (.exit 4))
 (.seq (.block 5 (.seq (.region 0 [oP 43 (.move (.t 41)),
 oP 11 (.move (.t 43))])
 (.seq (.region 0 [oP 44 (.move (.t 11)),
 oP 45 (.idxArr 4 1 (.t 6) (.t 44)),
 oQ 46 (.load false 1 (.t 45))])
 (.cond (.t 46) (.region 0 [oP 47 (.move (.t 10)),
 oP 48 (.move (.t 11)),
 oQ 49 (.litS 1 1 [.int .i64 0] [(0, (.t 48))]),
 oQ 50 (.append false 1 8 (.t 47) (.t 49)),
 oP 10 (.move (.t 50))])
 (.skip)))))
 (.region 0 [oP 51 (.bin .add (.t 41) (.c (.int .i64 1))),
 oP 41 (.move (.t 51))])))))))
 (.seq (.region 0 [oP 52 (.move (.t 10)),
 oP 4 (.move (.t 52)),
 oP 5 (.move (.c (.int .i64 0)))])
 (.ret)))))))⟩
/-- almadraba/salt.Where$1 -/
def f82 : AFn := ⟨14, [.tmp 7],
 .seq (.region 0 [oQ 5 (.box (.t 1)),
 oP 7 (.move (.c (.bool false)))])
 (.seq (.region 0 [oP 8 (.move (.t 0)),
 oQ 9 (.load false 1 (.t 3)),
 oP 10 (.idxSl 1 (.t 8) (.t 9)),
 oQ 11 (.load false 1 (.t 10)),
 oP 12 (.move (.t 2)),
 oP 13 (.bin .eql (.t 11) (.t 12)),
 oP 7 (.move (.t 13))])
 (.ret))⟩
/-- almadraba/salt.within -/
def f83 : AFn := ⟨15, [.tmp 6],
 .seq (.region 0 [oP 6 (.move (.c (.bool false)))])
 (.seq (.region 0 [oP 7 (.move (.t 1)),
 oP 8 (.move (.t 0)),
 oP 9 (.bin .leq (.t 7) (.t 8)),
 oP 10 (.move (.t 9)),
 oG 11 10 true (.move (.t 0)),
 oG 12 10 true (.move (.t 2)),
 oG 13 10 true (.bin .leq (.t 11) (.t 12)),
 oP 14 (.pick (.t 10) (.t 13) (.c (.bool false))),
 oP 6 (.move (.t 14))])
 (.ret))⟩
/-- (almadraba/salt.house).early -/
def f84 : AFn := ⟨22, [.tmp 4, .tmp 5],
 .seq (.region 0 [oQ 2 (.box (.t 0)),
 oQ 3 (.box (.t 1)),
 oP 4 (.move (.c (.int .i64 0))),
 oP 5 (.move (.c (.int .i64 0)))])
 (.seq (.seq (.region 0 [oQ 9 (.load true 4 (.t 2)),
 oQ 10 (.call 1 98 [(.t 9)]),
 oP 11 (.un .not (.t 10))])
 (.cond (.t 11) (.seq (.region 0 [oP 4 (.move (.c (.int .i64 0))),
 oP 5 (.move (.c (.int .i64 3)))])
 (.ret))
 (.skip)))
 (.seq (.region 0 [oQ 6 (.alloc [.int .i64 0]),
 ⟨none, .store 1 (.t 6) (.c (.int .i64 0)), none, none, []⟩])
 (.seq (.seq (.region 0 [oQ 12 (.load true 4 (.t 2)),
 oP 13 (.mkFn 99 [(.t 12)] [])])
 (.block 0 (.rangeFunc (.t 13) [14, 15] (.region 0 [oQ 8 (.alloc [.int .i64 0, .int .i64 0, .int .i64 0, .int .i64 0, .int .i64 0, .int .i64 0, .int .i64 0, .int .i64 0, .int .i64 0, .int .i64 0, .int .i64 0, .int .i64 0, .int .i64 0, .int .i64 0, .int .i64 0, .int .i64 0]),
 ⟨none, .store 16 (.t 8) (.t 15), none, none, []⟩])
 (.block 1 (.region 0 [oQ 16 (.load false 1 (.t 6)),
 oQ 17 (.load true 16 (.t 8)),
 oQ 18 (.load false 1 (.t 3)),
 oQ 19 (.call 1 100 [(.t 17), (.t 18)]),
 oP 20 (.minmax true (.t 16) [(.t 19)]),
 ⟨none, .store 1 (.t 6) (.t 20), none, none, []⟩])))))
 (.seq (.region 0 [oQ 21 (.load false 1 (.t 6)),
 oP 4 (.move (.t 21)),
 oP 5 (.move (.c (.int .i64 0)))])
 (.ret)))))⟩
/-- almadraba/salt.Spare$1 -/
def f85 : AFn := ⟨12, [.tmp 6],
 .seq (.region 0 [oQ 4 (.box (.t 1)),
 oP 6 (.move (.c (.bool false)))])
 (.seq (.region 0 [oP 7 (.move (.t 2)),
 oP 8 (.idxArr 4 4 (.t 4) (.t 7)),
 oP 9 (.fieldAddr 0 (.t 8)),
 oQ 10 (.load false 1 (.t 9)),
 oP 11 (.bin .eql (.t 10) (.c (.int .i64 0))),
 oP 6 (.move (.t 11))])
 (.ret))⟩
/-- (almadraba/salt.house).stock -/
def f86 : AFn := ⟨31, [.tmp 4],
 .seq (.region 0 [oQ 2 (.box (.t 0)),
 oQ 3 (.box (.t 1)),
 oP 4 (.move (.c (.int .i64 0)))])
 (.seq (.region 0 [oQ 5 (.alloc [.int .i64 0]),
 ⟨none, .store 1 (.t 5) (.c (.int .i64 0)), none, none, []⟩])
 (.seq (.seq (.region 0 [oQ 10 (.load true 4 (.t 2)),
 oP 11 (.mkFn 101 [(.t 10)] [])])
 (.block 0 (.rangeFunc (.t 11) [12] (.region 0 [oQ 6 (.alloc [.nils, .int .i64 0, .nils, .nils]),
 ⟨none, .store 4 (.t 6) (.t 12), none, none, []⟩])
 (.block 1 (.seq (.region 0 [oQ 14 (.load true 4 (.t 6)),
 oQ 15 (.call 1 76 [(.t 14), (.c (.fn 77 [] []))]),
 oP 13 (.move (.t 15)),
 oP 16 (.extract (.t 13) 0),
 oP 17 (.extract (.t 13) 1),
 oP 18 (.extract (.t 13) 2),
 oP 7 (.move (.t 16)),
 oP 8 (.move (.t 17)),
 oP 9 (.move (.t 18))])
 (.seq (.region 0 [oP 19 (.move (.t 9)),
 oP 20 (.bin .eql (.t 19) (.c (.int .i64 0))),
 oP 21 (.move (.t 20)),
 oG 22 21 true (.move (.t 8)),
 ⟨(some 23), .load false 1 (.t 3), (some (21, true)), none, []⟩,
 oG 24 21 true (.bin .leq (.t 22) (.t 23)),
 oP 25 (.pick (.t 21) (.t 24) (.c (.bool false)))])
 (.cond (.t 25) (.region 0 [oQ 26 (.load false 1 (.t 5)),
 oQ 27 (.load true 4 (.t 6)),
 oQ 28 (.call 1 102 [(.t 27)]),
 oP 29 (.minmax true (.t 26) [(.t 28)]),
 ⟨none, .store 1 (.t 5) (.t 29), none, none, []⟩])
 (.skip))))))))
 (.seq (.region 0 [oQ 30 (.load false 1 (.t 5)),
 oP 4 (.move (.t 30))])
 (.ret))))⟩
/-- (almadraba/salt.house).buy -/
def f89 : AFn := ⟨22, [.tmp 2, .tmp 3],
 .seq (.region 0 [oQ 1 (.box (.t 0)),
 oP 2 (.move (.c (.int .i64 0))),
 oP 3 (.move (.c (.int .i64 0)))])
 (.seq (.seq (.region 0 [oQ 7 (.load true 4 (.t 1)),
 oQ 8 (.call 1 98 [(.t 7)])])
 (.cond (.t 8) (.seq (.region 0 [oP 2 (.move (.c (.int .i64 0))),
 oP 3 (.move (.c (.int .i64 0)))])
 (.ret))
 (.skip)))
 (.seq (.seq (.region 0 [oP 9 (.fieldAddr 3 (.t 1)),
 oQ 10 (.load false 1 (.t 9)),
 oP 11 (.lenS (.t 10)),
 oP 12 (.bin .eql (.t 11) (.c (.int .i64 4)))])
 (.cond (.t 12) (.seq (.region 0 [oP 2 (.move (.c (.int .i64 0))),
 oP 3 (.move (.c (.int .i64 2)))])
 (.ret))
 (.skip)))
 (.seq (.region 0 [oQ 14 (.load true 4 (.t 1)),
 oQ 15 (.call 1 103 [(.t 14), (.c (.int .i64 99))]),
 oQ 16 (.call 1 76 [(.t 15), (.c (.fn 104 [] []))]),
 oP 13 (.move (.t 16)),
 oP 17 (.extract (.t 13) 0),
 oP 18 (.extract (.t 13) 1),
 oP 19 (.extract (.t 13) 2),
 oP 4 (.move (.t 17)),
 oP 5 (.move (.t 18)),
 oP 6 (.move (.t 19))])
 (.seq (.region 0 [oP 20 (.move (.t 5)),
 oP 21 (.move (.t 6)),
 oP 2 (.move (.t 20)),
 oP 3 (.move (.t 21))])
 (.ret)))))⟩
/-- almadraba/almadrabaref08.fits -/
def f90 : AFn := ⟨30, [.tmp 4],
 .seq (.region 0 [oQ 2 (.box (.t 0)),
 oP 4 (.move (.c (.bool false)))])
 (.seq (.seq (.region 0 [oP 5 (.move (.c (.int .i64 0)))])
 (.block 0 (.loop (.seq (.seq (.region 0 [oP 7 (.move (.t 5)),
 oP 8 (.fieldAddr 3 (.t 2)),
 oQ 9 (.load false 1 (.t 8)),
 oP 10 (.lenS (.t 9)),
 oP 11 (.bin .lss (.t 7) (.t 10))])
 (.cond (.t 11) (.skip)
 (.exit 0)))
 (.seq (.block 1 (.seq (.region 0 [oP 14 (.move (.t 1)),
 oP 15 (.move (.t 5)),
 oQ 16 (.call 1 56 [(.t 14), (.t 15)]),
 oP 6 (.move (.t 16))])
 (.seq (.region 0 [oQ 17 (.load true 4 (.t 2)),
 oP 18 (.move (.t 6)),
 oQ 19 (.call 1 74 [(.t 17), (.t 18)]),
 oQ 20 (.load true 4 (.t 2)),
 oP 21 (.move (.t 6)),
 oQ 22 (.call 1 71 [(.t 20), (.t 21)]),
 oP 23 (.bin .add (.t 19) (.t 22)),
 oP 24 (.fieldAddr 3 (.t 2)),
 oQ 25 (.load false 1 (.t 24)),
 oP 26 (.move (.t 5)),
 oP 27 (.idxSl 1 (.t 25) (.t 26)),
 oQ 28 (.load false 1 (.t 27)),
 oP 29 (.bin .gtr (.t 23) (.t 28))])
 (.cond (.t 29) (.seq (.region 0 [oP 4 (.move (.c (.bool false)))])
 (.ret))
 (.skip)))))
 (.region 0 [oP 12 (.move (.t 5)),
 oP 13 (.bin .add (.t 12) (.c (.int .i64 1))),
 oP 5 (.move (.t 13))]))))))
 (.seq (.region 0 [oP 4 (.move (.c (.bool true)))])
 (.ret)))⟩
/-- (almadraba/salt.house).valid$1 -/
def f91 : AFn := ⟨11, [.tmp 2],
 .seq (.region 0 [oQ 1 (.box (.t 0)),
 oP 2 (.move (.c (.bool false)))])
 (.seq (.region 0 [oP 3 (.fieldAddr 0 (.t 1)),
 oQ 4 (.load false 1 (.t 3)),
 oQ 5 (.call 1 83 [(.t 4), (.c (.int .i64 0)), (.c (.int .i64 9))]),
 oP 6 (.move (.t 5)),
 oG 7 6 true (.fieldAddr 1 (.t 1)),
 ⟨(some 8), .load false 1 (.t 7), (some (6, true)), none, []⟩,
 ⟨(some 9), .call 1 83 [(.t 8), (.c (.int .i64 0)), (.c (.int .i64 20))], (some (6, true)), none, []⟩,
 oP 10 (.pick (.t 6) (.t 9) (.c (.bool false))),
 oP 2 (.move (.t 10))])
 (.ret))⟩
/-- (almadraba/salt.house).valid$2 -/
def f92 : AFn := ⟨16, [.tmp 3],
 .seq (.region 0 [oQ 2 (.box (.t 0)),
 oP 3 (.move (.c (.bool false)))])
 (.seq (.region 0 [oP 4 (.fieldAddr 0 (.t 2)),
 oQ 5 (.load false 1 (.t 4)),
 oP 6 (.fieldAddr 0 (.t 1)),
 oQ 7 (.load false 1 (.t 6)),
 oP 8 (.lenS (.t 7)),
 oP 9 (.bin .sub (.t 8) (.c (.int .i64 1))),
 oQ 10 (.call 1 83 [(.t 5), (.c (.int .i64 0)), (.t 9)]),
 oP 11 (.move (.t 10)),
 oG 12 11 true (.fieldAddr 1 (.t 2)),
 ⟨(some 13), .load false 1 (.t 12), (some (11, true)), none, []⟩,
 ⟨(some 14), .call 1 83 [(.t 13), (.c (.int .i64 0)), (.c (.int .i64 40))], (some (11, true)), none, []⟩,
 oP 15 (.pick (.t 11) (.t 14) (.c (.bool false))),
 oP 3 (.move (.t 15))])
 (.ret))⟩
/-- (almadraba/salt.house).valid$3 -/
def f93 : AFn := ⟨5, [.tmp 2],
 .seq (.region 0 [oP 2 (.move (.c (.bool false)))])
 (.seq (.region 0 [oP 3 (.move (.t 0)),
 oQ 4 (.call 1 83 [(.t 3), (.c (.int .i64 0)), (.c (.int .i64 99))]),
 oP 2 (.move (.t 4))])
 (.ret))⟩
/-- almadraba/salt.each[almadraba/api.SaltKind] -/
def f94 : AFn := ⟨9, [.tmp 4],
 .seq (.region 0 [oQ 3 (.box (.t 1)),
 oP 4 (.move (.c (.bool false)))])
 (.seq (.region 0 [oP 5 (.move (.t 0)),
 oP 6 (.mkFn 106 [] [(.t 3)]),
 oQ 7 (.call 3 105 [(.t 5), (.t 6)]),
 oP 8 (.un .not (.t 7)),
 oP 4 (.move (.t 8))])
 (.ret))⟩
/-- almadraba/salt.each[almadraba/api.SaltPart] -/
def f95 : AFn := ⟨9, [.tmp 4],
 .seq (.region 0 [oQ 3 (.box (.t 1)),
 oP 4 (.move (.c (.bool false)))])
 (.seq (.region 0 [oP 5 (.move (.t 0)),
 oP 6 (.mkFn 108 [] [(.t 3)]),
 oQ 7 (.call 3 107 [(.t 5), (.t 6)]),
 oP 8 (.un .not (.t 7)),
 oP 4 (.move (.t 8))])
 (.ret))⟩
/-- almadraba/salt.each[int] -/
def f96 : AFn := ⟨9, [.tmp 4],
 .seq (.region 0 [oQ 3 (.box (.t 1)),
 oP 4 (.move (.c (.bool false)))])
 (.seq (.region 0 [oP 5 (.move (.t 0)),
 oP 6 (.mkFn 110 [] [(.t 3)]),
 oQ 7 (.call 3 109 [(.t 5), (.t 6)]),
 oP 8 (.un .not (.t 7)),
 oP 4 (.move (.t 8))])
 (.ret))⟩
/-- (almadraba/salt.house).put -/
def f97 : AFn := ⟨31, [.cell true 16 8, .tmp 9],
 .seq (.region 0 [oQ 4 (.box (.t 0)),
 oQ 5 (.box (.t 1)),
 oQ 8 (.alloc [.int .i64 0, .int .i64 0, .int .i64 0, .int .i64 0, .int .i64 0, .int .i64 0, .int .i64 0, .int .i64 0, .int .i64 0, .int .i64 0, .int .i64 0, .int .i64 0, .int .i64 0, .int .i64 0, .int .i64 0, .int .i64 0]),
 oP 9 (.move (.c (.bool false)))])
 (.seq (.region 0 [oP 10 (.move (.t 3)),
 oQ 11 (.load true 4 (.t 4)),
 oP 12 (.move (.t 3)),
 oP 13 (.idxArr 4 4 (.t 5) (.t 12)),
 oQ 14 (.load true 4 (.t 13)),
 oP 15 (.move (.t 2)),
 oQ 16 (.litS 1 1 [.int .i64 0] [(0, (.t 15))]),
 oQ 17 (.call 1 69 [(.t 11), (.t 14), (.t 16)]),
 oP 18 (.idxArr 4 4 (.t 5) (.t 10)),
 ⟨none, .store 4 (.t 18) (.t 17), none, none, []⟩])
 (.seq (.region 0 [oQ 19 (.load true 16 (.t 5)),
 oQ 20 (.load true 4 (.t 4)),
 oP 21 (.move (.t 3)),
 oP 22 (.idxArr 4 4 (.t 5) (.t 21)),
 oQ 23 (.load true 4 (.t 22)),
 oQ 24 (.call 1 111 [(.t 20), (.t 23)]),
 oP 25 (.fieldAddr 3 (.t 4)),
 oQ 26 (.loadR false 1 (.t 25) 4),
 oP 27 (.move (.t 3)),
 oP 28 (.idxSl 1 (.t 26) (.t 27)),
 oQ 29 (.loadN false 1 (.t 28) [8]),
 oP 30 (.bin .leq (.t 24) (.t 29)),
 ⟨none, .storeR 16 (.t 8) (.t 19) [4], none, none, []⟩,
 oP 9 (.move (.t 30))])
 (.ret)))⟩
/-- (almadraba/salt.house).can -/
def f98 : AFn := ⟨7, [.cell false 1 2],
 .seq (.region 0 [oQ 1 (.box (.t 0)),
 oQ 2 (.alloc [.bool false])])
 (.seq (.seq (.region 0 [oQ 3 (.load true 4 (.t 1)),
 oP 4 (.mkFn 99 [(.t 3)] [])])
 (.block 0 (.rangeFunc (.t 4) [5, 6] (.skip)
 (.block 1 (.seq (.region 0 [⟨none, .store 1 (.t 2) (.c (.bool true)), none, none, []⟩])
 (.ret))))))
 (.seq (.region 0 [⟨none, .store 1 (.t 2) (.c (.bool false)), none, none, []⟩])
 (.ret)))⟩
/-- (almadraba/salt.house).packings -/
def f99 : AFn := ⟨12, [],
 .seq (.region 0 [oQ 2 (.box (.t 0))])
 (.region 1 [⟨(some 4), .load true 4 (.t 2), none, none, [0]⟩,
 oP 5 (.fieldAddr 2 (.t 2)),
 ⟨(some 6), .load false 1 (.t 5), none, none, [0]⟩,
 oP 7 (.lenS (.t 6)),
 ⟨(some 8), .makeSlice true 1 8 [.int .i64 0] (.c (.int .i64 0)) (.t 7), none, (some 0), []⟩,
 oP 9 (.build [.int .i64 0, .int .i64 0, .int .i64 0, .int .i64 0, .int .i64 0, .int .i64 0, .int .i64 0, .int .i64 0, .int .i64 0, .int .i64 0, .int .i64 0, .int .i64 0, .int .i64 0, .int .i64 0, .int .i64 0, .int .i64 0] []),
 oP 10 (.move (.t 1)),
 oQ 11 (.call 0 112 [(.t 4), (.t 8), (.t 9), (.t 10)])])⟩
/-- (almadraba/salt.loads).by -/
def f100 : AFn := ⟨22, [.tmp 4],
 .seq (.region 0 [oQ 2 (.box (.t 0)),
 oP 4 (.move (.c (.int .i64 0)))])
 (.seq (.region 0 [oP 5 (.move (.c (.int .i64 0)))])
 (.seq (.seq (.region 0 [oQ 8 (.load true 16 (.t 2)),
 oP 9 (.move (.c (.int .i64 0)))])
 (.block 0 (.loop (.seq (.region 0 [oP 10 (.bin .lss (.t 9) (.c (.int .i64 4)))])
 (.seq (.cond (.t 10) (.skip)
 (.exit 0))
 (.seq (.block 1 (.seq (.region 0 [oP 11 (.idx true 4 4 (.t 8) (.t 9)),
 oQ 7 (.alloc [.int .i64 0, .int .i64 0, .int .i64 0, .int .i64 0]),
 ⟨none, .store 4 (.t 7) (.t 11), none, none, []⟩])
 (.seq (.region 0 [oP 12 (.fieldAddr 3 (.t 7)),
 oQ 13 (.load false 1 (.t 12)),
 oP 14 (.move (.t 1)),
 oP 15 (.bin .leq (.t 13) (.t 14))])
 (.cond (.t 15) (.region 0 [oP 16 (.move (.t 5)),
 oP 17 (.fieldAddr 1 (.t 7)),
 oQ 18 (.load false 1 (.t 17)),
 oP 19 (.bin .add (.t 16) (.t 18)),
 oP 5 (.move (.t 19))])
 (.skip)))))
 (.region 0 [oP 20 (.bin .add (.t 9) (.c (.int .i64 1))),
 oP 9 (.move (.t 20))])))))))
 (.seq (.region 0 [oP 21 (.move (.t 5)),
 oP 4 (.move (.t 21))])
 (.ret))))⟩
/-- (almadraba/salt.house).chosen -/
def f101 : AFn := ⟨41, [],
 .seq (.region 0 [oQ 2 (.box (.t 0))])
 (.seq (.region 0 [oP 8 (.fieldAddr 2 (.t 2)),
 oQ 9 (.load false 1 (.t 8)),
 oP 4 (.move (.t 9))])
 (.seq (.region 0 [oP 10 (.move (.t 4)),
 oP 11 (.lenS (.t 10)),
 oP 12 (.bin .shl (.c (.int .i64 1)) (.t 11)),
 oP 13 (.move (.c (.int .i64 0)))])
 (.block 0 (.loop (.seq (.region 0 [oP 14 (.bin .lss (.t 13) (.t 12))])
 (.seq (.cond (.t 14) (.skip)
 (.exit 0))
 (.seq (.block 1 (.seq (.region 0 [oP 15 (.move (.t 13)),
 oP 5 (.move (.t 15))])
 (.seq (.region 0 [oP 16 (.fieldAddr 2 (.t 2)),
 ⟨none, .store 1 (.t 16) (.c (.nils)), none, none, []⟩])
 (.seq (.seq (.region 0 [oP 17 (.move (.t 4)),
 oP 18 (.lenS (.t 17)),
 oP 19 (.move (.c (.int .i64 0)))])
 (.block 2 (.loop (.seq (.region 0 [oP 20 (.bin .lss (.t 19) (.t 18))])
 (.seq (.cond (.t 20) (.skip)
 (.exit 2))
 (.seq (.block 3 (.seq (.region 0 [oP 21 (.move (.t 19)),
 oP 22 (.idxSl 2 (.t 17) (.t 19)),
 oQ 23 (.load true 2 (.t 22)),
 oQ 7 (.alloc [.int .i64 0, .int .i64 0]),
 oP 6 (.move (.t 21)),
 ⟨none, .store 2 (.t 7) (.t 23), none, none, []⟩])
 (.seq (.region 0 [oP 24 (.move (.t 5)),
 oP 25 (.move (.t 6)),
 oP 26 (.bin .shr (.t 24) (.t 25)),
 oP 27 (.bin .and (.t 26) (.c (.int .i64 1))),
 oP 28 (.bin .eql (.t 27) (.c (.int .i64 1)))])
 (.cond (.t 28) (.region 0 [oP 29 (.fieldAddr 2 (.t 2)),
 oQ 30 (.load false 1 (.t 29)),
 oQ 31 (.load true 2 (.t 7)),
 oQ 32 (.litS 2 1 [.int .i64 0, .int .i64 0] [(0, (.t 31))]),
 oQ 33 (.append false 2 16 (.t 30) (.t 32)),
 oP 34 (.fieldAddr 2 (.t 2)),
 ⟨none, .store 1 (.t 34) (.t 33), none, none, []⟩])
 (.skip)))))
 (.region 0 [oP 35 (.bin .add (.t 19) (.c (.int .i64 1))),
 oP 19 (.move (.t 35))])))))))
 (.seq (.region 0 [oP 36 (.move (.t 1)),
 oQ 37 (.load true 4 (.t 2)),
 oQ 38 (.callv false (.t 36) [(.t 37)]),
 oP 39 (.un .not (.t 38))])
 (.cond (.t 39) (.ret)
 (.skip)))))))
 (.region 0 [oP 40 (.bin .add (.t 13) (.c (.int .i64 1))),
 oP 13 (.move (.t 40))]))))))))⟩
/-- (almadraba/salt.house).pounds -/
def f102 : AFn := ⟨19, [.tmp 2],
 .seq (.region 0 [oQ 1 (.box (.t 0)),
 oP 2 (.move (.c (.int .i64 0)))])
 (.seq (.region 0 [oP 3 (.move (.c (.int .i64 0)))])
 (.seq (.seq (.region 0 [oP 6 (.fieldAddr 2 (.t 1)),
 oQ 7 (.load false 1 (.t 6)),
 oP 8 (.lenS (.t 7)),
 oP 9 (.move (.c (.int .i64 0)))])
 (.block 0 (.loop (.seq (.region 0 [oP 10 (.bin .lss (.t 9) (.t 8))])
 (.seq (.cond (.t 10) (.skip)
 (.exit 0))
 (.seq (.block 1 (.seq (.region 0 [oP 11 (.idxSl 2 (.t 7) (.t 9)),
 oQ 12 (.load true 2 (.t 11)),
 oQ 5 (.alloc [.int .i64 0, .int .i64 0]),
 ⟨none, .store 2 (.t 5) (.t 12), none, none, []⟩])
 (.region 0 [oP 13 (.move (.t 3)),
 oP 14 (.fieldAddr 1 (.t 5)),
 oQ 15 (.load false 1 (.t 14)),
 oP 16 (.bin .add (.t 13) (.t 15)),
 oP 3 (.move (.t 16))])))
 (.region 0 [oP 17 (.bin .add (.t 9) (.c (.int .i64 1))),
 oP 9 (.move (.t 17))])))))))
 (.seq (.region 0 [oP 18 (.move (.t 3)),
 oP 2 (.move (.t 18))])
 (.ret))))⟩
/-- (almadraba/salt.house).withBarrel -/
def f103 : AFn := ⟨13, [.cell true 4 4],
 .seq (.region 0 [oQ 2 (.box (.t 0)),
 oQ 4 (.alloc [.nils, .int .i64 0, .nils, .nils])])
 (.seq (.region 0 [oP 5 (.fieldAddr 3 (.t 2)),
 oQ 6 (.load false 1 (.t 5)),
 oQ 7 (.call 2 113 [(.t 6)]),
 oP 8 (.move (.t 1)),
 oQ 9 (.litS 1 1 [.int .i64 0] [(0, (.t 8))]),
 oQ 10 (.append false 1 8 (.t 7) (.t 9)),
 oP 11 (.fieldAddr 3 (.t 2)),
 ⟨none, .store 1 (.t 11) (.t 10), none, none, []⟩])
 (.seq (.region 0 [oQ 12 (.load true 4 (.t 2)),
 ⟨none, .store 4 (.t 4) (.t 12), none, none, []⟩])
 (.ret)))⟩
/-- (almadraba/salt.house).last -/
def f104 : AFn := ⟨13, [.tmp 4],
 .seq (.region 0 [oQ 2 (.box (.t 0)),
 oQ 3 (.box (.t 1)),
 oP 4 (.move (.c (.int .i64 0)))])
 (.seq (.region 0 [oQ 5 (.load true 4 (.t 2)),
 oP 6 (.fieldAddr 3 (.t 2)),
 oQ 7 (.load false 1 (.t 6)),
 oP 8 (.lenS (.t 7)),
 oP 9 (.bin .sub (.t 8) (.c (.int .i64 1))),
 oP 10 (.idxArr 4 4 (.t 3) (.t 9)),
 oQ 11 (.load true 4 (.t 10)),
 oQ 12 (.call 1 111 [(.t 5), (.t 11)]),
 oP 4 (.move (.t 12))])
 (.ret))⟩
/-- slices.ContainsFunc[[]almadraba/api.SaltKind,almadraba/api.SaltKind] -/
def f105 : AFn := ⟨9, [.tmp 4],
 .seq (.region 0 [oP 4 (.move (.c (.bool false)))])
 (.seq (.region 0 [oP 5 (.move (.t 0)),
 oP 6 (.move (.t 1)),
 oQ 7 (.call 3 114 [(.t 5), (.t 6)]),
 oP 8 (.bin .geq (.t 7) (.c (.int .i64 0))),
 oP 4 (.move (.t 8))])
 (.ret))⟩
/-- almadraba/salt.each[almadraba/api.SaltKind]$1 -/
def f106 : AFn := ⟨8, [.tmp 3],
 .seq (.region 0 [oQ 2 (.box (.t 0)),
 oP 3 (.move (.c (.bool false)))])
 (.seq (.region 0 [oQ 4 (.load false 1 (.t 1)),
 oQ 5 (.load true 2 (.t 2)),
 oQ 6 (.callv true (.t 4) [(.t 5)]),
 oP 7 (.un .not (.t 6)),
 oP 3 (.move (.t 7))])
 (.ret))⟩
/-- slices.ContainsFunc[[]almadraba/api.SaltPart,almadraba/api.SaltPart] -/
def f107 : AFn := ⟨9, [.tmp 4],
 .seq (.region 0 [oP 4 (.move (.c (.bool false)))])
 (.seq (.region 0 [oP 5 (.move (.t 0)),
 oP 6 (.move (.t 1)),
 oQ 7 (.call 3 115 [(.t 5), (.t 6)]),
 oP 8 (.bin .geq (.t 7) (.c (.int .i64 0))),
 oP 4 (.move (.t 8))])
 (.ret))⟩
/-- almadraba/salt.each[almadraba/api.SaltPart]$1 -/
def f108 : AFn := ⟨8, [.tmp 3],
 .seq (.region 0 [oQ 2 (.box (.t 0)),
 oP 3 (.move (.c (.bool false)))])
 (.seq (.region 0 [oQ 4 (.load false 1 (.t 1)),
 oQ 5 (.load true 2 (.t 2)),
 oQ 6 (.callv true (.t 4) [(.t 5)]),
 oP 7 (.un .not (.t 6)),
 oP 3 (.move (.t 7))])
 (.ret))⟩
/-- slices.ContainsFunc[[]int,int] -/
def f109 : AFn := ⟨9, [.tmp 4],
 .seq (.region 0 [oP 4 (.move (.c (.bool false)))])
 (.seq (.region 0 [oP 5 (.move (.t 0)),
 oP 6 (.move (.t 1)),
 oQ 7 (.call 3 116 [(.t 5), (.t 6)]),
 oP 8 (.bin .geq (.t 7) (.c (.int .i64 0))),
 oP 4 (.move (.t 8))])
 (.ret))⟩
/-- almadraba/salt.each[int]$1 -/
def f110 : AFn := ⟨8, [.tmp 3],
 .seq (.region 0 [oP 3 (.move (.c (.bool false)))])
 (.seq (.region 0 [oQ 4 (.load false 1 (.t 1)),
 oP 5 (.move (.t 0)),
 oQ 6 (.callv true (.t 4) [(.t 5)]),
 oP 7 (.un .not (.t 6)),
 oP 3 (.move (.t 7))])
 (.ret))⟩
/-- (almadraba/salt.house).needs -/
def f111 : AFn := ⟨11, [.tmp 4],
 .seq (.region 0 [oQ 2 (.box (.t 0)),
 oQ 3 (.box (.t 1)),
 oP 4 (.move (.c (.int .i64 0)))])
 (.seq (.region 0 [oP 5 (.fieldAddr 1 (.t 3)),
 oQ 6 (.load false 1 (.t 5)),
 oQ 7 (.load true 4 (.t 2)),
 oQ 8 (.load true 4 (.t 3)),
 oQ 9 (.call 1 68 [(.t 7), (.t 8)]),
 oP 10 (.bin .add (.t 6) (.t 9)),
 oP 4 (.move (.t 10))])
 (.ret))⟩
/-- (almadraba/salt.house).longer -/
def f112 : AFn := ⟨51, [.tmp 8],
 .seq (.region 0 [oQ 4 (.box (.t 0)),
 oQ 6 (.box (.t 2)),
 oP 8 (.move (.c (.bool false)))])
 (.seq (.region 0 [oP 13 (.move (.t 1)),
 oP 14 (.lenS (.t 13)),
 oP 9 (.move (.t 14))])
 (.seq (.seq (.region 0 [oP 15 (.move (.t 9)),
 oP 16 (.fieldAddr 2 (.t 4)),
 oQ 17 (.load false 1 (.t 16)),
 oP 18 (.lenS (.t 17)),
 oP 19 (.bin .eql (.t 15) (.t 18))])
 (.cond (.t 19) (.seq (.region 0 [oP 20 (.move (.t 3)),
 oP 21 (.move (.t 1)),
 oQ 22 (.load true 16 (.t 6)),
 oQ 23 (.callv false (.t 20) [(.t 21), (.t 22)]),
 oP 8 (.move (.t 23))])
 (.ret))
 (.skip)))
 (.seq (.seq (.region 0 [oP 24 (.fieldAddr 3 (.t 4)),
 oQ 25 (.load false 1 (.t 24)),
 oP 26 (.lenS (.t 25)),
 oP 27 (.move (.c (.int .i64 0)))])
 (.block 0 (.loop (.seq (.region 0 [oP 28 (.bin .lss (.t 27) (.t 26))])
 (.seq (.cond (.t 28) (.skip)
 (.exit 0))
 (.seq (.block 1 (.seq (.region 0 [oP 29 (.move (.t 27)),
 oP 10 (.move (.t 29))])
 (.seq (.region 0 [oQ 31 (.load true 4 (.t 4)),
 oQ 32 (.load true 16 (.t 6)),
 oP 33 (.move (.t 9)),
 oP 34 (.move (.t 10)),
 oQ 35 (.call 1 97 [(.t 31), (.t 32), (.t 33), (.t 34)]),
 oP 30 (.move (.t 35)),
 oP 36 (.extract (.t 30) 0),
 oP 37 (.extract (.t 30) 1),
 oQ 11 (.alloc [.int .i64 0, .int .i64 0, .int .i64 0, .int .i64 0, .int .i64 0, .int .i64 0, .int .i64 0, .int .i64 0, .int .i64 0, .int .i64 0, .int .i64 0, .int .i64 0, .int .i64 0, .int .i64 0, .int .i64 0, .int .i64 0]),
 ⟨none, .store 16 (.t 11) (.t 36), none, none, []⟩,
 oP 12 (.move (.t 37))])
 (.seq (.region 0 [oP 38 (.move (.t 12)),
 oP 39 (.move (.t 38)),
 ⟨(some 40), .loadN true 4 (.t 4) [1], (some (39, true)), none, []⟩,
 oG 41 39 true (.move (.t 1)),
 oG 42 39 true (.move (.t 10)),
 ⟨(some 43), .litS 1 1 [.int .i64 0] [(0, (.t 42))], (some (39, true)), none, []⟩,
 ⟨(some 44), .w (.app 1 (.t 41) (.t 43) (some 1)), (some (39, true)), none, []⟩,
 ⟨(some 45), .loadN true 16 (.t 11) [1], (some (39, true)), none, []⟩,
 oG 46 39 true (.move (.t 3)),
 ⟨(some 47), .call 0 112 [(.t 40), (.t 44), (.t 45), (.t 46)], (some (39, true)), none, []⟩,
 oG 48 39 true (.un .not (.t 47)),
 oP 49 (.pick (.t 39) (.t 48) (.c (.bool false)))])
 (.cond (.t 49) (.seq (.region 0 [oP 8 (.move (.c (.bool false)))])
 (.ret))
 (.skip))))))
 (.region 0 [oP 50 (.bin .add (.t 27) (.c (.int .i64 1))),
 oP 27 (.move (.t 50))])))))))
 (.seq (.region 0 [oP 8 (.move (.c (.bool true)))])
 (.ret)))))⟩
/-- slices.Clone[[]int,int] -/
def f113 : AFn := ⟨8, [.tmp 2],
 .seq (.region 0 [oP 2 (.move (.c (.nils)))])
 (.seq (.seq (.region 0 [oP 3 (.move (.t 0)),
 oP 4 (.isNil (.t 3) (.c (.nils)))])
 (.cond (.t 4) (.seq (.region 0 [oP 2 (.move (.c (.nils)))])
 (.ret))
 (.skip)))
 (.seq (.region 0 [oQ 5 (.buildSlice 1 0 [.int .i64 0] []),
 oP 6 (.move (.t 0)),
 oQ 7 (.append false 1 8 (.t 5) (.t 6)),
 oP 2 (.move (.t 7))])
 (.ret)))⟩
/-- slices.IndexFunc[[]almadraba/api.SaltKind,almadraba/api.SaltKind] -/
def f114 : AFn := ⟨19, [.tmp 4],
 .seq (.region 0 [oP 4 (.move (.c (.int .i64 0)))])
 (.seq (.seq (.region 0 [oP 6 (.move (.t 0)),
 oP 7 (.lenS (.t 6)),
 oP 8 (.move (.c (.int .i64 0)))])
 (.block 0 (.loop (.seq (.region 0 [oP 9 (.bin .lss (.t 8) (.t 7))])
 (.seq (.cond (.t 9) (.skip)
 (.exit 0))
 (.seq (.block 1 (.seq (.region 0 [oP 10 (.move (.t 8)),
 oP 5 (.move (.t 10))])
 (.seq (.region 0 [oP 11 (.move (.t 1)),
 oP 12 (.move (.t 0)),
 oP 13 (.move (.t 5)),
 oP 14 (.idxSl 2 (.t 12) (.t 13)),
 oQ 15 (.load true 2 (.t 14)),
 oQ 16 (.callv true (.t 11) [(.t 15)])])
 (.cond (.t 16) (.seq (.region 0 [oP 17 (.move (.t 5)),
 oP 4 (.move (.t 17))])
 (.ret))
 (.skip)))))
 (.region 0 [oP 18 (.bin .add (.t 8) (.c (.int .i64 1))),
 oP 8 (.move (.t 18))])))))))
 (.seq (.region 0 [oP 4 (.move (.c (.int .i64 (-1))))])
 (.ret)))⟩
/-- slices.IndexFunc[[]almadraba/api.SaltPart,almadraba/api.SaltPart] -/
def f115 : AFn := ⟨19, [.tmp 4],
 .seq (.region 0 [oP 4 (.move (.c (.int .i64 0)))])
 (.seq (.seq (.region 0 [oP 6 (.move (.t 0)),
 oP 7 (.lenS (.t 6)),
 oP 8 (.move (.c (.int .i64 0)))])
 (.block 0 (.loop (.seq (.region 0 [oP 9 (.bin .lss (.t 8) (.t 7))])
 (.seq (.cond (.t 9) (.skip)
 (.exit 0))
 (.seq (.block 1 (.seq (.region 0 [oP 10 (.move (.t 8)),
 oP 5 (.move (.t 10))])
 (.seq (.region 0 [oP 11 (.move (.t 1)),
 oP 12 (.move (.t 0)),
 oP 13 (.move (.t 5)),
 oP 14 (.idxSl 2 (.t 12) (.t 13)),
 oQ 15 (.load true 2 (.t 14)),
 oQ 16 (.callv true (.t 11) [(.t 15)])])
 (.cond (.t 16) (.seq (.region 0 [oP 17 (.move (.t 5)),
 oP 4 (.move (.t 17))])
 (.ret))
 (.skip)))))
 (.region 0 [oP 18 (.bin .add (.t 8) (.c (.int .i64 1))),
 oP 8 (.move (.t 18))])))))))
 (.seq (.region 0 [oP 4 (.move (.c (.int .i64 (-1))))])
 (.ret)))⟩
/-- slices.IndexFunc[[]int,int] -/
def f116 : AFn := ⟨19, [.tmp 4],
 .seq (.region 0 [oP 4 (.move (.c (.int .i64 0)))])
 (.seq (.seq (.region 0 [oP 6 (.move (.t 0)),
 oP 7 (.lenS (.t 6)),
 oP 8 (.move (.c (.int .i64 0)))])
 (.block 0 (.loop (.seq (.region 0 [oP 9 (.bin .lss (.t 8) (.t 7))])
 (.seq (.cond (.t 9) (.skip)
 (.exit 0))
 (.seq (.block 1 (.seq (.region 0 [oP 10 (.move (.t 8)),
 oP 5 (.move (.t 10))])
 (.seq (.region 0 [oP 11 (.move (.t 1)),
 oP 12 (.move (.t 0)),
 oP 13 (.move (.t 5)),
 oP 14 (.idxSl 1 (.t 12) (.t 13)),
 oQ 15 (.load false 1 (.t 14)),
 oQ 16 (.callv true (.t 11) [(.t 15)])])
 (.cond (.t 16) (.seq (.region 0 [oP 17 (.move (.t 5)),
 oP 4 (.move (.t 17))])
 (.ret))
 (.skip)))))
 (.region 0 [oP 18 (.bin .add (.t 8) (.c (.int .i64 1))),
 oP 8 (.move (.t 18))])))))))
 (.seq (.region 0 [oP 4 (.move (.c (.int .i64 (-1))))])
 (.ret)))⟩
end Go.Proofs.Ytcdedbpmjhjehaa.T
