/-
The code of functions of the seat, as the abstract machine has it (printed by a tool of ours off the dump).
-/
import Derived.Test.YtekoplcnlhanbaaTabA
namespace Go.Proofs.Ytekoplcnlhanbaa.T
open Go Go.Am
/-- almadraba/mesh.Rule -/
def f37 : AFn := ⟨13, [.tmp 2, .tmp 3],
 .seq (.region 0 [oQ 1 (.box (.t 0)),
 oP 2 (.move (.c (.nils))),
 oP 3 (.move (.c (.int .i64 0)))])
 (.seq (.seq (.region 0 [oQ 5 (.load true 3 (.t 1)),
 oQ 6 (.call 1 18 [(.t 5)]),
 oP 4 (.move (.t 6))])
 (.seq (.region 0 [oP 7 (.move (.t 4)),
 oP 8 (.bin .neq (.t 7) (.c (.int .i64 0)))])
 (.cond (.t 8) (.seq (.region 0 [oP 9 (.move (.t 4)),
 oP 2 (.move (.c (.nils))),
 oP 3 (.move (.t 9))])
 (.ret))
 (.skip))))
 (.seq (.region 0 [oQ 10 (.load true 3 (.t 1)),
 oP 11 (.build [.int .i64 0, .nils, .nils] [(0, 3, (.t 10))]),
 oQ 12 (.call 1 78 [(.t 11)]),
 oP 2 (.move (.t 12)),
 oP 3 (.move (.c (.int .i64 0)))])
 (.ret)))⟩
/-- almadraba/almadrabaref04.Rule -/
def f38 : AFn := ⟨70, [.tmp 2, .tmp 3],
 .seq (.region 0 [oQ 1 (.box (.t 0)),
 oP 2 (.move (.c (.nils))),
 oP 3 (.move (.c (.int .i64 0)))])
 (.seq (.seq (.region 0 [oQ 8 (.load true 3 (.t 1)),
 oQ 9 (.call 1 19 [(.t 8)]),
 oP 4 (.move (.t 9))])
 (.seq (.region 0 [oP 10 (.move (.t 4)),
 oP 11 (.bin .neq (.t 10) (.c (.int .i64 0)))])
 (.cond (.t 11) (.seq (.region 0 [oP 12 (.move (.t 4)),
 oP 2 (.move (.c (.nils))),
 oP 3 (.move (.t 12))])
 (.ret))
 (.skip))))
 (.seq (.region 0 [oP 5 (.move (.c (.nils)))])
 (.seq (.block 0 (.loop (.seq (.seq (.region 0 [oP 13 (.move (.t 5)),
 oP 14 (.lenS (.t 13)),
 oP 15 (.fieldAddr 1 (.t 1)),
 oQ 16 (.load false 1 (.t 15)),
 oP 17 (.lenS (.t 16)),
 oP 18 (.bin .lss (.t 14) (.t 17))])
 (.cond (.t 18) (.skip)
 (.exit 0)))
 (.block 1 (.seq (.region 0 [oP 6 (.move (.c (.int .i64 (-1))))])
 (.seq (.seq (.region 0 [oP 7 (.move (.c (.int .i64 0)))])
 (.block 2 (.loop (.seq (.seq (.region 0 [oP 19 (.move (.t 7)),
 oP 20 (.fieldAddr 1 (.t 1)),
 oQ 21 (.load false 1 (.t 20)),
 oP 22 (.lenS (.t 21)),
 oP 23 (.bin .lss (.t 19) (.t 22))])
 (.cond (.t 23) (.skip)
 (.exit 2)))
 (.seq (.block 3 (.seq (.seq (.region 0 [oQ 26 (.load true 3 (.t 1)),
 oP 27 (.move (.t 5)),
 oP 28 (.move (.t 7)),
 oQ 29 (.call 1 79 [(.t 26), (.t 27), (.t 28)]),
 oP 30 (.un .not (.t 29))])
 (.cond (.t 30) (.exit 3)
 (.skip)))
 (.seq (.region 0 [oP 31 (.move (.t 6)),
 oP 32 (.bin .lss (.t 31) (.c (.int .i64 0))),
 oP 33 (.move (.t 32)),
 oG 34 33 false (.fieldAddr 1 (.t 1)),
 ⟨(some 35), .load false 1 (.t 34), (some (33, false)), none, []⟩,
 oG 36 33 false (.move (.t 7)),
 oG 37 33 false (.idxSl 4 (.t 35) (.t 36)),
 oG 38 33 false (.fieldAddr 1 (.t 37)),
 oG 39 33 false (.fieldAddr 1 (.t 38)),
 ⟨(some 40), .load false 1 (.t 39), (some (33, false)), none, []⟩,
 oG 41 33 false (.fieldAddr 1 (.t 1)),
 ⟨(some 42), .load false 1 (.t 41), (some (33, false)), none, []⟩,
 oG 43 33 false (.move (.t 6)),
 oG 44 33 false (.idxSl 4 (.t 42) (.t 43)),
 oG 45 33 false (.fieldAddr 3 (.t 44)),
 ⟨(some 46), .load false 1 (.t 45), (some (33, false)), none, []⟩,
 oG 47 33 false (.bin .mul (.t 40) (.t 46)),
 oG 48 33 false (.fieldAddr 1 (.t 1)),
 ⟨(some 49), .load false 1 (.t 48), (some (33, false)), none, []⟩,
 oG 50 33 false (.move (.t 6)),
 oG 51 33 false (.idxSl 4 (.t 49) (.t 50)),
 oG 52 33 false (.fieldAddr 1 (.t 51)),
 oG 53 33 false (.fieldAddr 1 (.t 52)),
 ⟨(some 54), .load false 1 (.t 53), (some (33, false)), none, []⟩,
 oG 55 33 false (.fieldAddr 1 (.t 1)),
 ⟨(some 56), .load false 1 (.t 55), (some (33, false)), none, []⟩,
 oG 57 33 false (.move (.t 7)),
 oG 58 33 false (.idxSl 4 (.t 56) (.t 57)),
 oG 59 33 false (.fieldAddr 3 (.t 58)),
 ⟨(some 60), .load false 1 (.t 59), (some (33, false)), none, []⟩,
 oG 61 33 false (.bin .mul (.t 54) (.t 60)),
 oG 62 33 false (.bin .gtr (.t 47) (.t 61)),
 oP 63 (.pick (.t 33) (.c (.bool true)) (.t 62))])
 (.cond (.t 63) (.region 0 [oP 64 (.move (.t 7)),
 oP 6 (.move (.t 64))])
 (.skip)))))
 (.region 0 [oP 24 (.move (.t 7)),
 oP 25 (.bin .add (.t 24) (.c (.int .i64 1))),
 oP 7 (.move (.t 25))]))))))
 (.region 0 [oP 65 (.move (.t 5)),
 oP 66 (.move (.t 6)),
 oQ 67 (.litS 1 1 [.int .i64 0] [(0, (.t 66))]),
 oQ 68 (.append false 1 8 (.t 65) (.t 67)),
 oP 5 (.move (.t 68))])))))))
 (.seq (.region 0 [oP 69 (.move (.t 5)),
 oP 2 (.move (.t 69)),
 oP 3 (.move (.c (.int .i64 0)))])
 (.ret)))))⟩
/-- almadraba/mesh.Over -/
def f39 : AFn := ⟨23, [.tmp 2, .tmp 3],
 .seq (.region 0 [oQ 1 (.box (.t 0)),
 oP 2 (.move (.c (.int .i64 0))),
 oP 3 (.move (.c (.int .i64 0)))])
 (.seq (.seq (.region 0 [oQ 6 (.load true 3 (.t 1)),
 oQ 7 (.call 1 18 [(.t 6)]),
 oP 4 (.move (.t 7))])
 (.seq (.region 0 [oP 8 (.move (.t 4)),
 oP 9 (.bin .neq (.t 8) (.c (.int .i64 0)))])
 (.cond (.t 9) (.seq (.region 0 [oP 10 (.move (.t 4)),
 oP 2 (.move (.c (.int .i64 0))),
 oP 3 (.move (.t 10))])
 (.ret))
 (.skip))))
 (.seq (.region 0 [oQ 11 (.load true 3 (.t 1)),
 oP 12 (.build [.int .i64 0, .nils, .nils] [(0, 3, (.t 11))]),
 oQ 5 (.alloc [.int .i64 0, .nils, .nils]),
 ⟨none, .store 3 (.t 5) (.t 12), none, none, []⟩])
 (.seq (.region 0 [oQ 13 (.load true 3 (.t 5)),
 oQ 14 (.load true 3 (.t 5)),
 oQ 15 (.call 1 78 [(.t 14)]),
 oQ 16 (.call 1 71 [(.t 13), (.t 15)]),
 oQ 17 (.load true 3 (.t 5)),
 oQ 18 (.load true 3 (.t 5)),
 oP 19 (.mkFn 71 [(.t 18)] []),
 oQ 20 (.call 1 70 [(.t 17), (.t 19)]),
 oP 21 (.field false 0 1 (.t 20)),
 oP 22 (.bin .sub (.t 16) (.t 21)),
 oP 2 (.move (.t 22)),
 oP 3 (.move (.c (.int .i64 0)))])
 (.ret))))⟩
/-- almadraba/almadrabaref04.Over -/
def f40 : AFn := ⟨20, [.tmp 2, .tmp 3],
 .seq (.region 0 [oQ 1 (.box (.t 0)),
 oP 2 (.move (.c (.int .i64 0))),
 oP 3 (.move (.c (.int .i64 0)))])
 (.seq (.region 0 [oQ 7 (.load true 3 (.t 1)),
 oQ 8 (.call 1 38 [(.t 7)]),
 oP 6 (.move (.t 8)),
 oP 9 (.extract (.t 6) 0),
 oP 10 (.extract (.t 6) 1),
 oP 4 (.move (.t 9)),
 oP 5 (.move (.t 10))])
 (.seq (.seq (.region 0 [oP 11 (.move (.t 5)),
 oP 12 (.bin .neq (.t 11) (.c (.int .i64 0)))])
 (.cond (.t 12) (.seq (.region 0 [oP 13 (.move (.t 5)),
 oP 2 (.move (.c (.int .i64 0))),
 oP 3 (.move (.t 13))])
 (.ret))
 (.skip)))
 (.seq (.region 0 [oQ 14 (.load true 3 (.t 1)),
 oP 15 (.move (.t 4)),
 oQ 16 (.call 1 52 [(.t 14), (.t 15)]),
 oQ 17 (.load true 3 (.t 1)),
 oQ 18 (.call 1 72 [(.t 17)]),
 oP 19 (.bin .sub (.t 16) (.t 18)),
 oP 2 (.move (.t 19)),
 oP 3 (.move (.c (.int .i64 0)))])
 (.ret))))⟩
/-- almadraba/mesh.Regret -/
def f41 : AFn := ⟨18, [.tmp 4, .tmp 5],
 .seq (.region 0 [oQ 2 (.box (.t 0)),
 oP 4 (.move (.c (.int .i64 0))),
 oP 5 (.move (.c (.int .i64 0)))])
 (.seq (.seq (.region 0 [oQ 7 (.load true 3 (.t 2)),
 oP 8 (.move (.t 1)),
 oQ 9 (.call 1 63 [(.t 7), (.t 8)]),
 oP 6 (.move (.t 9))])
 (.seq (.region 0 [oP 10 (.move (.t 6)),
 oP 11 (.bin .neq (.t 10) (.c (.int .i64 0)))])
 (.cond (.t 11) (.seq (.region 0 [oP 12 (.move (.t 6)),
 oP 4 (.move (.c (.int .i64 0))),
 oP 5 (.move (.t 12))])
 (.ret))
 (.skip))))
 (.seq (.region 0 [oQ 13 (.load true 3 (.t 2)),
 oP 14 (.build [.int .i64 0, .nils, .nils] [(0, 3, (.t 13))]),
 oQ 15 (.call 1 80 [(.t 14)]),
 oP 16 (.move (.t 1)),
 oQ 17 (.call 1 81 [(.t 15), (.t 16)]),
 oP 4 (.move (.t 17)),
 oP 5 (.move (.c (.int .i64 0)))])
 (.ret)))⟩
/-- almadraba/almadrabaref04.Regret -/
def f42 : AFn := ⟨16, [.tmp 4, .tmp 5],
 .seq (.region 0 [oQ 2 (.box (.t 0)),
 oP 4 (.move (.c (.int .i64 0))),
 oP 5 (.move (.c (.int .i64 0)))])
 (.seq (.seq (.region 0 [oQ 7 (.load true 3 (.t 2)),
 oP 8 (.move (.t 1)),
 oQ 9 (.call 1 65 [(.t 7), (.t 8)]),
 oP 6 (.move (.t 9))])
 (.seq (.region 0 [oP 10 (.move (.t 6)),
 oP 11 (.bin .neq (.t 10) (.c (.int .i64 0)))])
 (.cond (.t 11) (.seq (.region 0 [oP 12 (.move (.t 6)),
 oP 4 (.move (.c (.int .i64 0))),
 oP 5 (.move (.t 12))])
 (.ret))
 (.skip))))
 (.seq (.region 0 [oQ 13 (.load true 3 (.t 2)),
 oP 14 (.move (.t 1)),
 oQ 15 (.call 1 82 [(.t 13), (.t 14)]),
 oP 4 (.move (.t 15)),
 oP 5 (.move (.c (.int .i64 0)))])
 (.ret)))⟩
/-- almadraba/mesh.Calm -/
def f43 : AFn := ⟨20, [.tmp 2, .tmp 3],
 .seq (.region 0 [oQ 1 (.box (.t 0)),
 oP 2 (.move (.c (.nils))),
 oP 3 (.move (.c (.int .i64 0)))])
 (.seq (.seq (.region 0 [oQ 6 (.load true 3 (.t 1)),
 oQ 7 (.call 1 18 [(.t 6)]),
 oP 4 (.move (.t 7))])
 (.seq (.region 0 [oP 8 (.move (.t 4)),
 oP 9 (.bin .neq (.t 8) (.c (.int .i64 0)))])
 (.cond (.t 9) (.seq (.region 0 [oP 10 (.move (.t 4)),
 oP 2 (.move (.c (.nils))),
 oP 3 (.move (.t 10))])
 (.ret))
 (.skip))))
 (.seq (.region 0 [oQ 11 (.load true 3 (.t 1)),
 oP 12 (.build [.int .i64 0, .nils, .nils] [(0, 3, (.t 11))]),
 oQ 13 (.call 1 80 [(.t 12)]),
 oQ 5 (.alloc [.int .i64 0, .nils, .nils, .nils]),
 ⟨none, .store 4 (.t 5) (.t 13), none, none, []⟩])
 (.seq (.region 0 [oP 14 (.fieldAddr 0 (.t 5)),
 oQ 15 (.load true 3 (.t 14)),
 oQ 16 (.load true 4 (.t 5)),
 oP 17 (.mkFn 81 [(.t 16)] []),
 oQ 18 (.call 1 70 [(.t 15), (.t 17)]),
 oP 19 (.field false 1 1 (.t 18)),
 oP 2 (.move (.t 19)),
 oP 3 (.move (.c (.int .i64 0)))])
 (.ret))))⟩
/-- almadraba/almadrabaref04.Calm -/
def f44 : AFn := ⟨43, [.tmp 2, .tmp 3],
 .seq (.region 0 [oQ 1 (.box (.t 0)),
 oP 2 (.move (.c (.nils))),
 oP 3 (.move (.c (.int .i64 0)))])
 (.seq (.seq (.region 0 [oQ 10 (.load true 3 (.t 1)),
 oQ 11 (.call 1 19 [(.t 10)]),
 oP 4 (.move (.t 11))])
 (.seq (.region 0 [oP 12 (.move (.t 4)),
 oP 13 (.bin .neq (.t 12) (.c (.int .i64 0)))])
 (.cond (.t 13) (.seq (.region 0 [oP 14 (.move (.t 4)),
 oP 2 (.move (.c (.nils))),
 oP 3 (.move (.t 14))])
 (.ret))
 (.skip))))
 (.seq (.region 0 [oQ 15 (.load true 3 (.t 1)),
 oQ 16 (.call 1 61 [(.t 15), (.c (.nils))]),
 oP 5 (.move (.t 16))])
 (.seq (.region 0 [oQ 17 (.load true 3 (.t 1)),
 oP 18 (.move (.t 5)),
 oP 19 (.idxSl 1 (.t 18) (.c (.int .i64 0))),
 oQ 20 (.load false 1 (.t 19)),
 oQ 21 (.call 1 82 [(.t 17), (.t 20)]),
 oP 6 (.move (.c (.int .i64 0))),
 oP 7 (.move (.t 21))])
 (.seq (.seq (.region 0 [oP 8 (.move (.c (.int .i64 0)))])
 (.block 0 (.loop (.seq (.seq (.region 0 [oP 22 (.move (.t 8)),
 oP 23 (.move (.t 5)),
 oP 24 (.lenS (.t 23)),
 oP 25 (.bin .lss (.t 22) (.t 24))])
 (.cond (.t 25) (.skip)
 (.exit 0)))
 (.seq (.block 1 (.seq (.region 0 [oQ 28 (.load true 3 (.t 1)),
 oP 29 (.move (.t 5)),
 oP 30 (.move (.t 8)),
 oP 31 (.idxSl 1 (.t 29) (.t 30)),
 oQ 32 (.load false 1 (.t 31)),
 oQ 33 (.call 1 82 [(.t 28), (.t 32)]),
 oP 9 (.move (.t 33))])
 (.seq (.region 0 [oP 34 (.move (.t 9)),
 oP 35 (.move (.t 7)),
 oP 36 (.bin .lss (.t 34) (.t 35))])
 (.cond (.t 36) (.region 0 [oP 37 (.move (.t 8)),
 oP 38 (.move (.t 9)),
 oP 6 (.move (.t 37)),
 oP 7 (.move (.t 38))])
 (.skip)))))
 (.region 0 [oP 26 (.move (.t 8)),
 oP 27 (.bin .add (.t 26) (.c (.int .i64 1))),
 oP 8 (.move (.t 27))]))))))
 (.seq (.region 0 [oP 39 (.move (.t 5)),
 oP 40 (.move (.t 6)),
 oP 41 (.idxSl 1 (.t 39) (.t 40)),
 oQ 42 (.load false 1 (.t 41)),
 oP 2 (.move (.t 42)),
 oP 3 (.move (.c (.int .i64 0)))])
 (.ret))))))⟩
/-- almadraba/mesh.More -/
def f45 : AFn := ⟨36, [.tmp 2, .tmp 3],
 .seq (.region 0 [oQ 1 (.box (.t 0)),
 oP 2 (.move (.c (.int .i64 0))),
 oP 3 (.move (.c (.int .i64 0)))])
 (.seq (.seq (.region 0 [oQ 7 (.load true 3 (.t 1)),
 oQ 8 (.call 1 18 [(.t 7)]),
 oP 4 (.move (.t 8))])
 (.seq (.region 0 [oP 9 (.move (.t 4)),
 oP 10 (.bin .neq (.t 9) (.c (.int .i64 0)))])
 (.cond (.t 10) (.seq (.region 0 [oP 11 (.move (.t 4)),
 oP 2 (.move (.c (.int .i64 0))),
 oP 3 (.move (.t 11))])
 (.ret))
 (.skip))))
 (.seq (.seq (.region 0 [oP 12 (.fieldAddr 0 (.t 1)),
 oQ 13 (.load false 1 (.t 12)),
 oP 14 (.bin .eql (.t 13) (.c (.int .i64 3)))])
 (.cond (.t 14) (.seq (.region 0 [oP 2 (.move (.c (.int .i64 0))),
 oP 3 (.move (.c (.int .i64 2)))])
 (.ret))
 (.skip)))
 (.seq (.region 2 [⟨(some 15), .load true 3 (.t 1), none, none, [0, 1]⟩,
 oP 16 (.build [.int .i64 0, .nils, .nils] [(0, 3, (.t 15))]),
 ⟨(some 17), .load true 3 (.t 1), none, none, [0, 1]⟩,
 oP 18 (.build [.int .i64 0, .nils, .nils] [(0, 3, (.t 17))]),
 ⟨(some 5), .alloc [.int .i64 0, .nils, .nils], none, (some 0), []⟩,
 ⟨(some 6), .alloc [.int .i64 0, .nils, .nils], none, (some 1), []⟩,
 ⟨none, .store 3 (.t 5) (.t 16), none, (some 0), []⟩,
 ⟨none, .store 3 (.t 6) (.t 18), none, (some 1), []⟩])
 (.seq (.region 0 [oP 19 (.fieldAddr 0 (.t 6)),
 oP 20 (.fieldAddr 0 (.t 19)),
 oQ 21 (.load false 1 (.t 20)),
 oP 22 (.bin .add (.t 21) (.c (.int .i64 1))),
 oP 23 (.fieldAddr 0 (.t 6)),
 oP 24 (.fieldAddr 0 (.t 23)),
 ⟨none, .store 1 (.t 24) (.t 22), none, none, []⟩])
 (.seq (.region 0 [oQ 25 (.load true 3 (.t 5)),
 oQ 26 (.load true 3 (.t 5)),
 oP 27 (.mkFn 71 [(.t 26)] []),
 oQ 28 (.call 1 70 [(.t 25), (.t 27)]),
 oP 29 (.field false 0 1 (.t 28)),
 oQ 30 (.load true 3 (.t 6)),
 oQ 31 (.load true 3 (.t 6)),
 oP 32 (.mkFn 71 [(.t 31)] []),
 oQ 33 (.call 1 70 [(.t 30), (.t 32)]),
 oP 34 (.field false 0 1 (.t 33)),
 oP 35 (.bin .sub (.t 29) (.t 34)),
 oP 2 (.move (.t 35)),
 oP 3 (.move (.c (.int .i64 0)))])
 (.ret))))))⟩
/-- almadraba/almadrabaref04.More -/
def f46 : AFn := ⟨25, [.tmp 2, .tmp 3],
 .seq (.region 0 [oQ 1 (.box (.t 0)),
 oP 2 (.move (.c (.int .i64 0))),
 oP 3 (.move (.c (.int .i64 0)))])
 (.seq (.seq (.region 0 [oQ 6 (.load true 3 (.t 1)),
 oQ 7 (.call 1 19 [(.t 6)]),
 oP 4 (.move (.t 7))])
 (.seq (.region 0 [oP 8 (.move (.t 4)),
 oP 9 (.bin .neq (.t 8) (.c (.int .i64 0)))])
 (.cond (.t 9) (.seq (.region 0 [oP 10 (.move (.t 4)),
 oP 2 (.move (.c (.int .i64 0))),
 oP 3 (.move (.t 10))])
 (.ret))
 (.skip))))
 (.seq (.seq (.region 0 [oP 11 (.fieldAddr 0 (.t 1)),
 oQ 12 (.load false 1 (.t 11)),
 oP 13 (.bin .eql (.t 12) (.c (.int .i64 3)))])
 (.cond (.t 13) (.seq (.region 0 [oP 2 (.move (.c (.int .i64 0))),
 oP 3 (.move (.c (.int .i64 2)))])
 (.ret))
 (.skip)))
 (.seq (.region 0 [oQ 14 (.load true 3 (.t 1)),
 oQ 15 (.call 1 16 [(.t 14)]),
 oQ 5 (.alloc [.int .i64 0, .nils, .nils]),
 ⟨none, .store 3 (.t 5) (.t 15), none, none, []⟩])
 (.seq (.region 0 [oP 16 (.fieldAddr 0 (.t 5)),
 oQ 17 (.load false 1 (.t 16)),
 oP 18 (.bin .add (.t 17) (.c (.int .i64 1))),
 oP 19 (.fieldAddr 0 (.t 5)),
 ⟨none, .store 1 (.t 19) (.t 18), none, none, []⟩])
 (.seq (.region 0 [oQ 20 (.load true 3 (.t 1)),
 oQ 21 (.call 1 72 [(.t 20)]),
 oQ 22 (.load true 3 (.t 5)),
 oQ 23 (.call 1 72 [(.t 22)]),
 oP 24 (.bin .sub (.t 21) (.t 23)),
 oP 2 (.move (.t 24)),
 oP 3 (.move (.c (.int .i64 0)))])
 (.ret))))))⟩
/-- almadraba/mesh.Rope -/
def f47 : AFn := ⟨37, [.tmp 2, .tmp 3],
 .seq (.region 0 [oQ 1 (.box (.t 0)),
 oP 2 (.move (.c (.int .i64 0))),
 oP 3 (.move (.c (.int .i64 0)))])
 (.seq (.seq (.region 0 [oQ 8 (.load true 3 (.t 1)),
 oQ 9 (.call 1 18 [(.t 8)]),
 oP 4 (.move (.t 9))])
 (.seq (.region 0 [oP 10 (.move (.t 4)),
 oP 11 (.bin .neq (.t 10) (.c (.int .i64 0)))])
 (.cond (.t 11) (.seq (.region 0 [oP 12 (.move (.t 4)),
 oP 2 (.move (.c (.int .i64 0))),
 oP 3 (.move (.t 12))])
 (.ret))
 (.skip))))
 (.seq (.seq (.region 0 [oP 13 (.fieldAddr 2 (.t 1)),
 oQ 14 (.load false 1 (.t 13)),
 oP 15 (.lenS (.t 14)),
 oP 16 (.bin .eql (.t 15) (.c (.int .i64 0)))])
 (.cond (.t 16) (.seq (.region 0 [oP 2 (.move (.c (.int .i64 0))),
 oP 3 (.move (.c (.int .i64 3)))])
 (.ret))
 (.skip)))
 (.seq (.region 0 [oQ 5 (.alloc [.int .i64 0, .int .i64 0, .bool false])])
 (.seq (.seq (.region 0 [oP 17 (.fieldAddr 2 (.t 1)),
 oQ 18 (.load false 1 (.t 17)),
 oP 19 (.lenS (.t 18)),
 oP 20 (.move (.c (.int .i64 0)))])
 (.block 0 (.loop (.seq (.region 0 [oP 21 (.bin .lss (.t 20) (.t 19))])
 (.seq (.cond (.t 21) (.skip)
 (.exit 0))
 (.seq (.block 1 (.seq (.region 0 [oP 22 (.move (.t 20)),
 oP 6 (.move (.t 22))])
 (.seq (.region 0 [oQ 23 (.load true 3 (.t 1)),
 oP 24 (.build [.int .i64 0, .nils, .nils] [(0, 3, (.t 23))]),
 oP 25 (.move (.t 6)),
 oQ 26 (.call 1 83 [(.t 24), (.t 25)]),
 oQ 7 (.alloc [.int .i64 0, .nils, .nils]),
 ⟨none, .store 3 (.t 7) (.t 26), none, none, []⟩])
 (.region 0 [oP 27 (.move (.t 6)),
 oQ 28 (.load true 3 (.t 7)),
 oQ 29 (.load true 3 (.t 7)),
 oP 30 (.mkFn 71 [(.t 29)] []),
 oQ 31 (.call 1 70 [(.t 28), (.t 30)]),
 oP 32 (.field false 0 1 (.t 31)),
 oQ 33 (.call 0 84 [(.t 5), (.t 27), (.t 32)])]))))
 (.region 0 [oP 34 (.bin .add (.t 20) (.c (.int .i64 1))),
 oP 20 (.move (.t 34))])))))))
 (.seq (.region 0 [oP 35 (.fieldAddr 1 (.t 5)),
 oQ 36 (.load false 1 (.t 35)),
 oP 2 (.move (.t 36)),
 oP 3 (.move (.c (.int .i64 0)))])
 (.ret))))))⟩
/-- almadraba/almadrabaref04.Rope -/
def f48 : AFn := ⟨38, [.tmp 2, .tmp 3],
 .seq (.region 0 [oQ 1 (.box (.t 0)),
 oP 2 (.move (.c (.int .i64 0))),
 oP 3 (.move (.c (.int .i64 0)))])
 (.seq (.seq (.region 0 [oQ 9 (.load true 3 (.t 1)),
 oQ 10 (.call 1 19 [(.t 9)]),
 oP 4 (.move (.t 10))])
 (.seq (.region 0 [oP 11 (.move (.t 4)),
 oP 12 (.bin .neq (.t 11) (.c (.int .i64 0)))])
 (.cond (.t 12) (.seq (.region 0 [oP 13 (.move (.t 4)),
 oP 2 (.move (.c (.int .i64 0))),
 oP 3 (.move (.t 13))])
 (.ret))
 (.skip))))
 (.seq (.seq (.region 0 [oP 14 (.fieldAddr 2 (.t 1)),
 oQ 15 (.load false 1 (.t 14)),
 oP 16 (.lenS (.t 15)),
 oP 17 (.bin .eql (.t 16) (.c (.int .i64 0)))])
 (.cond (.t 17) (.seq (.region 0 [oP 2 (.move (.c (.int .i64 0))),
 oP 3 (.move (.c (.int .i64 3)))])
 (.ret))
 (.skip)))
 (.seq (.region 0 [oQ 18 (.load true 3 (.t 1)),
 oQ 19 (.call 1 56 [(.t 18), (.c (.int .i64 0))]),
 oQ 20 (.call 1 72 [(.t 19)]),
 oP 5 (.move (.c (.int .i64 0))),
 oP 6 (.move (.t 20))])
 (.seq (.seq (.region 0 [oP 7 (.move (.c (.int .i64 0)))])
 (.block 0 (.loop (.seq (.seq (.region 0 [oP 21 (.move (.t 7)),
 oP 22 (.fieldAddr 2 (.t 1)),
 oQ 23 (.load false 1 (.t 22)),
 oP 24 (.lenS (.t 23)),
 oP 25 (.bin .lss (.t 21) (.t 24))])
 (.cond (.t 25) (.skip)
 (.exit 0)))
 (.seq (.block 1 (.seq (.region 0 [oQ 28 (.load true 3 (.t 1)),
 oP 29 (.move (.t 7)),
 oQ 30 (.call 1 56 [(.t 28), (.t 29)]),
 oQ 31 (.call 1 72 [(.t 30)]),
 oP 8 (.move (.t 31))])
 (.seq (.region 0 [oP 32 (.move (.t 8)),
 oP 33 (.move (.t 6)),
 oP 34 (.bin .lss (.t 32) (.t 33))])
 (.cond (.t 34) (.region 0 [oP 35 (.move (.t 7)),
 oP 36 (.move (.t 8)),
 oP 5 (.move (.t 35)),
 oP 6 (.move (.t 36))])
 (.skip)))))
 (.region 0 [oP 26 (.move (.t 7)),
 oP 27 (.bin .add (.t 26) (.c (.int .i64 1))),
 oP 7 (.move (.t 27))]))))))
 (.seq (.region 0 [oP 37 (.move (.t 5)),
 oP 2 (.move (.t 37)),
 oP 3 (.move (.c (.int .i64 0)))])
 (.ret))))))⟩
/-- almadraba/almadrabalaw04.ready -/
def f49 : AFn := ⟨14, [.tmp 4],
 .seq (.region 0 [oQ 2 (.box (.t 0)),
 oP 4 (.move (.c (.bool false)))])
 (.seq (.region 0 [oQ 5 (.load true 3 (.t 2)),
 oP 6 (.move (.t 1)),
 oQ 7 (.call 1 28 [(.t 5), (.t 6)]),
 oP 8 (.un .not (.t 7)),
 oP 9 (.move (.t 8)),
 ⟨(some 10), .load true 3 (.t 2), (some (9, true)), none, []⟩,
 ⟨(some 11), .call 1 19 [(.t 10)], (some (9, true)), none, []⟩,
 oG 12 9 true (.bin .eql (.t 11) (.c (.int .i64 0))),
 oP 13 (.pick (.t 9) (.t 12) (.c (.bool false))),
 oP 4 (.move (.t 13))])
 (.ret))⟩
/-- almadraba/almadrabaref04.IsOrder -/
def f50 : AFn := ⟨37, [.tmp 4],
 .seq (.region 0 [oQ 2 (.box (.t 0)),
 oP 4 (.move (.c (.bool false)))])
 (.seq (.seq (.region 0 [oP 6 (.move (.t 1)),
 oP 7 (.lenS (.t 6)),
 oP 8 (.fieldAddr 1 (.t 2)),
 oQ 9 (.load false 1 (.t 8)),
 oP 10 (.lenS (.t 9)),
 oP 11 (.bin .neq (.t 7) (.t 10))])
 (.cond (.t 11) (.seq (.region 0 [oP 4 (.move (.c (.bool false)))])
 (.ret))
 (.skip)))
 (.seq (.seq (.region 0 [oP 5 (.move (.c (.int .i64 0)))])
 (.block 0 (.loop (.seq (.seq (.region 0 [oP 12 (.move (.t 5)),
 oP 13 (.move (.t 1)),
 oP 14 (.lenS (.t 13)),
 oP 15 (.bin .lss (.t 12) (.t 14))])
 (.cond (.t 15) (.skip)
 (.exit 0)))
 (.seq (.block 1 (.seq (.region 0 [oQ 18 (.load true 3 (.t 2)),
 oP 19 (.move (.t 1)),
 oP 20 (.move (.t 5)),
 oP 21 (.idxSl 1 (.t 19) (.t 20)),
 oQ 22 (.load false 1 (.t 21)),
 oQ 23 (.call 1 55 [(.t 18), (.t 22)]),
 oP 24 (.un .not (.t 23)),
 oP 25 (.move (.t 24)),
 ⟨(some 26), .load true 3 (.t 2), (some (25, false)), none, []⟩,
 oG 27 25 false (.move (.t 1)),
 oG 28 25 false (.move (.t 5)),
 oG 29 25 false (.slice 1 (.t 27) none (some (.t 28))),
 oG 30 25 false (.move (.t 1)),
 oG 31 25 false (.move (.t 5)),
 oG 32 25 false (.idxSl 1 (.t 30) (.t 31)),
 ⟨(some 33), .load false 1 (.t 32), (some (25, false)), none, []⟩,
 ⟨(some 34), .call 1 79 [(.t 26), (.t 29), (.t 33)], (some (25, false)), none, []⟩,
 oG 35 25 false (.un .not (.t 34)),
 oP 36 (.pick (.t 25) (.c (.bool true)) (.t 35))])
 (.cond (.t 36) (.seq (.region 0 [oP 4 (.move (.c (.bool false)))])
 (.ret))
 (.skip))))
 (.region 0 [oP 16 (.move (.t 5)),
 oP 17 (.bin .add (.t 16) (.c (.int .i64 1))),
 oP 5 (.move (.t 17))]))))))
 (.seq (.region 0 [oP 4 (.move (.c (.bool true)))])
 (.ret))))⟩
/-- almadraba/almadrabalaw04.both -/
def f51 : AFn := ⟨43, [.tmp 2, .tmp 3, .tmp 4],
 .seq (.region 0 [oQ 1 (.box (.t 0)),
 oP 2 (.move (.c (.int .i64 0))),
 oP 3 (.move (.c (.int .i64 0))),
 oP 4 (.move (.c (.bool false)))])
 (.seq (.region 0 [oQ 10 (.load true 3 (.t 1)),
 oQ 11 (.call 1 29 [(.t 10)]),
 oP 9 (.move (.t 11)),
 oP 12 (.extract (.t 9) 0),
 oP 13 (.extract (.t 9) 1),
 oP 5 (.move (.t 12)),
 oP 6 (.move (.t 13))])
 (.seq (.region 0 [oQ 15 (.load true 3 (.t 1)),
 oQ 16 (.call 1 35 [(.t 15)]),
 oP 14 (.move (.t 16)),
 oP 17 (.extract (.t 14) 0),
 oP 18 (.extract (.t 14) 1),
 oP 7 (.move (.t 17)),
 oP 8 (.move (.t 18))])
 (.seq (.region 0 [oP 19 (.move (.t 5)),
 oP 20 (.move (.t 7)),
 oP 21 (.move (.t 6)),
 oP 22 (.bin .eql (.t 21) (.c (.int .i64 0))),
 oP 23 (.move (.t 22)),
 oG 24 23 true (.move (.t 8)),
 oG 25 23 true (.bin .eql (.t 24) (.c (.int .i64 0))),
 oP 26 (.pick (.t 23) (.t 25) (.c (.bool false))),
 oP 27 (.move (.t 26)),
 oG 28 27 true (.move (.t 5)),
 oG 29 27 true (.bin .geq (.t 28) (.c (.int .i64 0))),
 oP 30 (.pick (.t 27) (.t 29) (.c (.bool false))),
 oP 31 (.move (.t 30)),
 oG 32 31 true (.move (.t 5)),
 oG 33 31 true (.bin .leq (.t 32) (.c (.int .i64 100000))),
 oP 34 (.pick (.t 31) (.t 33) (.c (.bool false))),
 oP 35 (.move (.t 34)),
 oG 36 35 true (.move (.t 7)),
 oG 37 35 true (.bin .geq (.t 36) (.c (.int .i64 0))),
 oP 38 (.pick (.t 35) (.t 37) (.c (.bool false))),
 oP 39 (.move (.t 38)),
 oG 40 39 true (.move (.t 7)),
 oG 41 39 true (.bin .leq (.t 40) (.c (.int .i64 100000))),
 oP 42 (.pick (.t 39) (.t 41) (.c (.bool false))),
 oP 2 (.move (.t 19)),
 oP 3 (.move (.t 20)),
 oP 4 (.move (.t 42))])
 (.ret))))⟩
/-- almadraba/almadrabaref04.WorstOf -/
def f52 : AFn := ⟨10, [.tmp 4],
 .seq (.region 0 [oQ 2 (.box (.t 0)),
 oP 4 (.move (.c (.int .i64 0)))])
 (.seq (.region 0 [oQ 5 (.load true 3 (.t 2)),
 oP 6 (.move (.t 1)),
 oQ 7 (.load true 3 (.t 2)),
 oQ 8 (.call 1 69 [(.t 7)]),
 oQ 9 (.call 1 57 [(.t 5), (.t 6), (.t 8)]),
 oP 4 (.move (.t 9))])
 (.ret))⟩
/-- almadraba/almadrabaref04.DoneBy -/
def f53 : AFn := ⟨24, [.tmp 4],
 .seq (.region 0 [oQ 2 (.box (.t 0)),
 oP 4 (.move (.c (.int .i64 0)))])
 (.seq (.region 0 [oQ 8 (.load true 3 (.t 2)),
 oP 9 (.move (.t 1)),
 oQ 10 (.call 1 66 [(.t 8), (.t 9)]),
 oP 5 (.move (.t 10))])
 (.seq (.region 0 [oP 6 (.move (.c (.int .i64 0)))])
 (.seq (.seq (.region 0 [oP 7 (.move (.c (.int .i64 0)))])
 (.block 0 (.loop (.seq (.seq (.region 0 [oP 11 (.move (.t 7)),
 oP 12 (.move (.t 5)),
 oP 13 (.lenS (.t 12)),
 oP 14 (.bin .lss (.t 11) (.t 13))])
 (.cond (.t 14) (.skip)
 (.exit 0)))
 (.seq (.block 1 (.region 0 [oP 17 (.move (.t 6)),
 oP 18 (.move (.t 5)),
 oP 19 (.move (.t 7)),
 oP 20 (.idxSl 1 (.t 18) (.t 19)),
 oQ 21 (.load false 1 (.t 20)),
 oP 22 (.minmax true (.t 17) [(.t 21)]),
 oP 6 (.move (.t 22))]))
 (.region 0 [oP 15 (.move (.t 7)),
 oP 16 (.bin .add (.t 15) (.c (.int .i64 1))),
 oP 7 (.move (.t 16))]))))))
 (.seq (.region 0 [oP 23 (.move (.t 6)),
 oP 4 (.move (.t 23))])
 (.ret)))))⟩
/-- almadraba/almadrabaref01.Within -/
def f54 : AFn := ⟨15, [.tmp 6],
 .seq (.region 0 [oP 6 (.move (.c (.bool false)))])
 (.seq (.region 0 [oP 7 (.move (.t 1)),
 oP 8 (.move (.t 0)),
 oP 9 (.bin .leq (.t 7) (.t 8)),
 oP 10 (.move (.t 9)),
 oG 11 10 true (.move (.t 0)),
 oG 12 10 true (.move (.t 2)),
 oG 13 10 true (.bin .leq (.t 11) (.t 12)),
 oP 14 (.pick (.t 10) (.t 13) (.c (.bool false))),
 oP 6 (.move (.t 14))])
 (.ret))⟩
/-- almadraba/almadrabaref04.IsHole -/
def f55 : AFn := ⟨11, [.tmp 4],
 .seq (.region 0 [oQ 2 (.box (.t 0)),
 oP 4 (.move (.c (.bool false)))])
 (.seq (.region 0 [oP 5 (.move (.t 1)),
 oP 6 (.fieldAddr 1 (.t 2)),
 oQ 7 (.load false 1 (.t 6)),
 oP 8 (.lenS (.t 7)),
 oP 9 (.bin .sub (.t 8) (.c (.int .i64 1))),
 oQ 10 (.call 1 60 [(.t 5), (.c (.int .i64 0)), (.t 9)]),
 oP 4 (.move (.t 10))])
 (.ret))⟩
/-- almadraba/almadrabaref04.Loose -/
def f56 : AFn := ⟨22, [.cell true 3 4],
 .seq (.region 0 [oQ 2 (.box (.t 0)),
 oQ 4 (.alloc [.int .i64 0, .nils, .nils])])
 (.seq (.region 0 [oQ 6 (.load true 3 (.t 2)),
 oQ 7 (.call 1 16 [(.t 6)]),
 oQ 5 (.alloc [.int .i64 0, .nils, .nils]),
 ⟨none, .store 3 (.t 5) (.t 7), none, none, []⟩])
 (.seq (.region 3 [⟨(some 8), .buildSlice 2 0 [.int .i64 0, .int .i64 0] [], none, (some 0), []⟩,
 oP 9 (.fieldAddr 2 (.t 2)),
 ⟨(some 10), .load false 1 (.t 9), none, none, [0, 1, 2]⟩,
 oP 11 (.move (.t 1)),
 oP 12 (.slice 2 (.t 10) none (some (.t 11))),
 ⟨(some 13), .append true 2 16 (.t 8) (.t 12), none, (some 1), [2]⟩,
 oP 14 (.fieldAddr 2 (.t 2)),
 ⟨(some 15), .load false 1 (.t 14), none, none, [0, 1, 2]⟩,
 oP 16 (.move (.t 1)),
 oP 17 (.bin .add (.t 16) (.c (.int .i64 1))),
 oP 18 (.slice 2 (.t 15) (some (.t 17)) none),
 ⟨(some 19), .append false 2 16 (.t 13) (.t 18), none, (some 2), []⟩,
 oP 20 (.fieldAddr 2 (.t 5)),
 ⟨none, .store 1 (.t 20) (.t 19), none, none, []⟩])
 (.seq (.region 0 [oQ 21 (.load true 3 (.t 5)),
 ⟨none, .store 3 (.t 4) (.t 21), none, none, []⟩])
 (.ret))))⟩
/-- almadraba/almadrabaref04.LossOf -/
def f57 : AFn := ⟨38, [.tmp 6],
 .seq (.region 0 [oQ 3 (.box (.t 0)),
 oP 6 (.move (.c (.int .i64 0)))])
 (.seq (.region 0 [oQ 10 (.load true 3 (.t 3)),
 oP 11 (.move (.t 1)),
 oQ 12 (.call 1 66 [(.t 10), (.t 11)]),
 oP 7 (.move (.t 12))])
 (.seq (.region 0 [oP 8 (.move (.c (.int .i64 0)))])
 (.seq (.seq (.region 0 [oP 9 (.move (.c (.int .i64 0)))])
 (.block 0 (.loop (.seq (.seq (.region 0 [oP 13 (.move (.t 9)),
 oP 14 (.move (.t 7)),
 oP 15 (.lenS (.t 14)),
 oP 16 (.bin .lss (.t 13) (.t 15))])
 (.cond (.t 16) (.skip)
 (.exit 0)))
 (.seq (.block 1 (.region 0 [oP 19 (.move (.t 8)),
 oP 20 (.move (.t 2)),
 oP 21 (.move (.t 9)),
 oP 22 (.idxSl 1 (.t 20) (.t 21)),
 oQ 23 (.load false 1 (.t 22)),
 oP 24 (.move (.t 7)),
 oP 25 (.move (.t 9)),
 oP 26 (.idxSl 1 (.t 24) (.t 25)),
 oQ 27 (.load false 1 (.t 26)),
 oP 28 (.fieldAddr 1 (.t 3)),
 oQ 29 (.load false 1 (.t 28)),
 oP 30 (.move (.t 9)),
 oP 31 (.idxSl 4 (.t 29) (.t 30)),
 oP 32 (.fieldAddr 0 (.t 31)),
 oQ 33 (.load false 1 (.t 32)),
 oP 34 (.bin .sub (.t 27) (.t 33)),
 oP 35 (.bin .mul (.t 23) (.t 34)),
 oP 36 (.bin .add (.t 19) (.t 35)),
 oP 8 (.move (.t 36))]))
 (.region 0 [oP 17 (.move (.t 9)),
 oP 18 (.bin .add (.t 17) (.c (.int .i64 1))),
 oP 9 (.move (.t 18))]))))))
 (.seq (.region 0 [oP 37 (.move (.t 8)),
 oP 6 (.move (.t 37))])
 (.ret)))))⟩
/-- almadraba/almadrabalaw04.Example -/
def f58 : AFn := ⟨13, [.cell true 3 0, .cell true 3 1],
 .seq (.region 0 [oQ 0 (.alloc [.int .i64 0, .nils, .nils]),
 oQ 1 (.alloc [.int .i64 0, .nils, .nils])])
 (.seq (.region 0 [oQ 2 (.call 1 85 [(.c (.int .i64 0)), (.c (.int .i64 2)), (.c (.int .i64 3)), (.c (.int .i64 2))]),
 oQ 3 (.call 1 85 [(.c (.int .i64 0)), (.c (.int .i64 5)), (.c (.int .i64 6)), (.c (.int .i64 3))]),
 oQ 4 (.call 1 85 [(.c (.int .i64 1)), (.c (.int .i64 4)), (.c (.int .i64 8)), (.c (.int .i64 1))]),
 oQ 5 (.litS 4 3 [.int .i64 0, .int .i64 0, .int .i64 0, .int .i64 0] [(0, (.t 2)), (1, (.t 3)), (2, (.t 4))]),
 oP 6 (.build [.int .i64 0, .int .i64 0] [(0, 1, (.c (.int .i64 0))), (1, 1, (.c (.int .i64 2)))]),
 oQ 7 (.litS 2 1 [.int .i64 0, .int .i64 0] [(0, (.t 6))]),
 oP 8 (.build [.int .i64 0, .nils, .nils] [(0, 1, (.c (.int .i64 1))), (1, 1, (.t 5)), (2, 1, (.t 7))]),
 ⟨none, .store 3 (.t 0) (.t 8), none, none, []⟩])
 (.seq (.region 0 [oQ 9 (.load true 3 (.t 0)),
 ⟨none, .store 3 (.t 1) (.t 9), none, none, []⟩])
 (.seq (.region 0 [oP 10 (.fieldAddr 0 (.t 1)),
 ⟨none, .store 1 (.t 10) (.c (.int .i64 2)), none, none, []⟩])
 (.seq (.region 0 [oQ 11 (.load true 3 (.t 0)),
 oQ 12 (.loadR true 3 (.t 1) 1),
 ⟨none, .storeR 3 (.t 0) (.t 11) [1], none, none, []⟩,
 ⟨none, .store 3 (.t 1) (.t 12), none, none, []⟩])
 (.ret)))))⟩
/-- almadraba/mesh.valid -/
def f59 : AFn := ⟨38, [.tmp 2],
 .seq (.region 0 [oQ 1 (.box (.t 0)),
 oP 2 (.move (.c (.bool false)))])
 (.seq (.region 0 [oP 3 (.move (.c (.fn 86 [] [])))])
 (.seq (.region 0 [oP 5 (.mkFn 88 [] [(.t 1)]),
 oP 4 (.move (.t 5))])
 (.seq (.region 0 [oP 6 (.fieldAddr 0 (.t 1)),
 oQ 7 (.load false 1 (.t 6)),
 oQ 8 (.call 1 87 [(.t 7), (.c (.int .i64 1)), (.c (.int .i64 3))]),
 oP 9 (.move (.t 8)),
 oG 10 9 true (.fieldAddr 1 (.t 1)),
 ⟨(some 11), .load false 1 (.t 10), (some (9, true)), none, []⟩,
 oG 12 9 true (.lenS (.t 11)),
 oG 13 9 true (.bin .leq (.t 12) (.c (.int .i64 6))),
 oP 14 (.pick (.t 9) (.t 13) (.c (.bool false))),
 oP 15 (.move (.t 14)),
 oG 16 15 true (.fieldAddr 1 (.t 1)),
 ⟨(some 17), .load false 1 (.t 16), (some (15, true)), none, []⟩,
 oG 18 15 true (.move (.t 3)),
 ⟨(some 19), .call 1 89 [(.t 17), (.t 18)], (some (15, true)), none, []⟩,
 oP 20 (.pick (.t 15) (.t 19) (.c (.bool false))),
 oP 21 (.move (.t 20)),
 oG 22 21 true (.fieldAddr 2 (.t 1)),
 ⟨(some 23), .load false 1 (.t 22), (some (21, true)), none, []⟩,
 oG 24 21 true (.lenS (.t 23)),
 oG 25 21 true (.bin .leq (.t 24) (.c (.int .i64 8))),
 oP 26 (.pick (.t 21) (.t 25) (.c (.bool false))),
 oP 27 (.move (.t 26)),
 oG 28 27 true (.fieldAddr 2 (.t 1)),
 ⟨(some 29), .load false 1 (.t 28), (some (27, true)), none, []⟩,
 oG 30 27 true (.move (.t 4)),
 ⟨(some 31), .call 3 90 [(.t 29), (.t 30)], (some (27, true)), none, []⟩,
 oP 32 (.pick (.t 27) (.t 31) (.c (.bool false))),
 oP 33 (.move (.t 32)),
 ⟨(some 34), .load true 3 (.t 1), (some (33, true)), none, []⟩,
 oG 35 33 true (.build [.int .i64 0, .nils, .nils] [(0, 3, (.t 34))]),
 ⟨(some 36), .call 1 91 [(.t 35)], (some (33, true)), none, []⟩,
 oP 37 (.pick (.t 33) (.t 36) (.c (.bool false))),
 oP 2 (.move (.t 37))])
 (.ret))))⟩
/-- almadraba/almadrabaref04.within -/
def f60 : AFn := ⟨11, [.tmp 6],
 .seq (.region 0 [oP 6 (.move (.c (.bool false)))])
 (.seq (.region 0 [oP 7 (.move (.t 0)),
 oP 8 (.move (.t 1)),
 oP 9 (.move (.t 2)),
 oQ 10 (.call 1 54 [(.t 7), (.t 8), (.t 9)]),
 oP 6 (.move (.t 10))])
 (.ret))⟩
/-- almadraba/almadrabaref04.Orders -/
def f61 : AFn := ⟨37, [.tmp 4],
 .seq (.region 0 [oQ 2 (.box (.t 0)),
 oP 4 (.move (.c (.nils)))])
 (.seq (.seq (.region 0 [oP 7 (.move (.t 1)),
 oP 8 (.lenS (.t 7)),
 oP 9 (.fieldAddr 1 (.t 2)),
 oQ 10 (.load false 1 (.t 9)),
 oP 11 (.lenS (.t 10)),
 oP 12 (.bin .eql (.t 8) (.t 11))])
 (.cond (.t 12) (.seq (.region 0 [oP 13 (.move (.t 1)),
 oQ 14 (.buildSlice 1 1 [.nils] [(0, (.t 13))]),
 oP 4 (.move (.t 14))])
 (.ret))
 (.skip)))
 (.seq (.region 0 [oP 5 (.move (.c (.nils)))])
 (.seq (.seq (.region 0 [oP 6 (.move (.c (.int .i64 0)))])
 (.block 0 (.loop (.seq (.seq (.region 0 [oP 15 (.move (.t 6)),
 oP 16 (.fieldAddr 1 (.t 2)),
 oQ 17 (.load false 1 (.t 16)),
 oP 18 (.lenS (.t 17)),
 oP 19 (.bin .lss (.t 15) (.t 18))])
 (.cond (.t 19) (.skip)
 (.exit 0)))
 (.seq (.block 1 (.seq (.region 0 [oQ 22 (.load true 3 (.t 2)),
 oP 23 (.move (.t 1)),
 oP 24 (.move (.t 6)),
 oQ 25 (.call 1 79 [(.t 22), (.t 23), (.t 24)])])
 (.cond (.t 25) (.region 5 [oP 26 (.move (.t 5)),
 ⟨(some 27), .load true 3 (.t 2), none, none, [0, 1, 2, 3, 4]⟩,
 ⟨(some 28), .buildSlice 1 0 [.int .i64 0] [], none, (some 0), []⟩,
 oP 29 (.move (.t 1)),
 ⟨(some 30), .append true 1 8 (.t 28) (.t 29), none, (some 1), [2, 3, 4]⟩,
 oP 31 (.move (.t 6)),
 ⟨(some 32), .buildSlice 1 1 [.int .i64 0] [(0, (.t 31))], none, (some 2), []⟩,
 ⟨(some 33), .append true 1 8 (.t 30) (.t 32), none, (some 3), [4]⟩,
 ⟨(some 34), .call 0 61 [(.t 27), (.t 33)], none, none, [4]⟩,
 ⟨(some 35), .append false 1 24 (.t 26) (.t 34), none, (some 4), []⟩,
 oP 5 (.move (.t 35))])
 (.skip))))
 (.region 0 [oP 20 (.move (.t 6)),
 oP 21 (.bin .add (.t 20) (.c (.int .i64 1))),
 oP 6 (.move (.t 21))]))))))
 (.seq (.region 0 [oP 36 (.move (.t 5)),
 oP 4 (.move (.t 36))])
 (.ret)))))⟩
/-- (almadraba/mesh.plan).isOrder -/
def f62 : AFn := ⟨30, [.tmp 4],
 .seq (.region 0 [oQ 2 (.box (.t 0)),
 oP 4 (.move (.c (.bool false)))])
 (.seq (.seq (.region 0 [oP 7 (.move (.t 1)),
 oP 8 (.lenS (.t 7)),
 oP 9 (.fieldAddr 0 (.t 2)),
 oP 10 (.fieldAddr 1 (.t 9)),
 oQ 11 (.load false 1 (.t 10)),
 oP 12 (.lenS (.t 11)),
 oP 13 (.bin .neq (.t 8) (.t 12))])
 (.cond (.t 13) (.seq (.region 0 [oP 4 (.move (.c (.bool false)))])
 (.ret))
 (.skip)))
 (.seq (.seq (.region 0 [oP 14 (.move (.t 1)),
 oP 15 (.lenS (.t 14)),
 oP 16 (.move (.c (.int .i64 0)))])
 (.block 0 (.loop (.seq (.region 0 [oP 17 (.bin .lss (.t 16) (.t 15))])
 (.seq (.cond (.t 17) (.skip)
 (.exit 0))
 (.seq (.block 1 (.seq (.region 0 [oP 18 (.move (.t 16)),
 oP 19 (.idxSl 1 (.t 14) (.t 16)),
 oQ 20 (.load false 1 (.t 19)),
 oP 5 (.move (.t 18)),
 oP 6 (.move (.t 20))])
 (.seq (.region 0 [oQ 21 (.load true 3 (.t 2)),
 oP 22 (.move (.t 1)),
 oP 23 (.move (.t 5)),
 oP 24 (.slice 1 (.t 22) none (some (.t 23))),
 oQ 25 (.call 1 93 [(.t 21), (.t 24)]),
 oP 26 (.move (.t 6)),
 oQ 27 (.call 1 92 [(.t 25), (.t 26)]),
 oP 28 (.un .not (.t 27))])
 (.cond (.t 28) (.seq (.region 0 [oP 4 (.move (.c (.bool false)))])
 (.ret))
 (.skip)))))
 (.region 0 [oP 29 (.bin .add (.t 16) (.c (.int .i64 1))),
 oP 16 (.move (.t 29))])))))))
 (.seq (.region 0 [oP 4 (.move (.c (.bool true)))])
 (.ret))))⟩
/-- almadraba/mesh.fitOrder -/
def f63 : AFn := ⟨20, [.tmp 4],
 .seq (.region 0 [oQ 2 (.box (.t 0)),
 oP 4 (.move (.c (.int .i64 0)))])
 (.seq (.region 0 [oQ 8 (.load true 3 (.t 2)),
 oP 9 (.move (.t 1)),
 oQ 10 (.call 1 20 [(.t 8), (.t 9)]),
 oP 7 (.move (.t 10)),
 oP 11 (.extract (.t 7) 0),
 oP 12 (.extract (.t 7) 1),
 oP 5 (.move (.t 11)),
 oP 6 (.move (.t 12))])
 (.seq (.seq (.region 0 [oP 13 (.move (.t 6)),
 oP 14 (.bin .eql (.t 13) (.c (.int .i64 0))),
 oP 15 (.move (.t 14)),
 oG 16 15 true (.move (.t 5)),
 oG 17 15 true (.un .not (.t 16)),
 oP 18 (.pick (.t 15) (.t 17) (.c (.bool false)))])
 (.cond (.t 18) (.seq (.region 0 [oP 4 (.move (.c (.int .i64 1)))])
 (.ret))
 (.skip)))
 (.seq (.region 0 [oP 19 (.move (.t 6)),
 oP 4 (.move (.t 19))])
 (.ret))))⟩
/-- (almadraba/mesh.plan).times -/
def f64 : AFn := ⟨75, [.cell true 6 4],
 .seq (.region 0 [oQ 2 (.box (.t 0)),
 oQ 4 (.alloc [.int .i64 0, .int .i64 0, .int .i64 0, .int .i64 0, .int .i64 0, .int .i64 0])])
 (.seq (.region 0 [oQ 5 (.alloc [.int .i64 0, .int .i64 0, .int .i64 0, .int .i64 0, .int .i64 0, .int .i64 0])])
 (.seq (.region 0 [oP 13 (.fieldAddr 0 (.t 2)),
 oP 14 (.fieldAddr 0 (.t 13)),
 oQ 15 (.load false 1 (.t 14)),
 oQ 16 (.makeSlice false 1 8 [.int .i64 0] (.t 15) (.t 15)),
 oP 6 (.move (.t 16))])
 (.seq (.seq (.region 0 [oP 17 (.move (.t 1)),
 oP 18 (.lenS (.t 17)),
 oP 19 (.move (.c (.int .i64 0)))])
 (.block 0 (.loop (.seq (.region 0 [oP 20 (.bin .lss (.t 19) (.t 18))])
 (.seq (.cond (.t 20) (.skip)
 (.exit 0))
 (.seq (.block 1 (.seq (.region 0 [oP 21 (.idxSl 1 (.t 17) (.t 19)),
 oQ 22 (.load false 1 (.t 21)),
 oP 8 (.move (.t 22))])
 (.seq (.region 0 [oP 23 (.move (.t 6)),
 oQ 24 (.call 1 94 [(.t 23)]),
 oP 9 (.move (.t 24))])
 (.seq (.region 0 [oP 25 (.move (.t 6)),
 oP 26 (.move (.t 9)),
 oP 27 (.idxSl 1 (.t 25) (.t 26)),
 oQ 28 (.load false 1 (.t 27)),
 oP 29 (.fieldAddr 0 (.t 2)),
 oP 30 (.fieldAddr 1 (.t 29)),
 oQ 31 (.load false 1 (.t 30)),
 oP 32 (.move (.t 8)),
 oP 33 (.idxSl 4 (.t 31) (.t 32)),
 oP 34 (.fieldAddr 0 (.t 33)),
 oQ 35 (.load false 1 (.t 34)),
 oP 36 (.minmax true (.t 28) [(.t 35)]),
 oP 10 (.move (.t 36))])
 (.seq (.seq (.region 0 [oP 37 (.fieldAddr 0 (.t 2)),
 oP 38 (.fieldAddr 2 (.t 37)),
 oQ 39 (.load false 1 (.t 38)),
 oP 40 (.lenS (.t 39)),
 oP 41 (.move (.c (.int .i64 0)))])
 (.block 2 (.loop (.seq (.region 0 [oP 42 (.bin .lss (.t 41) (.t 40))])
 (.seq (.cond (.t 42) (.skip)
 (.exit 2))
 (.seq (.block 3 (.seq (.region 0 [oP 43 (.idxSl 2 (.t 39) (.t 41)),
 oQ 44 (.load true 2 (.t 43)),
 oQ 12 (.alloc [.int .i64 0, .int .i64 0]),
 ⟨none, .store 2 (.t 12) (.t 44), none, none, []⟩])
 (.seq (.region 0 [oP 45 (.fieldAddr 1 (.t 12)),
 oQ 46 (.load false 1 (.t 45)),
 oP 47 (.move (.t 8)),
 oP 48 (.bin .eql (.t 46) (.t 47))])
 (.cond (.t 48) (.region 0 [oP 49 (.move (.t 10)),
 oP 50 (.fieldAddr 0 (.t 12)),
 oQ 51 (.load false 1 (.t 50)),
 oP 52 (.idxArr 6 1 (.t 5) (.t 51)),
 oQ 53 (.load false 1 (.t 52)),
 oP 54 (.minmax true (.t 49) [(.t 53)]),
 oP 10 (.move (.t 54))])
 (.skip)))))
 (.region 0 [oP 55 (.bin .add (.t 41) (.c (.int .i64 1))),
 oP 41 (.move (.t 55))])))))))
 (.seq (.region 0 [oP 56 (.move (.t 8)),
 oP 57 (.move (.t 10)),
 oP 58 (.fieldAddr 0 (.t 2)),
 oP 59 (.fieldAddr 1 (.t 58)),
 oQ 60 (.load false 1 (.t 59)),
 oP 61 (.move (.t 8)),
 oP 62 (.idxSl 4 (.t 60) (.t 61)),
 oP 63 (.fieldAddr 3 (.t 62)),
 oQ 64 (.load false 1 (.t 63)),
 oP 65 (.bin .add (.t 57) (.t 64)),
 oP 66 (.idxArr 6 1 (.t 5) (.t 56)),
 ⟨none, .store 1 (.t 66) (.t 65), none, none, []⟩])
 (.region 0 [oP 67 (.move (.t 6)),
 oP 68 (.move (.t 9)),
 oP 69 (.move (.t 8)),
 oP 70 (.idxArr 6 1 (.t 5) (.t 69)),
 oQ 71 (.load false 1 (.t 70)),
 oP 72 (.idxSl 1 (.t 67) (.t 68)),
 ⟨none, .store 1 (.t 72) (.t 71), none, none, []⟩])))))))
 (.region 0 [oP 73 (.bin .add (.t 19) (.c (.int .i64 1))),
 oP 19 (.move (.t 73))])))))))
 (.seq (.region 0 [oQ 74 (.load true 6 (.t 5)),
 ⟨none, .store 6 (.t 4) (.t 74), none, none, []⟩])
 (.ret)))))⟩
/-- almadraba/almadrabaref04.given -/
def f65 : AFn := ⟨15, [.tmp 4],
 .seq (.region 0 [oQ 2 (.box (.t 0)),
 oP 4 (.move (.c (.int .i64 0)))])
 (.seq (.seq (.region 0 [oQ 6 (.load true 3 (.t 2)),
 oQ 7 (.call 1 19 [(.t 6)]),
 oP 5 (.move (.t 7))])
 (.seq (.region 0 [oP 8 (.move (.t 5)),
 oP 9 (.bin .neq (.t 8) (.c (.int .i64 0)))])
 (.cond (.t 9) (.seq (.region 0 [oP 10 (.move (.t 5)),
 oP 4 (.move (.t 10))])
 (.ret))
 (.skip))))
 (.seq (.seq (.region 0 [oQ 11 (.load true 3 (.t 2)),
 oP 12 (.move (.t 1)),
 oQ 13 (.call 1 50 [(.t 11), (.t 12)]),
 oP 14 (.un .not (.t 13))])
 (.cond (.t 14) (.seq (.region 0 [oP 4 (.move (.c (.int .i64 1)))])
 (.ret))
 (.skip)))
 (.seq (.region 0 [oP 4 (.move (.c (.int .i64 0)))])
 (.ret))))⟩
/-- almadraba/almadrabaref04.TimesOf -/
def f66 : AFn := ⟨104, [.tmp 4],
 .seq (.region 0 [oQ 2 (.box (.t 0)),
 oP 4 (.move (.c (.nils)))])
 (.seq (.region 0 [oP 13 (.fieldAddr 1 (.t 2)),
 oQ 14 (.load false 1 (.t 13)),
 oP 15 (.lenS (.t 14)),
 oQ 16 (.makeSlice false 1 8 [.int .i64 0] (.t 15) (.t 15)),
 oP 5 (.move (.t 16))])
 (.seq (.region 0 [oP 17 (.fieldAddr 0 (.t 2)),
 oQ 18 (.load false 1 (.t 17)),
 oQ 19 (.makeSlice false 1 8 [.int .i64 0] (.t 18) (.t 18)),
 oP 6 (.move (.t 19))])
 (.seq (.seq (.region 0 [oP 7 (.move (.c (.int .i64 0)))])
 (.block 0 (.loop (.seq (.seq (.region 0 [oP 20 (.move (.t 7)),
 oP 21 (.move (.t 1)),
 oP 22 (.lenS (.t 21)),
 oP 23 (.bin .lss (.t 20) (.t 22))])
 (.cond (.t 23) (.skip)
 (.exit 0)))
 (.seq (.block 1 (.seq (.region 0 [oP 8 (.move (.c (.int .i64 0)))])
 (.seq (.seq (.region 0 [oP 9 (.move (.c (.int .i64 0)))])
 (.block 2 (.loop (.seq (.seq (.region 0 [oP 26 (.move (.t 9)),
 oP 27 (.move (.t 6)),
 oP 28 (.lenS (.t 27)),
 oP 29 (.bin .lss (.t 26) (.t 28))])
 (.cond (.t 29) (.skip)
 (.exit 2)))
 (.seq (.block 3 (.seq (.region 0 [oP 32 (.move (.t 6)),
 oP 33 (.move (.t 9)),
 oP 34 (.idxSl 1 (.t 32) (.t 33)),
 oQ 35 (.load false 1 (.t 34)),
 oP 36 (.move (.t 6)),
 oP 37 (.move (.t 8)),
 oP 38 (.idxSl 1 (.t 36) (.t 37)),
 oQ 39 (.load false 1 (.t 38)),
 oP 40 (.bin .lss (.t 35) (.t 39))])
 (.cond (.t 40) (.region 0 [oP 41 (.move (.t 9)),
 oP 8 (.move (.t 41))])
 (.skip))))
 (.region 0 [oP 30 (.move (.t 9)),
 oP 31 (.bin .add (.t 30) (.c (.int .i64 1))),
 oP 9 (.move (.t 31))]))))))
 (.seq (.region 1 [oP 42 (.fieldAddr 1 (.t 2)),
 ⟨(some 43), .load false 1 (.t 42), none, none, [0]⟩,
 oP 44 (.move (.t 1)),
 oP 45 (.move (.t 7)),
 oP 46 (.idxSl 1 (.t 44) (.t 45)),
 ⟨(some 47), .load false 1 (.t 46), none, none, [0]⟩,
 oP 48 (.idxSl 4 (.t 43) (.t 47)),
 ⟨(some 49), .load true 4 (.t 48), none, none, [0]⟩,
 ⟨(some 10), .alloc [.int .i64 0, .int .i64 0, .int .i64 0, .int .i64 0], none, (some 0), []⟩,
 ⟨none, .store 4 (.t 10) (.t 49), none, (some 0), []⟩])
 (.seq (.region 0 [oP 50 (.move (.t 6)),
 oP 51 (.move (.t 8)),
 oP 52 (.idxSl 1 (.t 50) (.t 51)),
 oQ 53 (.load false 1 (.t 52)),
 oP 54 (.fieldAddr 0 (.t 10)),
 oQ 55 (.load false 1 (.t 54)),
 oP 56 (.minmax true (.t 53) [(.t 55)]),
 oP 11 (.move (.t 56))])
 (.seq (.seq (.region 0 [oP 12 (.move (.c (.int .i64 0)))])
 (.block 4 (.loop (.seq (.seq (.region 0 [oP 57 (.move (.t 12)),
 oP 58 (.fieldAddr 2 (.t 2)),
 oQ 59 (.load false 1 (.t 58)),
 oP 60 (.lenS (.t 59)),
 oP 61 (.bin .lss (.t 57) (.t 60))])
 (.cond (.t 61) (.skip)
 (.exit 4)))
 (.seq (.block 5 (.seq (.region 0 [oP 64 (.fieldAddr 2 (.t 2)),
 oQ 65 (.load false 1 (.t 64)),
 oP 66 (.move (.t 12)),
 oP 67 (.idxSl 2 (.t 65) (.t 66)),
 oP 68 (.fieldAddr 1 (.t 67)),
 oQ 69 (.load false 1 (.t 68)),
 oP 70 (.move (.t 1)),
 oP 71 (.move (.t 7)),
 oP 72 (.idxSl 1 (.t 70) (.t 71)),
 oQ 73 (.load false 1 (.t 72)),
 oP 74 (.bin .eql (.t 69) (.t 73))])
 (.cond (.t 74) (.region 0 [oP 75 (.move (.t 11)),
 oP 76 (.move (.t 5)),
 oP 77 (.fieldAddr 2 (.t 2)),
 oQ 78 (.load false 1 (.t 77)),
 oP 79 (.move (.t 12)),
 oP 80 (.idxSl 2 (.t 78) (.t 79)),
 oP 81 (.fieldAddr 0 (.t 80)),
 oQ 82 (.load false 1 (.t 81)),
 oP 83 (.idxSl 1 (.t 76) (.t 82)),
 oQ 84 (.load false 1 (.t 83)),
 oP 85 (.minmax true (.t 75) [(.t 84)]),
 oP 11 (.move (.t 85))])
 (.skip))))
 (.region 0 [oP 62 (.move (.t 12)),
 oP 63 (.bin .add (.t 62) (.c (.int .i64 1))),
 oP 12 (.move (.t 63))]))))))
 (.seq (.region 0 [oP 86 (.move (.t 5)),
 oP 87 (.move (.t 1)),
 oP 88 (.move (.t 7)),
 oP 89 (.idxSl 1 (.t 87) (.t 88)),
 oQ 90 (.load false 1 (.t 89)),
 oP 91 (.move (.t 11)),
 oP 92 (.fieldAddr 3 (.t 10)),
 oQ 93 (.load false 1 (.t 92)),
 oP 94 (.bin .add (.t 91) (.t 93)),
 oP 95 (.idxSl 1 (.t 86) (.t 90)),
 ⟨none, .store 1 (.t 95) (.t 94), none, none, []⟩])
 (.region 0 [oP 96 (.move (.t 6)),
 oP 97 (.move (.t 8)),
 oP 98 (.move (.t 11)),
 oP 99 (.fieldAddr 3 (.t 10)),
 oQ 100 (.load false 1 (.t 99)),
 oP 101 (.bin .add (.t 98) (.t 100)),
 oP 102 (.idxSl 1 (.t 96) (.t 97)),
 ⟨none, .store 1 (.t 102) (.t 101), none, none, []⟩]))))))))
 (.region 0 [oP 24 (.move (.t 7)),
 oP 25 (.bin .add (.t 24) (.c (.int .i64 1))),
 oP 7 (.move (.t 25))]))))))
 (.seq (.region 0 [oP 103 (.move (.t 5)),
 oP 4 (.move (.t 103))])
 (.ret)))))⟩
/-- (almadraba/mesh.plan).lost -/
def f67 : AFn := ⟨48, [.cell true 2 4],
 .seq (.region 0 [oQ 2 (.box (.t 0)),
 oQ 4 (.alloc [.int .i64 0, .int .i64 0])])
 (.seq (.region 0 [oQ 5 (.alloc [.int .i64 0, .int .i64 0])])
 (.seq (.region 0 [oQ 10 (.load true 3 (.t 2)),
 oP 11 (.move (.t 1)),
 oQ 12 (.call 1 64 [(.t 10), (.t 11)]),
 oQ 6 (.alloc [.int .i64 0, .int .i64 0, .int .i64 0, .int .i64 0, .int .i64 0, .int .i64 0]),
 ⟨none, .store 6 (.t 6) (.t 12), none, none, []⟩])
 (.seq (.seq (.region 0 [oP 13 (.fieldAddr 0 (.t 2)),
 oP 14 (.fieldAddr 1 (.t 13)),
 oQ 15 (.load false 1 (.t 14)),
 oP 16 (.lenS (.t 15)),
 oP 17 (.move (.c (.int .i64 0)))])
 (.block 0 (.loop (.seq (.region 0 [oP 18 (.bin .lss (.t 17) (.t 16))])
 (.seq (.cond (.t 18) (.skip)
 (.exit 0))
 (.seq (.block 1 (.seq (.region 0 [oP 19 (.move (.t 17)),
 oP 20 (.idxSl 4 (.t 15) (.t 17)),
 oQ 21 (.load true 4 (.t 20)),
 oQ 8 (.alloc [.int .i64 0, .int .i64 0, .int .i64 0, .int .i64 0]),
 oP 7 (.move (.t 19)),
 ⟨none, .store 4 (.t 8) (.t 21), none, none, []⟩])
 (.seq (.region 0 [oP 22 (.move (.t 7)),
 oP 23 (.idxArr 6 1 (.t 6) (.t 22)),
 oQ 24 (.load false 1 (.t 23)),
 oP 25 (.fieldAddr 0 (.t 8)),
 oQ 26 (.load false 1 (.t 25)),
 oP 27 (.bin .sub (.t 24) (.t 26)),
 oP 9 (.move (.t 27))])
 (.seq (.region 0 [oP 28 (.fieldAddr 0 (.t 5)),
 oQ 29 (.load false 1 (.t 28)),
 oP 30 (.fieldAddr 1 (.t 8)),
 oP 31 (.fieldAddr 0 (.t 30)),
 oQ 32 (.load false 1 (.t 31)),
 oP 33 (.move (.t 9)),
 oP 34 (.bin .mul (.t 32) (.t 33)),
 oP 35 (.bin .add (.t 29) (.t 34)),
 oP 36 (.fieldAddr 0 (.t 5)),
 ⟨none, .store 1 (.t 36) (.t 35), none, none, []⟩])
 (.region 0 [oP 37 (.fieldAddr 1 (.t 5)),
 oQ 38 (.load false 1 (.t 37)),
 oP 39 (.fieldAddr 1 (.t 8)),
 oP 40 (.fieldAddr 1 (.t 39)),
 oQ 41 (.load false 1 (.t 40)),
 oP 42 (.move (.t 9)),
 oP 43 (.bin .mul (.t 41) (.t 42)),
 oP 44 (.bin .add (.t 38) (.t 43)),
 oP 45 (.fieldAddr 1 (.t 5)),
 ⟨none, .store 1 (.t 45) (.t 44), none, none, []⟩])))))
 (.region 0 [oP 46 (.bin .add (.t 17) (.c (.int .i64 1))),
 oP 17 (.move (.t 46))])))))))
 (.seq (.region 0 [oQ 47 (.load true 2 (.t 5)),
 ⟨none, .store 2 (.t 4) (.t 47), none, none, []⟩])
 (.ret)))))⟩
/-- almadraba/almadrabaref04.lows -/
def f68 : AFn := ⟨23, [.tmp 2],
 .seq (.region 0 [oQ 1 (.box (.t 0)),
 oP 2 (.move (.c (.nils)))])
 (.seq (.region 0 [oP 3 (.move (.c (.nils)))])
 (.seq (.seq (.region 0 [oP 4 (.move (.c (.int .i64 0)))])
 (.block 0 (.loop (.seq (.seq (.region 0 [oP 5 (.move (.t 4)),
 oP 6 (.fieldAddr 1 (.t 1)),
 oQ 7 (.load false 1 (.t 6)),
 oP 8 (.lenS (.t 7)),
 oP 9 (.bin .lss (.t 5) (.t 8))])
 (.cond (.t 9) (.skip)
 (.exit 0)))
 (.seq (.block 1 (.region 0 [oP 12 (.move (.t 3)),
 oP 13 (.fieldAddr 1 (.t 1)),
 oQ 14 (.load false 1 (.t 13)),
 oP 15 (.move (.t 4)),
 oP 16 (.idxSl 4 (.t 14) (.t 15)),
 oP 17 (.fieldAddr 1 (.t 16)),
 oP 18 (.fieldAddr 0 (.t 17)),
 oQ 19 (.load false 1 (.t 18)),
 oQ 20 (.litS 1 1 [.int .i64 0] [(0, (.t 19))]),
 oQ 21 (.append false 1 8 (.t 12) (.t 20)),
 oP 3 (.move (.t 21))]))
 (.region 0 [oP 10 (.move (.t 4)),
 oP 11 (.bin .add (.t 10) (.c (.int .i64 1))),
 oP 4 (.move (.t 11))]))))))
 (.seq (.region 0 [oP 22 (.move (.t 3)),
 oP 2 (.move (.t 22))])
 (.ret))))⟩
/-- almadraba/almadrabaref04.highs -/
def f69 : AFn := ⟨23, [.tmp 2],
 .seq (.region 0 [oQ 1 (.box (.t 0)),
 oP 2 (.move (.c (.nils)))])
 (.seq (.region 0 [oP 3 (.move (.c (.nils)))])
 (.seq (.seq (.region 0 [oP 4 (.move (.c (.int .i64 0)))])
 (.block 0 (.loop (.seq (.seq (.region 0 [oP 5 (.move (.t 4)),
 oP 6 (.fieldAddr 1 (.t 1)),
 oQ 7 (.load false 1 (.t 6)),
 oP 8 (.lenS (.t 7)),
 oP 9 (.bin .lss (.t 5) (.t 8))])
 (.cond (.t 9) (.skip)
 (.exit 0)))
 (.seq (.block 1 (.region 0 [oP 12 (.move (.t 3)),
 oP 13 (.fieldAddr 1 (.t 1)),
 oQ 14 (.load false 1 (.t 13)),
 oP 15 (.move (.t 4)),
 oP 16 (.idxSl 4 (.t 14) (.t 15)),
 oP 17 (.fieldAddr 1 (.t 16)),
 oP 18 (.fieldAddr 1 (.t 17)),
 oQ 19 (.load false 1 (.t 18)),
 oQ 20 (.litS 1 1 [.int .i64 0] [(0, (.t 19))]),
 oQ 21 (.append false 1 8 (.t 12) (.t 20)),
 oP 3 (.move (.t 21))]))
 (.region 0 [oP 10 (.move (.t 4)),
 oP 11 (.bin .add (.t 10) (.c (.int .i64 1))),
 oP 4 (.move (.t 11))]))))))
 (.seq (.region 0 [oP 22 (.move (.t 3)),
 oP 2 (.move (.t 22))])
 (.ret))))⟩
/-- (almadraba/mesh.plan).best -/
def f70 : AFn := ⟨16, [.cell true 3 4],
 .seq (.region 0 [oQ 2 (.box (.t 0)),
 oQ 3 (.box (.t 1)),
 oQ 4 (.alloc [.int .i64 0, .nils, .bool false])])
 (.seq (.region 0 [oQ 5 (.alloc [.int .i64 0, .nils, .bool false])])
 (.seq (.seq (.region 0 [oQ 7 (.load true 3 (.t 2)),
 oP 8 (.mkFn 95 [(.t 7)] [])])
 (.block 0 (.rangeFunc (.t 8) [9] (.region 0 [oP 6 (.move (.t 9))])
 (.block 1 (.region 0 [oP 10 (.move (.t 6)),
 oQ 11 (.load false 1 (.t 3)),
 oP 12 (.move (.t 6)),
 oQ 13 (.callv true (.t 11) [(.t 12)]),
 oQ 14 (.call 0 96 [(.t 5), (.t 10), (.t 13)])])))))
 (.seq (.region 0 [oQ 15 (.load true 3 (.t 5)),
 ⟨none, .store 3 (.t 4) (.t 15), none, none, []⟩])
 (.ret))))⟩
/-- (almadraba/mesh.plan).loss -/
def f71 : AFn := ⟨9, [.tmp 4],
 .seq (.region 0 [oQ 2 (.box (.t 0)),
 oP 4 (.move (.c (.int .i64 0)))])
 (.seq (.region 0 [oQ 5 (.load true 3 (.t 2)),
 oP 6 (.move (.t 1)),
 oQ 7 (.call 1 67 [(.t 5), (.t 6)]),
 oP 8 (.field false 1 1 (.t 7)),
 oP 4 (.move (.t 8))])
 (.ret))⟩
/-- almadraba/almadrabaref04.leastOf -/
def f72 : AFn := ⟨9, [.tmp 2],
 .seq (.region 0 [oQ 1 (.box (.t 0)),
 oP 2 (.move (.c (.int .i64 0)))])
 (.seq (.region 0 [oQ 3 (.load true 3 (.t 1)),
 oQ 4 (.load true 3 (.t 1)),
 oQ 5 (.call 1 73 [(.t 4)]),
 oP 6 (.idxSl 1 (.t 5) (.c (.int .i64 0))),
 oQ 7 (.load false 1 (.t 6)),
 oQ 8 (.call 1 52 [(.t 3), (.t 7)]),
 oP 2 (.move (.t 8))])
 (.ret))⟩
/-- almadraba/almadrabaref04.best -/
def f73 : AFn := ⟨51, [.tmp 2],
 .seq (.region 0 [oQ 1 (.box (.t 0)),
 oP 2 (.move (.c (.nils)))])
 (.seq (.region 0 [oQ 8 (.load true 3 (.t 1)),
 oQ 9 (.call 1 61 [(.t 8), (.c (.nils))]),
 oP 3 (.move (.t 9))])
 (.seq (.region 0 [oQ 10 (.load true 3 (.t 1)),
 oP 11 (.move (.t 3)),
 oP 12 (.idxSl 1 (.t 11) (.c (.int .i64 0))),
 oQ 13 (.load false 1 (.t 12)),
 oQ 14 (.call 1 52 [(.t 10), (.t 13)]),
 oP 4 (.move (.t 14))])
 (.seq (.seq (.region 0 [oP 5 (.move (.c (.int .i64 0)))])
 (.block 0 (.loop (.seq (.seq (.region 0 [oP 15 (.move (.t 5)),
 oP 16 (.move (.t 3)),
 oP 17 (.lenS (.t 16)),
 oP 18 (.bin .lss (.t 15) (.t 17))])
 (.cond (.t 18) (.skip)
 (.exit 0)))
 (.seq (.block 1 (.region 0 [oP 21 (.move (.t 4)),
 oQ 22 (.load true 3 (.t 1)),
 oP 23 (.move (.t 3)),
 oP 24 (.move (.t 5)),
 oP 25 (.idxSl 1 (.t 23) (.t 24)),
 oQ 26 (.load false 1 (.t 25)),
 oQ 27 (.call 1 52 [(.t 22), (.t 26)]),
 oP 28 (.minmax false (.t 21) [(.t 27)]),
 oP 4 (.move (.t 28))]))
 (.region 0 [oP 19 (.move (.t 5)),
 oP 20 (.bin .add (.t 19) (.c (.int .i64 1))),
 oP 5 (.move (.t 20))]))))))
 (.seq (.region 0 [oP 6 (.move (.c (.nils)))])
 (.seq (.seq (.region 0 [oP 7 (.move (.c (.int .i64 0)))])
 (.block 2 (.loop (.seq (.seq (.region 0 [oP 29 (.move (.t 7)),
 oP 30 (.move (.t 3)),
 oP 31 (.lenS (.t 30)),
 oP 32 (.bin .lss (.t 29) (.t 31))])
 (.cond (.t 32) (.skip)
 (.exit 2)))
 (.seq (.block 3 (.seq (.region 0 [oQ 35 (.load true 3 (.t 1)),
 oP 36 (.move (.t 3)),
 oP 37 (.move (.t 7)),
 oP 38 (.idxSl 1 (.t 36) (.t 37)),
 oQ 39 (.load false 1 (.t 38)),
 oQ 40 (.call 1 52 [(.t 35), (.t 39)]),
 oP 41 (.move (.t 4)),
 oP 42 (.bin .eql (.t 40) (.t 41))])
 (.cond (.t 42) (.region 0 [oP 43 (.move (.t 6)),
 oP 44 (.move (.t 3)),
 oP 45 (.move (.t 7)),
 oP 46 (.idxSl 1 (.t 44) (.t 45)),
 oQ 47 (.load false 1 (.t 46)),
 oQ 48 (.litS 1 1 [.nils] [(0, (.t 47))]),
 oQ 49 (.append false 1 24 (.t 43) (.t 48)),
 oP 6 (.move (.t 49))])
 (.skip))))
 (.region 0 [oP 33 (.move (.t 7)),
 oP 34 (.bin .add (.t 33) (.c (.int .i64 1))),
 oP 7 (.move (.t 34))]))))))
 (.seq (.region 0 [oP 50 (.move (.t 6)),
 oP 2 (.move (.t 50))])
 (.ret)))))))⟩
/-- almadraba/mesh.hasHole -/
def f74 : AFn := ⟨11, [.tmp 4],
 .seq (.region 0 [oQ 2 (.box (.t 0)),
 oP 4 (.move (.c (.bool false)))])
 (.seq (.region 0 [oP 5 (.move (.t 1)),
 oP 6 (.fieldAddr 1 (.t 2)),
 oQ 7 (.load false 1 (.t 6)),
 oP 8 (.lenS (.t 7)),
 oP 9 (.bin .sub (.t 8) (.c (.int .i64 1))),
 oQ 10 (.call 1 87 [(.t 5), (.c (.int .i64 0)), (.t 9)]),
 oP 4 (.move (.t 10))])
 (.ret))⟩
/-- (almadraba/mesh.plan).begins -/
def f75 : AFn := ⟨52, [.tmp 4],
 .seq (.region 0 [oQ 2 (.box (.t 0)),
 oQ 3 (.box (.t 1)),
 oP 4 (.move (.c (.int .i64 0)))])
 (.seq (.region 0 [oQ 5 (.alloc [.int .i64 0, .nils, .bool false]),
 oQ 6 (.alloc [.int .i64 0, .nils, .bool false])])
 (.seq (.seq (.region 0 [oQ 8 (.load true 3 (.t 2)),
 oP 9 (.mkFn 95 [(.t 8)] [])])
 (.block 0 (.rangeFunc (.t 9) [10] (.region 0 [oP 7 (.move (.t 10))])
 (.block 1 (.seq (.region 0 [oP 11 (.move (.t 7)),
 oP 12 (.idxSl 1 (.t 11) (.c (.int .i64 0))),
 oQ 13 (.load false 1 (.t 12)),
 oQ 14 (.load false 1 (.t 3)),
 oP 15 (.bin .eql (.t 13) (.t 14))])
 (.cond (.t 15) (.region 0 [oP 16 (.move (.t 7)),
 oQ 17 (.load true 3 (.t 2)),
 oP 18 (.move (.t 7)),
 oQ 19 (.call 1 71 [(.t 17), (.t 18)]),
 oQ 20 (.call 0 96 [(.t 5), (.t 16), (.t 19)])])
 (.region 0 [oP 21 (.move (.t 7)),
 oQ 22 (.load true 3 (.t 2)),
 oP 23 (.move (.t 7)),
 oQ 24 (.call 1 71 [(.t 22), (.t 23)]),
 oQ 25 (.call 0 96 [(.t 6), (.t 21), (.t 24)])])))))))
 (.seq (.block 2 (.seq (.region 0 [oP 27 (.fieldAddr 2 (.t 5)),
 oQ 28 (.load false 1 (.t 27)),
 oP 29 (.un .not (.t 28)),
 oP 30 (.move (.t 29)),
 oG 31 30 false (.fieldAddr 2 (.t 6)),
 ⟨(some 32), .load false 1 (.t 31), (some (30, false)), none, []⟩,
 oG 33 30 false (.move (.t 32)),
 oG 34 33 true (.fieldAddr 0 (.t 6)),
 ⟨(some 35), .load false 1 (.t 34), (some (33, true)), none, []⟩,
 oG 36 33 true (.fieldAddr 0 (.t 5)),
 ⟨(some 37), .load false 1 (.t 36), (some (33, true)), none, []⟩,
 oG 38 33 true (.bin .lss (.t 35) (.t 37)),
 oG 39 30 false (.pick (.t 33) (.t 38) (.c (.bool false))),
 oP 40 (.pick (.t 30) (.c (.bool true)) (.t 39)),
 oP 26 (.move (.t 40))])
 (.cond (.t 26) (.seq (.region 0 [oP 4 (.move (.c (.int .i64 2)))])
 (.ret))
 (.seq (.region 0 [oP 42 (.fieldAddr 2 (.t 6)),
 oQ 43 (.load false 1 (.t 42)),
 oP 44 (.un .not (.t 43)),
 oP 45 (.move (.t 44)),
 oG 46 45 false (.fieldAddr 0 (.t 5)),
 ⟨(some 47), .load false 1 (.t 46), (some (45, false)), none, []⟩,
 oG 48 45 false (.fieldAddr 0 (.t 6)),
 ⟨(some 49), .load false 1 (.t 48), (some (45, false)), none, []⟩,
 oG 50 45 false (.bin .lss (.t 47) (.t 49)),
 oP 51 (.pick (.t 45) (.c (.bool true)) (.t 50)),
 oP 41 (.move (.t 51))])
 (.cond (.t 41) (.seq (.region 0 [oP 4 (.move (.c (.int .i64 1)))])
 (.ret))
 (.skip))))))
 (.seq (.region 0 [oP 4 (.move (.c (.int .i64 3)))])
 (.ret)))))⟩
/-- almadraba/almadrabaref01.Known -/
def f76 : AFn := ⟨11, [.tmp 4],
 .seq (.region 0 [oP 4 (.move (.c (.int .i64 0)))])
 (.seq (.seq (.region 0 [oP 5 (.move (.t 0))])
 (.block 0 (.seq (.region 0 [oP 7 (.bin .eql (.t 5) (.c (.int .i64 0))),
 oP 6 (.move (.t 7))])
 (.cond (.t 6) (.seq (.region 0 [oP 4 (.move (.c (.int .i64 2)))])
 (.ret))
 (.seq (.region 0 [oP 9 (.move (.t 1)),
 oP 10 (.bin .eql (.t 5) (.t 9)),
 oP 8 (.move (.t 10))])
 (.cond (.t 8) (.seq (.region 0 [oP 4 (.move (.c (.int .i64 1)))])
 (.ret))
 (.skip)))))))
 (.seq (.region 0 [oP 4 (.move (.c (.int .i64 3)))])
 (.ret)))⟩
/-- (almadraba/mesh.plan).done -/
def f77 : AFn := ⟨11, [.tmp 4],
 .seq (.region 0 [oQ 2 (.box (.t 0)),
 oP 4 (.move (.c (.int .i64 0)))])
 (.seq (.region 0 [oQ 6 (.load true 3 (.t 2)),
 oP 7 (.move (.t 1)),
 oQ 8 (.call 1 64 [(.t 6), (.t 7)]),
 oQ 5 (.alloc [.int .i64 0, .int .i64 0, .int .i64 0, .int .i64 0, .int .i64 0, .int .i64 0]),
 ⟨none, .store 6 (.t 5) (.t 8), none, none, []⟩])
 (.seq (.region 0 [oQ 9 (.sliceA 6 1 (.t 5) none),
 oQ 10 (.call 1 97 [(.t 9)]),
 oP 4 (.move (.t 10))])
 (.ret)))⟩
/-- (almadraba/mesh.plan).rule -/
def f78 : AFn := ⟨21, [.tmp 2],
 .seq (.region 0 [oQ 1 (.box (.t 0)),
 oP 2 (.move (.c (.nils)))])
 (.seq (.region 0 [oP 3 (.move (.c (.nils)))])
 (.seq (.seq (.region 0 [oP 4 (.fieldAddr 0 (.t 1)),
 oP 5 (.fieldAddr 1 (.t 4)),
 oQ 6 (.load false 1 (.t 5)),
 oP 7 (.lenS (.t 6)),
 oP 8 (.move (.c (.int .i64 0)))])
 (.block 0 (.loop (.seq (.region 0 [oP 9 (.bin .lss (.t 8) (.t 7))])
 (.seq (.cond (.t 9) (.skip)
 (.exit 0))
 (.seq (.block 1 (.region 1 [oP 10 (.move (.t 3)),
 ⟨(some 11), .load true 3 (.t 1), none, none, [0]⟩,
 oP 12 (.move (.t 3)),
 ⟨(some 13), .call 1 93 [(.t 11), (.t 12)], none, none, [0]⟩,
 ⟨(some 14), .load true 3 (.t 1), none, none, [0]⟩,
 oP 15 (.mkFn 99 [(.t 14)] []),
 ⟨(some 16), .call 1 98 [(.t 13), (.t 15)], none, none, [0]⟩,
 oQ 17 (.litS 1 1 [.int .i64 0] [(0, (.t 16))]),
 ⟨(some 18), .append false 1 8 (.t 10) (.t 17), none, (some 0), []⟩,
 oP 3 (.move (.t 18))]))
 (.region 0 [oP 19 (.bin .add (.t 8) (.c (.int .i64 1))),
 oP 8 (.move (.t 19))])))))))
 (.seq (.region 0 [oP 20 (.move (.t 3)),
 oP 2 (.move (.t 20))])
 (.ret))))⟩
/-- almadraba/almadrabaref04.May -/
def f79 : AFn := ⟨37, [.tmp 6],
 .seq (.region 0 [oQ 3 (.box (.t 0)),
 oP 6 (.move (.c (.bool false)))])
 (.seq (.seq (.region 0 [oP 8 (.move (.t 1)),
 oP 9 (.move (.t 2)),
 oQ 10 (.call 1 100 [(.t 8), (.t 9)])])
 (.cond (.t 10) (.seq (.region 0 [oP 6 (.move (.c (.bool false)))])
 (.ret))
 (.skip)))
 (.seq (.seq (.region 0 [oP 7 (.move (.c (.int .i64 0)))])
 (.block 0 (.loop (.seq (.seq (.region 0 [oP 11 (.move (.t 7)),
 oP 12 (.fieldAddr 2 (.t 3)),
 oQ 13 (.load false 1 (.t 12)),
 oP 14 (.lenS (.t 13)),
 oP 15 (.bin .lss (.t 11) (.t 14))])
 (.cond (.t 15) (.skip)
 (.exit 0)))
 (.seq (.block 1 (.seq (.region 0 [oP 18 (.fieldAddr 2 (.t 3)),
 oQ 19 (.load false 1 (.t 18)),
 oP 20 (.move (.t 7)),
 oP 21 (.idxSl 2 (.t 19) (.t 20)),
 oP 22 (.fieldAddr 1 (.t 21)),
 oQ 23 (.load false 1 (.t 22)),
 oP 24 (.move (.t 2)),
 oP 25 (.bin .eql (.t 23) (.t 24)),
 oP 26 (.move (.t 25)),
 oG 27 26 true (.move (.t 1)),
 oG 28 26 true (.fieldAddr 2 (.t 3)),
 ⟨(some 29), .load false 1 (.t 28), (some (26, true)), none, []⟩,
 oG 30 26 true (.move (.t 7)),
 oG 31 26 true (.idxSl 2 (.t 29) (.t 30)),
 oG 32 26 true (.fieldAddr 0 (.t 31)),
 ⟨(some 33), .load false 1 (.t 32), (some (26, true)), none, []⟩,
 ⟨(some 34), .call 1 100 [(.t 27), (.t 33)], (some (26, true)), none, []⟩,
 oG 35 26 true (.un .not (.t 34)),
 oP 36 (.pick (.t 26) (.t 35) (.c (.bool false)))])
 (.cond (.t 36) (.seq (.region 0 [oP 6 (.move (.c (.bool false)))])
 (.ret))
 (.skip))))
 (.region 0 [oP 16 (.move (.t 7)),
 oP 17 (.bin .add (.t 16) (.c (.int .i64 1))),
 oP 7 (.move (.t 17))]))))))
 (.seq (.region 0 [oP 6 (.move (.c (.bool true)))])
 (.ret))))⟩
/-- almadraba/mesh.rivalsOf -/
def f80 : AFn := ⟨19, [.cell true 4 2],
 .seq (.region 0 [oQ 1 (.box (.t 0)),
 oQ 2 (.alloc [.int .i64 0, .nils, .nils, .nils])])
 (.seq (.region 0 [oQ 5 (.load true 3 (.t 1)),
 oP 6 (.build [.int .i64 0, .nils, .nils, .nils] [(0, 3, (.t 5))]),
 oQ 3 (.alloc [.int .i64 0, .nils, .nils, .nils]),
 ⟨none, .store 4 (.t 3) (.t 6), none, none, []⟩])
 (.seq (.seq (.region 0 [oQ 7 (.load true 3 (.t 1)),
 oP 8 (.mkFn 95 [(.t 7)] [])])
 (.block 0 (.rangeFunc (.t 8) [9] (.region 0 [oP 4 (.move (.t 9))])
 (.block 1 (.region 1 [oP 10 (.fieldAddr 3 (.t 3)),
 ⟨(some 11), .load false 1 (.t 10), none, none, [0]⟩,
 ⟨(some 12), .load true 3 (.t 1), none, none, [0]⟩,
 oP 13 (.move (.t 4)),
 ⟨(some 14), .call 1 64 [(.t 12), (.t 13)], none, none, [0]⟩,
 oQ 15 (.litS 6 1 [.int .i64 0, .int .i64 0, .int .i64 0, .int .i64 0, .int .i64 0, .int .i64 0] [(0, (.t 14))]),
 ⟨(some 16), .append false 6 48 (.t 11) (.t 15), none, (some 0), []⟩,
 oP 17 (.fieldAddr 3 (.t 3)),
 ⟨none, .store 1 (.t 17) (.t 16), none, none, []⟩])))))
 (.seq (.region 0 [oQ 18 (.load true 4 (.t 3)),
 ⟨none, .store 4 (.t 2) (.t 18), none, none, []⟩])
 (.ret))))⟩
/-- (almadraba/mesh.rivals).regret -/
def f81 : AFn := ⟨29, [.tmp 4],
 .seq (.region 0 [oQ 2 (.box (.t 0)),
 oP 4 (.move (.c (.int .i64 0)))])
 (.seq (.region 0 [oP 9 (.fieldAddr 0 (.t 2)),
 oQ 10 (.load true 3 (.t 9)),
 oP 11 (.move (.t 1)),
 oQ 12 (.call 1 64 [(.t 10), (.t 11)]),
 oQ 5 (.alloc [.int .i64 0, .int .i64 0, .int .i64 0, .int .i64 0, .int .i64 0, .int .i64 0]),
 ⟨none, .store 6 (.t 5) (.t 12), none, none, []⟩,
 oP 6 (.move (.c (.int .i64 0)))])
 (.seq (.seq (.region 0 [oP 13 (.fieldAddr 3 (.t 2)),
 oQ 14 (.load false 1 (.t 13)),
 oP 15 (.lenS (.t 14)),
 oP 16 (.move (.c (.int .i64 0)))])
 (.block 0 (.loop (.seq (.region 0 [oP 17 (.bin .lss (.t 16) (.t 15))])
 (.seq (.cond (.t 17) (.skip)
 (.exit 0))
 (.seq (.block 1 (.seq (.region 0 [oP 18 (.idxSl 6 (.t 14) (.t 16)),
 oQ 19 (.load true 6 (.t 18)),
 oQ 8 (.alloc [.int .i64 0, .int .i64 0, .int .i64 0, .int .i64 0, .int .i64 0, .int .i64 0]),
 ⟨none, .store 6 (.t 8) (.t 19), none, none, []⟩])
 (.region 0 [oP 20 (.move (.t 6)),
 oP 21 (.fieldAddr 0 (.t 2)),
 oQ 22 (.load true 3 (.t 21)),
 oQ 23 (.load true 6 (.t 5)),
 oQ 24 (.load true 6 (.t 8)),
 oQ 25 (.call 1 101 [(.t 22), (.t 23), (.t 24)]),
 oP 26 (.minmax true (.t 20) [(.t 25)]),
 oP 6 (.move (.t 26))])))
 (.region 0 [oP 27 (.bin .add (.t 16) (.c (.int .i64 1))),
 oP 16 (.move (.t 27))])))))))
 (.seq (.region 0 [oP 28 (.move (.t 6)),
 oP 4 (.move (.t 28))])
 (.ret))))⟩
/-- almadraba/almadrabaref04.RegretOf -/
def f82 : AFn := ⟨76, [.tmp 4],
 .seq (.region 0 [oQ 2 (.box (.t 0)),
 oP 4 (.move (.c (.int .i64 0)))])
 (.seq (.region 0 [oQ 13 (.load true 3 (.t 2)),
 oQ 14 (.call 1 61 [(.t 13), (.c (.nils))]),
 oP 5 (.move (.t 14))])
 (.seq (.region 0 [oQ 15 (.load true 3 (.t 2)),
 oP 16 (.move (.t 1)),
 oQ 17 (.call 1 66 [(.t 15), (.t 16)]),
 oP 6 (.move (.t 17))])
 (.seq (.region 0 [oP 7 (.move (.c (.int .i64 0)))])
 (.seq (.seq (.region 0 [oP 8 (.move (.c (.int .i64 0)))])
 (.block 0 (.loop (.seq (.seq (.region 0 [oP 18 (.move (.t 8)),
 oP 19 (.move (.t 5)),
 oP 20 (.lenS (.t 19)),
 oP 21 (.bin .lss (.t 18) (.t 20))])
 (.cond (.t 21) (.skip)
 (.exit 0)))
 (.seq (.block 1 (.seq (.region 0 [oQ 24 (.load true 3 (.t 2)),
 oP 25 (.move (.t 5)),
 oP 26 (.move (.t 8)),
 oP 27 (.idxSl 1 (.t 25) (.t 26)),
 oQ 28 (.load false 1 (.t 27)),
 oQ 29 (.call 1 66 [(.t 24), (.t 28)]),
 oP 9 (.move (.t 29))])
 (.seq (.region 0 [oP 10 (.move (.c (.int .i64 0)))])
 (.seq (.seq (.region 0 [oP 11 (.move (.c (.int .i64 0)))])
 (.block 2 (.loop (.seq (.seq (.region 0 [oP 30 (.move (.t 11)),
 oP 31 (.move (.t 6)),
 oP 32 (.lenS (.t 31)),
 oP 33 (.bin .lss (.t 30) (.t 32))])
 (.cond (.t 33) (.skip)
 (.exit 2)))
 (.seq (.block 3 (.seq (.region 0 [oP 36 (.fieldAddr 1 (.t 2)),
 oQ 37 (.load false 1 (.t 36)),
 oP 38 (.move (.t 11)),
 oP 39 (.idxSl 4 (.t 37) (.t 38)),
 oP 40 (.fieldAddr 1 (.t 39)),
 oP 41 (.fieldAddr 1 (.t 40)),
 oQ 42 (.load false 1 (.t 41)),
 oP 12 (.move (.t 42))])
 (.seq (.seq (.region 0 [oP 43 (.move (.t 6)),
 oP 44 (.move (.t 11)),
 oP 45 (.idxSl 1 (.t 43) (.t 44)),
 oQ 46 (.load false 1 (.t 45)),
 oP 47 (.move (.t 9)),
 oP 48 (.move (.t 11)),
 oP 49 (.idxSl 1 (.t 47) (.t 48)),
 oQ 50 (.load false 1 (.t 49)),
 oP 51 (.bin .lss (.t 46) (.t 50))])
 (.cond (.t 51) (.region 0 [oP 52 (.fieldAddr 1 (.t 2)),
 oQ 53 (.load false 1 (.t 52)),
 oP 54 (.move (.t 11)),
 oP 55 (.idxSl 4 (.t 53) (.t 54)),
 oP 56 (.fieldAddr 1 (.t 55)),
 oP 57 (.fieldAddr 0 (.t 56)),
 oQ 58 (.load false 1 (.t 57)),
 oP 12 (.move (.t 58))])
 (.skip)))
 (.region 0 [oP 59 (.move (.t 10)),
 oP 60 (.move (.t 12)),
 oP 61 (.move (.t 6)),
 oP 62 (.move (.t 11)),
 oP 63 (.idxSl 1 (.t 61) (.t 62)),
 oQ 64 (.load false 1 (.t 63)),
 oP 65 (.move (.t 9)),
 oP 66 (.move (.t 11)),
 oP 67 (.idxSl 1 (.t 65) (.t 66)),
 oQ 68 (.load false 1 (.t 67)),
 oP 69 (.bin .sub (.t 64) (.t 68)),
 oP 70 (.bin .mul (.t 60) (.t 69)),
 oP 71 (.bin .add (.t 59) (.t 70)),
 oP 10 (.move (.t 71))]))))
 (.region 0 [oP 34 (.move (.t 11)),
 oP 35 (.bin .add (.t 34) (.c (.int .i64 1))),
 oP 11 (.move (.t 35))]))))))
 (.region 0 [oP 72 (.move (.t 7)),
 oP 73 (.move (.t 10)),
 oP 74 (.minmax true (.t 72) [(.t 73)]),
 oP 7 (.move (.t 74))])))))
 (.region 0 [oP 22 (.move (.t 8)),
 oP 23 (.bin .add (.t 22) (.c (.int .i64 1))),
 oP 8 (.move (.t 23))]))))))
 (.seq (.region 0 [oP 75 (.move (.t 7)),
 oP 4 (.move (.t 75))])
 (.ret))))))⟩
/-- (almadraba/mesh.plan).without -/
def f83 : AFn := ⟨16, [.cell true 3 4],
 .seq (.region 0 [oQ 2 (.box (.t 0)),
 oQ 4 (.alloc [.int .i64 0, .nils, .nils])])
 (.seq (.region 0 [oP 5 (.fieldAddr 0 (.t 2)),
 oP 6 (.fieldAddr 2 (.t 5)),
 oQ 7 (.load false 1 (.t 6)),
 oQ 8 (.call 2 103 [(.t 7)]),
 oP 9 (.move (.t 1)),
 oP 10 (.move (.t 1)),
 oP 11 (.bin .add (.t 10) (.c (.int .i64 1))),
 oQ 12 (.call 0 102 [(.t 8), (.t 9), (.t 11)]),
 oP 13 (.fieldAddr 0 (.t 2)),
 oP 14 (.fieldAddr 2 (.t 13)),
 ⟨none, .store 1 (.t 14) (.t 12), none, none, []⟩])
 (.seq (.region 0 [oQ 15 (.load true 3 (.t 2)),
 ⟨none, .store 3 (.t 4) (.t 15), none, none, []⟩])
 (.ret)))⟩
/-- (*almadraba/mesh.least[int]).see -/
def f84 : AFn := ⟨24, [],
 .seq (.region 0 [oP 6 (.move (.t 0)),
 oP 7 (.nilCheck (.t 6)),
 oP 8 (.fieldAddr 2 (.t 7)),
 oQ 9 (.load false 1 (.t 8)),
 oP 10 (.un .not (.t 9)),
 oP 11 (.move (.t 10)),
 oG 12 11 false (.move (.t 2)),
 oG 13 11 false (.move (.t 0)),
 oG 14 11 false (.nilCheck (.t 13)),
 oG 15 11 false (.fieldAddr 0 (.t 14)),
 ⟨(some 16), .load false 1 (.t 15), (some (11, false)), none, []⟩,
 oG 17 11 false (.bin .lss (.t 12) (.t 16)),
 oP 18 (.pick (.t 11) (.c (.bool true)) (.t 17))])
 (.cond (.t 18) (.region 0 [oP 19 (.move (.t 0)),
 oP 20 (.move (.t 2)),
 oP 21 (.move (.t 1)),
 oP 22 (.build [.int .i64 0, .int .i64 0, .bool false] [(0, 1, (.t 20)), (1, 1, (.t 21)), (2, 1, (.c (.bool true)))]),
 oP 23 (.nilCheck (.t 19)),
 ⟨none, .store 3 (.t 23) (.t 22), none, none, []⟩])
 (.skip))⟩
/-- almadraba/almadrabalaw04.hole -/
def f85 : AFn := ⟨15, [.cell true 4 8],
 .seq (.region 0 [oQ 8 (.alloc [.int .i64 0, .int .i64 0, .int .i64 0, .int .i64 0])])
 (.seq (.region 0 [oP 9 (.move (.t 0)),
 oP 10 (.move (.t 1)),
 oP 11 (.move (.t 2)),
 oP 12 (.build [.int .i64 0, .int .i64 0] [(0, 1, (.t 10)), (1, 1, (.t 11))]),
 oP 13 (.move (.t 3)),
 oP 14 (.build [.int .i64 0, .int .i64 0, .int .i64 0, .int .i64 0] [(0, 1, (.t 9)), (1, 2, (.t 12)), (3, 1, (.t 13))]),
 ⟨none, .store 4 (.t 8) (.t 14), none, none, []⟩])
 (.ret))⟩
/-- almadraba/mesh.valid$1 -/
def f86 : AFn := ⟨26, [.tmp 2],
 .seq (.region 0 [oQ 1 (.box (.t 0)),
 oP 2 (.move (.c (.bool false)))])
 (.seq (.region 0 [oP 3 (.fieldAddr 0 (.t 1)),
 oQ 4 (.load false 1 (.t 3)),
 oQ 5 (.call 1 87 [(.t 4), (.c (.int .i64 0)), (.c (.int .i64 20))]),
 oP 6 (.move (.t 5)),
 oG 7 6 true (.fieldAddr 3 (.t 1)),
 ⟨(some 8), .load false 1 (.t 7), (some (6, true)), none, []⟩,
 ⟨(some 9), .call 1 87 [(.t 8), (.c (.int .i64 1)), (.c (.int .i64 9))], (some (6, true)), none, []⟩,
 oP 10 (.pick (.t 6) (.t 9) (.c (.bool false))),
 oP 11 (.move (.t 10)),
 oG 12 11 true (.fieldAddr 1 (.t 1)),
 oG 13 11 true (.fieldAddr 0 (.t 12)),
 ⟨(some 14), .load false 1 (.t 13), (some (11, true)), none, []⟩,
 oG 15 11 true (.fieldAddr 1 (.t 1)),
 oG 16 11 true (.fieldAddr 1 (.t 15)),
 ⟨(some 17), .load false 1 (.t 16), (some (11, true)), none, []⟩,
 ⟨(some 18), .call 1 87 [(.t 14), (.c (.int .i64 0)), (.t 17)], (some (11, true)), none, []⟩,
 oP 19 (.pick (.t 11) (.t 18) (.c (.bool false))),
 oP 20 (.move (.t 19)),
 oG 21 20 true (.fieldAddr 1 (.t 1)),
 oG 22 20 true (.fieldAddr 1 (.t 21)),
 ⟨(some 23), .load false 1 (.t 22), (some (20, true)), none, []⟩,
 oG 24 20 true (.bin .leq (.t 23) (.c (.int .i64 20))),
 oP 25 (.pick (.t 20) (.t 24) (.c (.bool false))),
 oP 2 (.move (.t 25))])
 (.ret))⟩
/-- almadraba/mesh.within -/
def f87 : AFn := ⟨15, [.tmp 6],
 .seq (.region 0 [oP 6 (.move (.c (.bool false)))])
 (.seq (.region 0 [oP 7 (.move (.t 1)),
 oP 8 (.move (.t 0)),
 oP 9 (.bin .leq (.t 7) (.t 8)),
 oP 10 (.move (.t 9)),
 oG 11 10 true (.move (.t 0)),
 oG 12 10 true (.move (.t 2)),
 oG 13 10 true (.bin .leq (.t 11) (.t 12)),
 oP 14 (.pick (.t 10) (.t 13) (.c (.bool false))),
 oP 6 (.move (.t 14))])
 (.ret))⟩
/-- almadraba/mesh.valid$2 -/
def f88 : AFn := ⟨14, [.tmp 3],
 .seq (.region 0 [oQ 2 (.box (.t 0)),
 oP 3 (.move (.c (.bool false)))])
 (.seq (.region 0 [oQ 4 (.load true 3 (.t 1)),
 oP 5 (.fieldAddr 0 (.t 2)),
 oQ 6 (.load false 1 (.t 5)),
 oQ 7 (.call 1 74 [(.t 4), (.t 6)]),
 oP 8 (.move (.t 7)),
 ⟨(some 9), .load true 3 (.t 1), (some (8, true)), none, []⟩,
 oG 10 8 true (.fieldAddr 1 (.t 2)),
 ⟨(some 11), .load false 1 (.t 10), (some (8, true)), none, []⟩,
 ⟨(some 12), .call 1 74 [(.t 9), (.t 11)], (some (8, true)), none, []⟩,
 oP 13 (.pick (.t 8) (.t 12) (.c (.bool false))),
 oP 3 (.move (.t 13))])
 (.ret))⟩
/-- almadraba/mesh.each[almadraba/api.MeshHole] -/
def f89 : AFn := ⟨9, [.tmp 4],
 .seq (.region 0 [oQ 3 (.box (.t 1)),
 oP 4 (.move (.c (.bool false)))])
 (.seq (.region 0 [oP 5 (.move (.t 0)),
 oP 6 (.mkFn 105 [] [(.t 3)]),
 oQ 7 (.call 3 104 [(.t 5), (.t 6)]),
 oP 8 (.un .not (.t 7)),
 oP 4 (.move (.t 8))])
 (.ret))⟩
/-- almadraba/mesh.each[almadraba/api.MeshPair] -/
def f90 : AFn := ⟨9, [.tmp 4],
 .seq (.region 0 [oQ 3 (.box (.t 1)),
 oP 4 (.move (.c (.bool false)))])
 (.seq (.region 0 [oP 5 (.move (.t 0)),
 oP 6 (.mkFn 107 [] [(.t 3)]),
 oQ 7 (.call 3 106 [(.t 5), (.t 6)]),
 oP 8 (.un .not (.t 7)),
 oP 4 (.move (.t 8))])
 (.ret))⟩
/-- (almadraba/mesh.plan).can -/
def f91 : AFn := ⟨6, [.cell false 1 2],
 .seq (.region 0 [oQ 1 (.box (.t 0)),
 oQ 2 (.alloc [.bool false])])
 (.seq (.seq (.region 0 [oQ 3 (.load true 3 (.t 1)),
 oP 4 (.mkFn 95 [(.t 3)] [])])
 (.block 0 (.rangeFunc (.t 4) [5] (.skip)
 (.block 1 (.seq (.region 0 [⟨none, .store 1 (.t 2) (.c (.bool true)), none, none, []⟩])
 (.ret))))))
 (.seq (.region 0 [⟨none, .store 1 (.t 2) (.c (.bool false)), none, none, []⟩])
 (.ret)))⟩
/-- slices.Contains[[]int,int] -/
def f92 : AFn := ⟨9, [.tmp 4],
 .seq (.region 0 [oP 4 (.move (.c (.bool false)))])
 (.seq (.region 0 [oP 5 (.move (.t 0)),
 oP 6 (.move (.t 1)),
 oQ 7 (.call 1 108 [(.t 5), (.t 6)]),
 oP 8 (.bin .geq (.t 7) (.c (.int .i64 0))),
 oP 4 (.move (.t 8))])
 (.ret))⟩
/-- (almadraba/mesh.plan).next -/
def f93 : AFn := ⟨34, [.tmp 4],
 .seq (.region 0 [oQ 2 (.box (.t 0)),
 oQ 3 (.box (.t 1)),
 oP 4 (.move (.c (.nils)))])
 (.seq (.region 0 [oP 5 (.move (.c (.nils)))])
 (.seq (.seq (.region 0 [oP 8 (.fieldAddr 0 (.t 2)),
 oP 9 (.fieldAddr 1 (.t 8)),
 oQ 10 (.load false 1 (.t 9)),
 oP 11 (.lenS (.t 10)),
 oP 12 (.move (.c (.int .i64 0)))])
 (.block 0 (.loop (.seq (.region 0 [oP 13 (.bin .lss (.t 12) (.t 11))])
 (.seq (.cond (.t 13) (.skip)
 (.exit 0))
 (.seq (.block 1 (.seq (.region 0 [oP 14 (.move (.t 12)),
 oQ 6 (.alloc [.int .i64 0]),
 ⟨none, .store 1 (.t 6) (.t 14), none, none, []⟩])
 (.seq (.region 0 [oP 15 (.mkFn 109 [] [(.t 6), (.t 3)]),
 oP 7 (.move (.t 15))])
 (.seq (.region 0 [oQ 16 (.load false 1 (.t 3)),
 oQ 17 (.load false 1 (.t 6)),
 oQ 18 (.call 1 92 [(.t 16), (.t 17)]),
 oP 19 (.un .not (.t 18)),
 oP 20 (.move (.t 19)),
 oG 21 20 true (.fieldAddr 0 (.t 2)),
 oG 22 20 true (.fieldAddr 2 (.t 21)),
 ⟨(some 23), .load false 1 (.t 22), (some (20, true)), none, []⟩,
 oG 24 20 true (.move (.t 7)),
 ⟨(some 25), .call 3 106 [(.t 23), (.t 24)], (some (20, true)), none, []⟩,
 oG 26 20 true (.un .not (.t 25)),
 oP 27 (.pick (.t 20) (.t 26) (.c (.bool false)))])
 (.cond (.t 27) (.region 0 [oP 28 (.move (.t 5)),
 oQ 29 (.load false 1 (.t 6)),
 oQ 30 (.litS 1 1 [.int .i64 0] [(0, (.t 29))]),
 oQ 31 (.append false 1 8 (.t 28) (.t 30)),
 oP 5 (.move (.t 31))])
 (.skip))))))
 (.region 0 [oP 32 (.bin .add (.t 12) (.c (.int .i64 1))),
 oP 12 (.move (.t 32))])))))))
 (.seq (.region 0 [oP 33 (.move (.t 5)),
 oP 4 (.move (.t 33))])
 (.ret))))⟩
/-- almadraba/mesh.soonest -/
def f94 : AFn := ⟨19, [.tmp 2],
 .seq (.region 0 [oP 2 (.move (.c (.int .i64 0)))])
 (.seq (.region 0 [oQ 3 (.alloc [.int .i64 0, .int .i64 0, .bool false])])
 (.seq (.seq (.region 0 [oP 6 (.move (.t 0)),
 oP 7 (.lenS (.t 6)),
 oP 8 (.move (.c (.int .i64 0)))])
 (.block 0 (.loop (.seq (.region 0 [oP 9 (.bin .lss (.t 8) (.t 7))])
 (.seq (.cond (.t 9) (.skip)
 (.exit 0))
 (.seq (.block 1 (.seq (.region 0 [oP 10 (.move (.t 8)),
 oP 11 (.idxSl 1 (.t 6) (.t 8)),
 oQ 12 (.load false 1 (.t 11)),
 oP 4 (.move (.t 10)),
 oP 5 (.move (.t 12))])
 (.region 0 [oP 13 (.move (.t 4)),
 oP 14 (.move (.t 5)),
 oQ 15 (.call 0 84 [(.t 3), (.t 13), (.t 14)])])))
 (.region 0 [oP 16 (.bin .add (.t 8) (.c (.int .i64 1))),
 oP 8 (.move (.t 16))])))))))
 (.seq (.region 0 [oP 17 (.fieldAddr 1 (.t 3)),
 oQ 18 (.load false 1 (.t 17)),
 oP 2 (.move (.t 18))])
 (.ret))))⟩
/-- (almadraba/mesh.plan).orders -/
def f95 : AFn := ⟨7, [],
 .seq (.region 0 [oQ 2 (.box (.t 0))])
 (.region 0 [oQ 4 (.load true 3 (.t 2)),
 oP 5 (.move (.t 1)),
 oQ 6 (.call 0 110 [(.t 4), (.c (.nils)), (.t 5)])])⟩
/-- (*almadraba/mesh.least[[]int]).see -/
def f96 : AFn := ⟨24, [],
 .seq (.region 0 [oP 6 (.move (.t 0)),
 oP 7 (.nilCheck (.t 6)),
 oP 8 (.fieldAddr 2 (.t 7)),
 oQ 9 (.load false 1 (.t 8)),
 oP 10 (.un .not (.t 9)),
 oP 11 (.move (.t 10)),
 oG 12 11 false (.move (.t 2)),
 oG 13 11 false (.move (.t 0)),
 oG 14 11 false (.nilCheck (.t 13)),
 oG 15 11 false (.fieldAddr 0 (.t 14)),
 ⟨(some 16), .load false 1 (.t 15), (some (11, false)), none, []⟩,
 oG 17 11 false (.bin .lss (.t 12) (.t 16)),
 oP 18 (.pick (.t 11) (.c (.bool true)) (.t 17))])
 (.cond (.t 18) (.region 0 [oP 19 (.move (.t 0)),
 oP 20 (.move (.t 2)),
 oP 21 (.move (.t 1)),
 oP 22 (.build [.int .i64 0, .nils, .bool false] [(0, 1, (.t 20)), (1, 1, (.t 21)), (2, 1, (.c (.bool true)))]),
 oP 23 (.nilCheck (.t 19)),
 ⟨none, .store 3 (.t 23) (.t 22), none, none, []⟩])
 (.skip))⟩
/-- slices.Max[[]int,int] -/
def f97 : AFn := ⟨25, [.tmp 2],
 .seq (.region 0 [oP 2 (.move (.c (.int .i64 0)))])
 (.seq (.seq (.region 0 [oP 5 (.move (.t 0)),
 oP 6 (.lenS (.t 5)),
 oP 7 (.bin .lss (.t 6) (.c (.int .i64 1)))])
 (.cond (.t 7) (.region 0 [oP 8 (.bad),
 ⟨none, .p (.bad), none, none, []⟩])
 (.skip)))
 (.seq (.region 0 [oP 9 (.move (.t 0)),
 oP 10 (.idxSl 1 (.t 9) (.c (.int .i64 0))),
 oQ 11 (.load false 1 (.t 10)),
 oP 3 (.move (.t 11))])
 (.seq (.seq (.region 0 [oP 4 (.move (.c (.int .i64 1)))])
 (.block 0 (.loop (.seq (.seq (.region 0 [oP 12 (.move (.t 4)),
 oP 13 (.move (.t 0)),
 oP 14 (.lenS (.t 13)),
 oP 15 (.bin .lss (.t 12) (.t 14))])
 (.cond (.t 15) (.skip)
 (.exit 0)))
 (.seq (.block 1 (.region 0 [oP 18 (.move (.t 3)),
 oP 19 (.move (.t 0)),
 oP 20 (.move (.t 4)),
 oP 21 (.idxSl 1 (.t 19) (.t 20)),
 oQ 22 (.load false 1 (.t 21)),
 oP 23 (.minmax true (.t 18) [(.t 22)]),
 oP 3 (.move (.t 23))]))
 (.region 0 [oP 16 (.move (.t 4)),
 oP 17 (.bin .add (.t 16) (.c (.int .i64 1))),
 oP 4 (.move (.t 17))]))))))
 (.seq (.region 0 [oP 24 (.move (.t 3)),
 oP 2 (.move (.t 24))])
 (.ret)))))⟩
/-- slices.MaxFunc[[]int,int] -/
def f98 : AFn := ⟨33, [.tmp 4],
 .seq (.region 0 [oP 4 (.move (.c (.int .i64 0)))])
 (.seq (.seq (.region 0 [oP 7 (.move (.t 0)),
 oP 8 (.lenS (.t 7)),
 oP 9 (.bin .lss (.t 8) (.c (.int .i64 1)))])
 (.cond (.t 9) (.region 0 [oP 10 (.bad),
 ⟨none, .p (.bad), none, none, []⟩])
 (.skip)))
 (.seq (.region 0 [oP 11 (.move (.t 0)),
 oP 12 (.idxSl 1 (.t 11) (.c (.int .i64 0))),
 oQ 13 (.load false 1 (.t 12)),
 oP 5 (.move (.t 13))])
 (.seq (.seq (.region 0 [oP 6 (.move (.c (.int .i64 1)))])
 (.block 0 (.loop (.seq (.seq (.region 0 [oP 14 (.move (.t 6)),
 oP 15 (.move (.t 0)),
 oP 16 (.lenS (.t 15)),
 oP 17 (.bin .lss (.t 14) (.t 16))])
 (.cond (.t 17) (.skip)
 (.exit 0)))
 (.seq (.block 1 (.seq (.region 0 [oP 20 (.move (.t 1)),
 oP 21 (.move (.t 0)),
 oP 22 (.move (.t 6)),
 oP 23 (.idxSl 1 (.t 21) (.t 22)),
 oQ 24 (.load false 1 (.t 23)),
 oP 25 (.move (.t 5)),
 oQ 26 (.callv true (.t 20) [(.t 24), (.t 25)]),
 oP 27 (.bin .gtr (.t 26) (.c (.int .i64 0)))])
 (.cond (.t 27) (.region 0 [oP 28 (.move (.t 0)),
 oP 29 (.move (.t 6)),
 oP 30 (.idxSl 1 (.t 28) (.t 29)),
 oQ 31 (.load false 1 (.t 30)),
 oP 5 (.move (.t 31))])
 (.skip))))
 (.region 0 [oP 18 (.move (.t 6)),
 oP 19 (.bin .add (.t 18) (.c (.int .i64 1))),
 oP 6 (.move (.t 19))]))))))
 (.seq (.region 0 [oP 32 (.move (.t 5)),
 oP 4 (.move (.t 32))])
 (.ret)))))⟩
/-- (almadraba/mesh.plan).compare -/
def f99 : AFn := ⟨34, [.tmp 6],
 .seq (.region 0 [oQ 3 (.box (.t 0)),
 oP 6 (.move (.c (.int .i64 0)))])
 (.seq (.region 2 [oP 9 (.fieldAddr 0 (.t 3)),
 oP 10 (.fieldAddr 1 (.t 9)),
 ⟨(some 11), .load false 1 (.t 10), none, none, [0, 1]⟩,
 oP 12 (.move (.t 1)),
 oP 13 (.idxSl 4 (.t 11) (.t 12)),
 ⟨(some 14), .load true 4 (.t 13), none, none, [0, 1]⟩,
 oP 15 (.fieldAddr 0 (.t 3)),
 oP 16 (.fieldAddr 1 (.t 15)),
 ⟨(some 17), .load false 1 (.t 16), none, none, [0, 1]⟩,
 oP 18 (.move (.t 2)),
 oP 19 (.idxSl 4 (.t 17) (.t 18)),
 ⟨(some 20), .load true 4 (.t 19), none, none, [0, 1]⟩,
 ⟨(some 7), .alloc [.int .i64 0, .int .i64 0, .int .i64 0, .int .i64 0], none, (some 0), []⟩,
 ⟨(some 8), .alloc [.int .i64 0, .int .i64 0, .int .i64 0, .int .i64 0], none, (some 1), []⟩,
 ⟨none, .store 4 (.t 7) (.t 14), none, (some 0), []⟩,
 ⟨none, .store 4 (.t 8) (.t 20), none, (some 1), []⟩])
 (.seq (.region 0 [oP 21 (.fieldAddr 1 (.t 7)),
 oP 22 (.fieldAddr 1 (.t 21)),
 oQ 23 (.load false 1 (.t 22)),
 oP 24 (.fieldAddr 3 (.t 8)),
 oQ 25 (.load false 1 (.t 24)),
 oP 26 (.bin .mul (.t 23) (.t 25)),
 oP 27 (.fieldAddr 1 (.t 8)),
 oP 28 (.fieldAddr 1 (.t 27)),
 oQ 29 (.load false 1 (.t 28)),
 oP 30 (.fieldAddr 3 (.t 7)),
 oQ 31 (.load false 1 (.t 30)),
 oP 32 (.bin .mul (.t 29) (.t 31)),
 oQ 33 (.call 1 111 [(.t 26), (.t 32)]),
 oP 6 (.move (.t 33))])
 (.ret)))⟩
/-- almadraba/almadrabaref01.In -/
def f100 : AFn := ⟨18, [.tmp 4],
 .seq (.region 0 [oP 4 (.move (.c (.bool false)))])
 (.seq (.seq (.region 0 [oP 5 (.move (.c (.int .i64 0)))])
 (.block 0 (.loop (.seq (.seq (.region 0 [oP 6 (.move (.t 5)),
 oP 7 (.move (.t 0)),
 oP 8 (.lenS (.t 7)),
 oP 9 (.bin .lss (.t 6) (.t 8))])
 (.cond (.t 9) (.skip)
 (.exit 0)))
 (.seq (.block 1 (.seq (.region 0 [oP 12 (.move (.t 0)),
 oP 13 (.move (.t 5)),
 oP 14 (.idxSl 1 (.t 12) (.t 13)),
 oQ 15 (.load false 1 (.t 14)),
 oP 16 (.move (.t 1)),
 oP 17 (.bin .eql (.t 15) (.t 16))])
 (.cond (.t 17) (.seq (.region 0 [oP 4 (.move (.c (.bool true)))])
 (.ret))
 (.skip))))
 (.region 0 [oP 10 (.move (.t 5)),
 oP 11 (.bin .add (.t 10) (.c (.int .i64 1))),
 oP 5 (.move (.t 11))]))))))
 (.seq (.region 0 [oP 4 (.move (.c (.bool false)))])
 (.ret)))⟩
/-- (almadraba/mesh.plan).above -/
def f101 : AFn := ⟨42, [.tmp 6],
 .seq (.region 0 [oQ 3 (.box (.t 0)),
 oQ 4 (.box (.t 1)),
 oQ 5 (.box (.t 2)),
 oP 6 (.move (.c (.int .i64 0)))])
 (.seq (.region 0 [oP 7 (.move (.c (.int .i64 0)))])
 (.seq (.seq (.region 0 [oP 11 (.fieldAddr 0 (.t 3)),
 oP 12 (.fieldAddr 1 (.t 11)),
 oQ 13 (.load false 1 (.t 12)),
 oP 14 (.lenS (.t 13)),
 oP 15 (.move (.c (.int .i64 0)))])
 (.block 0 (.loop (.seq (.region 0 [oP 16 (.bin .lss (.t 15) (.t 14))])
 (.seq (.cond (.t 16) (.skip)
 (.exit 0))
 (.seq (.block 1 (.seq (.region 0 [oP 17 (.move (.t 15)),
 oP 18 (.idxSl 4 (.t 13) (.t 15)),
 oQ 19 (.load true 4 (.t 18)),
 oQ 9 (.alloc [.int .i64 0, .int .i64 0, .int .i64 0, .int .i64 0]),
 oP 8 (.move (.t 17)),
 ⟨none, .store 4 (.t 9) (.t 19), none, none, []⟩])
 (.seq (.region 0 [oP 20 (.move (.t 8)),
 oP 21 (.idxArr 6 1 (.t 4) (.t 20)),
 oQ 22 (.load false 1 (.t 21)),
 oP 23 (.move (.t 8)),
 oP 24 (.idxArr 6 1 (.t 5) (.t 23)),
 oQ 25 (.load false 1 (.t 24)),
 oP 26 (.bin .sub (.t 22) (.t 25)),
 oP 10 (.move (.t 26))])
 (.region 0 [oP 27 (.move (.t 7)),
 oP 28 (.fieldAddr 1 (.t 9)),
 oP 29 (.fieldAddr 0 (.t 28)),
 oQ 30 (.load false 1 (.t 29)),
 oP 31 (.move (.t 10)),
 oP 32 (.bin .mul (.t 30) (.t 31)),
 oP 33 (.fieldAddr 1 (.t 9)),
 oP 34 (.fieldAddr 1 (.t 33)),
 oQ 35 (.load false 1 (.t 34)),
 oP 36 (.move (.t 10)),
 oP 37 (.bin .mul (.t 35) (.t 36)),
 oP 38 (.minmax true (.t 32) [(.t 37)]),
 oP 39 (.bin .add (.t 27) (.t 38)),
 oP 7 (.move (.t 39))]))))
 (.region 0 [oP 40 (.bin .add (.t 15) (.c (.int .i64 1))),
 oP 15 (.move (.t 40))])))))))
 (.seq (.region 0 [oP 41 (.move (.t 7)),
 oP 6 (.move (.t 41))])
 (.ret))))⟩
/-- slices.Delete[[]almadraba/api.MeshPair,almadraba/api.MeshPair] -/
def f102 : AFn := ⟨33, [.tmp 6],
 .seq (.region 0 [oP 6 (.move (.c (.nils)))])
 (.seq (.region 0 [oP 8 (.move (.t 0)),
 oP 9 (.move (.t 1)),
 oP 10 (.move (.t 2)),
 oP 11 (.move (.t 0)),
 oP 12 (.lenS (.t 11)),
 oP 13 (.sliceR 2 (.t 8) (some (.t 9)) (some (.t 10)) (some (.t 12)))])
 (.seq (.seq (.region 0 [oP 14 (.move (.t 1)),
 oP 15 (.move (.t 2)),
 oP 16 (.bin .eql (.t 14) (.t 15))])
 (.cond (.t 16) (.seq (.region 0 [oP 17 (.move (.t 0)),
 oP 6 (.move (.t 17))])
 (.ret))
 (.skip)))
 (.seq (.region 0 [oP 18 (.move (.t 0)),
 oP 19 (.lenS (.t 18)),
 oP 7 (.move (.t 19))])
 (.seq (.region 0 [oP 20 (.move (.t 0)),
 oP 21 (.move (.t 1)),
 oP 22 (.sliceR 2 (.t 20) none (some (.t 21)) none),
 oP 23 (.move (.t 0)),
 oP 24 (.move (.t 2)),
 oP 25 (.sliceR 2 (.t 23) (some (.t 24)) none none),
 oQ 26 (.w (.app 2 (.t 22) (.t 25) none)),
 oP 0 (.move (.t 26))])
 (.seq (.region 0 [oP 27 (.move (.t 0)),
 oP 28 (.move (.t 0)),
 oP 29 (.lenS (.t 28)),
 oP 30 (.move (.t 7)),
 oP 31 (.sliceR 2 (.t 27) (some (.t 29)) (some (.t 30)) none),
 ⟨none, .w (.clr 2 [.int .i64 0, .int .i64 0] (.t 31)), none, none, []⟩])
 (.seq (.region 0 [oP 32 (.move (.t 0)),
 oP 6 (.move (.t 32))])
 (.ret)))))))⟩
/-- slices.Clone[[]almadraba/api.MeshPair,almadraba/api.MeshPair] -/
def f103 : AFn := ⟨8, [.tmp 2],
 .seq (.region 0 [oP 2 (.move (.c (.nils)))])
 (.seq (.seq (.region 0 [oP 3 (.move (.t 0)),
 oP 4 (.isNil (.t 3) (.c (.nils)))])
 (.cond (.t 4) (.seq (.region 0 [oP 2 (.move (.c (.nils)))])
 (.ret))
 (.skip)))
 (.seq (.region 0 [oQ 5 (.buildSlice 2 0 [.int .i64 0, .int .i64 0] []),
 oP 6 (.move (.t 0)),
 oQ 7 (.append false 2 16 (.t 5) (.t 6)),
 oP 2 (.move (.t 7))])
 (.ret)))⟩
/-- slices.ContainsFunc[[]almadraba/api.MeshHole,almadraba/api.MeshHole] -/
def f104 : AFn := ⟨9, [.tmp 4],
 .seq (.region 0 [oP 4 (.move (.c (.bool false)))])
 (.seq (.region 0 [oP 5 (.move (.t 0)),
 oP 6 (.move (.t 1)),
 oQ 7 (.call 3 112 [(.t 5), (.t 6)]),
 oP 8 (.bin .geq (.t 7) (.c (.int .i64 0))),
 oP 4 (.move (.t 8))])
 (.ret))⟩
/-- almadraba/mesh.each[almadraba/api.MeshHole]$1 -/
def f105 : AFn := ⟨8, [.tmp 3],
 .seq (.region 0 [oQ 2 (.box (.t 0)),
 oP 3 (.move (.c (.bool false)))])
 (.seq (.region 0 [oQ 4 (.load false 1 (.t 1)),
 oQ 5 (.load true 4 (.t 2)),
 oQ 6 (.callv true (.t 4) [(.t 5)]),
 oP 7 (.un .not (.t 6)),
 oP 3 (.move (.t 7))])
 (.ret))⟩
/-- slices.ContainsFunc[[]almadraba/api.MeshPair,almadraba/api.MeshPair] -/
def f106 : AFn := ⟨9, [.tmp 4],
 .seq (.region 0 [oP 4 (.move (.c (.bool false)))])
 (.seq (.region 0 [oP 5 (.move (.t 0)),
 oP 6 (.move (.t 1)),
 oQ 7 (.call 3 113 [(.t 5), (.t 6)]),
 oP 8 (.bin .geq (.t 7) (.c (.int .i64 0))),
 oP 4 (.move (.t 8))])
 (.ret))⟩
/-- almadraba/mesh.each[almadraba/api.MeshPair]$1 -/
def f107 : AFn := ⟨8, [.tmp 3],
 .seq (.region 0 [oQ 2 (.box (.t 0)),
 oP 3 (.move (.c (.bool false)))])
 (.seq (.region 0 [oQ 4 (.load false 1 (.t 1)),
 oQ 5 (.load true 2 (.t 2)),
 oQ 6 (.callv true (.t 4) [(.t 5)]),
 oP 7 (.un .not (.t 6)),
 oP 3 (.move (.t 7))])
 (.ret))⟩
/-- slices.Index[[]int,int] -/
def f108 : AFn := ⟨19, [.tmp 4],
 .seq (.region 0 [oP 4 (.move (.c (.int .i64 0)))])
 (.seq (.seq (.region 0 [oP 6 (.move (.t 0)),
 oP 7 (.lenS (.t 6)),
 oP 8 (.move (.c (.int .i64 0)))])
 (.block 0 (.loop (.seq (.region 0 [oP 9 (.bin .lss (.t 8) (.t 7))])
 (.seq (.cond (.t 9) (.skip)
 (.exit 0))
 (.seq (.block 1 (.seq (.region 0 [oP 10 (.move (.t 8)),
 oP 5 (.move (.t 10))])
 (.seq (.region 0 [oP 11 (.move (.t 1)),
 oP 12 (.move (.t 0)),
 oP 13 (.move (.t 5)),
 oP 14 (.idxSl 1 (.t 12) (.t 13)),
 oQ 15 (.load false 1 (.t 14)),
 oP 16 (.bin .eql (.t 11) (.t 15))])
 (.cond (.t 16) (.seq (.region 0 [oP 17 (.move (.t 5)),
 oP 4 (.move (.t 17))])
 (.ret))
 (.skip)))))
 (.region 0 [oP 18 (.bin .add (.t 8) (.c (.int .i64 1))),
 oP 8 (.move (.t 18))])))))))
 (.seq (.region 0 [oP 4 (.move (.c (.int .i64 (-1))))])
 (.ret)))⟩
/-- (almadraba/mesh.plan).next$1 -/
def f109 : AFn := ⟨16, [.tmp 4],
 .seq (.region 0 [oQ 3 (.box (.t 0)),
 oP 4 (.move (.c (.bool false)))])
 (.seq (.region 0 [oP 5 (.fieldAddr 1 (.t 3)),
 oQ 6 (.load false 1 (.t 5)),
 oQ 7 (.load false 1 (.t 1)),
 oP 8 (.bin .eql (.t 6) (.t 7)),
 oP 9 (.move (.t 8)),
 ⟨(some 10), .load false 1 (.t 2), (some (9, true)), none, []⟩,
 oG 11 9 true (.fieldAddr 0 (.t 3)),
 ⟨(some 12), .load false 1 (.t 11), (some (9, true)), none, []⟩,
 ⟨(some 13), .call 1 92 [(.t 10), (.t 12)], (some (9, true)), none, []⟩,
 oG 14 9 true (.un .not (.t 13)),
 oP 15 (.pick (.t 9) (.t 14) (.c (.bool false))),
 oP 4 (.move (.t 15))])
 (.ret))⟩
/-- (almadraba/mesh.plan).longer -/
def f110 : AFn := ⟨41, [.tmp 6],
 .seq (.region 0 [oQ 3 (.box (.t 0)),
 oP 6 (.move (.c (.bool false)))])
 (.seq (.seq (.region 0 [oP 9 (.move (.t 1)),
 oP 10 (.lenS (.t 9)),
 oP 11 (.fieldAddr 0 (.t 3)),
 oP 12 (.fieldAddr 1 (.t 11)),
 oQ 13 (.load false 1 (.t 12)),
 oP 14 (.lenS (.t 13)),
 oP 15 (.bin .eql (.t 10) (.t 14))])
 (.cond (.t 15) (.seq (.region 0 [oP 16 (.move (.t 2)),
 oP 17 (.move (.t 1)),
 oQ 18 (.callv false (.t 16) [(.t 17)]),
 oP 6 (.move (.t 18))])
 (.ret))
 (.skip)))
 (.seq (.seq (.region 0 [oQ 19 (.load true 3 (.t 3)),
 oP 20 (.move (.t 1)),
 oQ 21 (.call 1 93 [(.t 19), (.t 20)]),
 oP 22 (.lenS (.t 21)),
 oP 23 (.move (.c (.int .i64 0)))])
 (.block 0 (.loop (.seq (.region 0 [oP 24 (.bin .lss (.t 23) (.t 22))])
 (.seq (.cond (.t 24) (.skip)
 (.exit 0))
 (.seq (.block 1 (.seq (.region 0 [oP 25 (.idxSl 1 (.t 21) (.t 23)),
 oQ 26 (.load false 1 (.t 25)),
 oP 8 (.move (.t 26))])
 (.seq (.region 1 [⟨(some 27), .load true 3 (.t 3), none, none, [0]⟩,
 oP 28 (.move (.t 1)),
 oP 29 (.move (.t 1)),
 oP 30 (.lenS (.t 29)),
 oP 31 (.move (.t 1)),
 oP 32 (.lenS (.t 31)),
 oP 33 (.slice3 1 (.t 28) (.t 30) (.t 32)),
 oP 34 (.move (.t 8)),
 oQ 35 (.litS 1 1 [.int .i64 0] [(0, (.t 34))]),
 ⟨(some 36), .append true 1 8 (.t 33) (.t 35), none, (some 0), []⟩,
 oP 37 (.move (.t 2)),
 oQ 38 (.call 0 110 [(.t 27), (.t 36), (.t 37)]),
 oP 39 (.un .not (.t 38))])
 (.cond (.t 39) (.seq (.region 0 [oP 6 (.move (.c (.bool false)))])
 (.ret))
 (.skip)))))
 (.region 0 [oP 40 (.bin .add (.t 23) (.c (.int .i64 1))),
 oP 23 (.move (.t 40))])))))))
 (.seq (.region 0 [oP 6 (.move (.c (.bool true)))])
 (.ret))))⟩
/-- cmp.Compare[int] -/
def f111 : AFn := ⟨20, [.tmp 4],
 .seq (.region 0 [oP 4 (.move (.c (.int .i64 0)))])
 (.seq (.region 0 [oP 7 (.move (.t 0)),
 oQ 8 (.call 1 114 [(.t 7)]),
 oP 5 (.move (.t 8))])
 (.seq (.region 0 [oP 9 (.move (.t 1)),
 oQ 10 (.call 1 114 [(.t 9)]),
 oP 6 (.move (.t 10))])
 (.seq (.seq (.region 0 [oP 11 (.move (.t 5))])
 (.cond (.t 11) (.seq (.seq (.region 0 [oP 12 (.move (.t 6))])
 (.cond (.t 12) (.seq (.region 0 [oP 4 (.move (.c (.int .i64 0)))])
 (.ret))
 (.skip)))
 (.seq (.region 0 [oP 4 (.move (.c (.int .i64 (-1))))])
 (.ret)))
 (.skip)))
 (.seq (.seq (.region 0 [oP 13 (.move (.t 6))])
 (.cond (.t 13) (.seq (.region 0 [oP 4 (.move (.c (.int .i64 1)))])
 (.ret))
 (.skip)))
 (.seq (.seq (.region 0 [oP 14 (.move (.t 0)),
 oP 15 (.move (.t 1)),
 oP 16 (.bin .lss (.t 14) (.t 15))])
 (.cond (.t 16) (.seq (.region 0 [oP 4 (.move (.c (.int .i64 (-1))))])
 (.ret))
 (.skip)))
 (.seq (.seq (.region 0 [oP 17 (.move (.t 0)),
 oP 18 (.move (.t 1)),
 oP 19 (.bin .gtr (.t 17) (.t 18))])
 (.cond (.t 19) (.seq (.region 0 [oP 4 (.move (.c (.int .i64 1)))])
 (.ret))
 (.skip)))
 (.seq (.region 0 [oP 4 (.move (.c (.int .i64 0)))])
 (.ret))))))))⟩
/-- slices.IndexFunc[[]almadraba/api.MeshHole,almadraba/api.MeshHole] -/
def f112 : AFn := ⟨19, [.tmp 4],
 .seq (.region 0 [oP 4 (.move (.c (.int .i64 0)))])
 (.seq (.seq (.region 0 [oP 6 (.move (.t 0)),
 oP 7 (.lenS (.t 6)),
 oP 8 (.move (.c (.int .i64 0)))])
 (.block 0 (.loop (.seq (.region 0 [oP 9 (.bin .lss (.t 8) (.t 7))])
 (.seq (.cond (.t 9) (.skip)
 (.exit 0))
 (.seq (.block 1 (.seq (.region 0 [oP 10 (.move (.t 8)),
 oP 5 (.move (.t 10))])
 (.seq (.region 0 [oP 11 (.move (.t 1)),
 oP 12 (.move (.t 0)),
 oP 13 (.move (.t 5)),
 oP 14 (.idxSl 4 (.t 12) (.t 13)),
 oQ 15 (.load true 4 (.t 14)),
 oQ 16 (.callv true (.t 11) [(.t 15)])])
 (.cond (.t 16) (.seq (.region 0 [oP 17 (.move (.t 5)),
 oP 4 (.move (.t 17))])
 (.ret))
 (.skip)))))
 (.region 0 [oP 18 (.bin .add (.t 8) (.c (.int .i64 1))),
 oP 8 (.move (.t 18))])))))))
 (.seq (.region 0 [oP 4 (.move (.c (.int .i64 (-1))))])
 (.ret)))⟩
/-- slices.IndexFunc[[]almadraba/api.MeshPair,almadraba/api.MeshPair] -/
def f113 : AFn := ⟨19, [.tmp 4],
 .seq (.region 0 [oP 4 (.move (.c (.int .i64 0)))])
 (.seq (.seq (.region 0 [oP 6 (.move (.t 0)),
 oP 7 (.lenS (.t 6)),
 oP 8 (.move (.c (.int .i64 0)))])
 (.block 0 (.loop (.seq (.region 0 [oP 9 (.bin .lss (.t 8) (.t 7))])
 (.seq (.cond (.t 9) (.skip)
 (.exit 0))
 (.seq (.block 1 (.seq (.region 0 [oP 10 (.move (.t 8)),
 oP 5 (.move (.t 10))])
 (.seq (.region 0 [oP 11 (.move (.t 1)),
 oP 12 (.move (.t 0)),
 oP 13 (.move (.t 5)),
 oP 14 (.idxSl 2 (.t 12) (.t 13)),
 oQ 15 (.load true 2 (.t 14)),
 oQ 16 (.callv true (.t 11) [(.t 15)])])
 (.cond (.t 16) (.seq (.region 0 [oP 17 (.move (.t 5)),
 oP 4 (.move (.t 17))])
 (.ret))
 (.skip)))))
 (.region 0 [oP 18 (.bin .add (.t 8) (.c (.int .i64 1))),
 oP 8 (.move (.t 18))])))))))
 (.seq (.region 0 [oP 4 (.move (.c (.int .i64 (-1))))])
 (.ret)))⟩
/-- cmp.isNaN[int] -/
def f114 : AFn := ⟨6, [.tmp 2],
 .seq (.region 0 [oP 2 (.move (.c (.bool false)))])
 (.seq (.region 0 [oP 3 (.move (.t 0)),
 oP 4 (.move (.t 0)),
 oP 5 (.bin .neq (.t 3) (.t 4)),
 oP 2 (.move (.t 5))])
 (.ret))⟩
end Go.Proofs.Ytekoplcnlhanbaa.T
