/-
The code of functions of the seat, as the abstract machine has it (printed by a tool of ours off the dump).
-/
import Derived.Test.YtaeijjfgfenfhaaTabA
namespace Go.Proofs.Ytaeijjfgfenfhaa.T
open Go Go.Am
/-- almadraba/almadrabalaw10.Same -/
def f28 : AFn := ⟨31, [.tmp 4],
 .seq (.region 0 [oQ 2 (.box (.t 0)),
 oQ 3 (.box (.t 1)),
 oP 4 (.move (.c (.bool false)))])
 (.seq (.seq (.region 0 [oP 6 (.fieldAddr 0 (.t 2)),
 oQ 7 (.load false 1 (.t 6)),
 oP 8 (.lenS (.t 7)),
 oP 9 (.fieldAddr 0 (.t 3)),
 oQ 10 (.load false 1 (.t 9)),
 oP 11 (.lenS (.t 10)),
 oP 12 (.bin .neq (.t 8) (.t 11))])
 (.cond (.t 12) (.seq (.region 0 [oP 4 (.move (.c (.bool false)))])
 (.ret))
 (.skip)))
 (.seq (.seq (.region 0 [oP 5 (.move (.c (.int .i64 0)))])
 (.block 0 (.loop (.seq (.seq (.region 0 [oP 13 (.move (.t 5)),
 oP 14 (.fieldAddr 0 (.t 2)),
 oQ 15 (.load false 1 (.t 14)),
 oP 16 (.lenS (.t 15)),
 oP 17 (.bin .lss (.t 13) (.t 16))])
 (.cond (.t 17) (.skip)
 (.exit 0)))
 (.seq (.block 1 (.seq (.region 0 [oP 20 (.fieldAddr 0 (.t 2)),
 oQ 21 (.load false 1 (.t 20)),
 oP 22 (.move (.t 5)),
 oP 23 (.idxSl 3 (.t 21) (.t 22)),
 oQ 24 (.load true 3 (.t 23)),
 oP 25 (.fieldAddr 0 (.t 3)),
 oQ 26 (.load false 1 (.t 25)),
 oP 27 (.move (.t 5)),
 oP 28 (.idxSl 3 (.t 26) (.t 27)),
 oQ 29 (.load true 3 (.t 28)),
 oP 30 (.eqS true [true, true, true] (.t 24) (.t 29))])
 (.cond (.t 30) (.seq (.region 0 [oP 4 (.move (.c (.bool false)))])
 (.ret))
 (.skip))))
 (.region 0 [oP 18 (.move (.t 5)),
 oP 19 (.bin .add (.t 18) (.c (.int .i64 1))),
 oP 5 (.move (.t 19))]))))))
 (.seq (.region 0 [oP 4 (.move (.c (.bool true)))])
 (.ret))))⟩
/-- almadraba/shares.From -/
def f29 : AFn := ⟨28, [.tmp 6, .tmp 7],
 .seq (.region 0 [oQ 3 (.box (.t 0)),
 oQ 4 (.box (.t 1)),
 oQ 5 (.box (.t 2)),
 oP 6 (.move (.c (.int .i64 0))),
 oP 7 (.move (.c (.int .i64 0)))])
 (.seq (.seq (.region 0 [oQ 10 (.load true 1 (.t 3)),
 oQ 11 (.load true 1 (.t 3)),
 oQ 12 (.load false 1 (.t 4)),
 oQ 13 (.call 1 70 [(.t 11), (.t 12)]),
 oP 14 (.move (.t 13)),
 ⟨(some 15), .load false 1 (.t 5), (some (14, true)), none, []⟩,
 ⟨(some 16), .call 1 63 [(.t 15)], (some (14, true)), none, []⟩,
 oP 17 (.pick (.t 14) (.t 16) (.c (.bool false))),
 oQ 18 (.call 1 62 [(.t 10), (.t 17), (.c (.nils))]),
 oP 8 (.move (.t 18))])
 (.seq (.region 0 [oP 19 (.move (.t 8)),
 oP 20 (.bin .neq (.t 19) (.c (.int .i64 0)))])
 (.cond (.t 20) (.seq (.region 0 [oP 21 (.move (.t 8)),
 oP 6 (.move (.c (.int .i64 0))),
 oP 7 (.move (.t 21))])
 (.ret))
 (.skip))))
 (.seq (.region 0 [oQ 22 (.load true 1 (.t 3)),
 oQ 23 (.call 1 64 [(.t 22)]),
 oQ 9 (.alloc [.nils]),
 ⟨none, .store 1 (.t 9) (.t 23), none, none, []⟩])
 (.seq (.region 0 [oP 24 (.mkFn 74 [] [(.t 9), (.t 4), (.t 5)]),
 oQ 25 (.call 3 73 [(.c (.int .i64 400)), (.t 24)]),
 oP 26 (.extract (.t 25) 0),
 oP 27 (.extract (.t 25) 1),
 oP 6 (.move (.t 26)),
 oP 7 (.move (.t 27))])
 (.ret))))⟩
/-- almadraba/almadrabaref10.From -/
def f30 : AFn := ⟨33, [.tmp 6, .tmp 7],
 .seq (.region 0 [oQ 3 (.box (.t 0)),
 oP 6 (.move (.c (.int .i64 0))),
 oP 7 (.move (.c (.int .i64 0)))])
 (.seq (.seq (.region 0 [oQ 10 (.load true 1 (.t 3)),
 oQ 11 (.load true 1 (.t 3)),
 oP 12 (.move (.t 1)),
 oQ 13 (.call 1 49 [(.t 11), (.t 12)]),
 oP 14 (.move (.t 13)),
 oG 15 14 true (.move (.t 2)),
 ⟨(some 16), .call 1 46 [(.t 15)], (some (14, true)), none, []⟩,
 oP 17 (.pick (.t 14) (.t 16) (.c (.bool false))),
 oQ 18 (.call 1 67 [(.t 10), (.t 17)]),
 oP 8 (.move (.t 18))])
 (.seq (.region 0 [oP 19 (.move (.t 8)),
 oP 20 (.bin .neq (.t 19) (.c (.int .i64 0)))])
 (.cond (.t 20) (.seq (.region 0 [oP 21 (.move (.t 8)),
 oP 6 (.move (.c (.int .i64 0))),
 oP 7 (.move (.t 21))])
 (.ret))
 (.skip))))
 (.seq (.seq (.region 0 [oP 9 (.move (.c (.int .i64 0)))])
 (.block 0 (.loop (.seq (.seq (.region 0 [oP 22 (.move (.t 9)),
 oP 23 (.bin .leq (.t 22) (.c (.int .i64 400)))])
 (.cond (.t 23) (.skip)
 (.exit 0)))
 (.seq (.block 1 (.seq (.region 0 [oQ 26 (.load true 1 (.t 3)),
 oP 27 (.move (.t 1)),
 oP 28 (.move (.t 9)),
 oQ 29 (.call 1 68 [(.t 26), (.t 27), (.t 28)]),
 oP 30 (.move (.t 2)),
 oP 31 (.bin .geq (.t 29) (.t 30))])
 (.cond (.t 31) (.seq (.region 0 [oP 32 (.move (.t 9)),
 oP 6 (.move (.t 32)),
 oP 7 (.move (.c (.int .i64 0)))])
 (.ret))
 (.skip))))
 (.region 0 [oP 24 (.move (.t 9)),
 oP 25 (.bin .add (.t 24) (.c (.int .i64 1))),
 oP 9 (.move (.t 25))]))))))
 (.seq (.region 0 [oP 6 (.move (.c (.int .i64 0))),
 oP 7 (.move (.c (.int .i64 3)))])
 (.ret))))⟩
/-- almadraba/shares.Falls -/
def f31 : AFn := ⟨22, [.tmp 4, .tmp 5],
 .seq (.region 0 [oQ 2 (.box (.t 0)),
 oQ 3 (.box (.t 1)),
 oP 4 (.move (.c (.int .i64 0))),
 oP 5 (.move (.c (.int .i64 0)))])
 (.seq (.seq (.region 0 [oQ 8 (.load true 1 (.t 2)),
 oQ 9 (.load true 1 (.t 2)),
 oQ 10 (.load false 1 (.t 3)),
 oQ 11 (.call 1 70 [(.t 9), (.t 10)]),
 oQ 12 (.call 1 62 [(.t 8), (.t 11), (.c (.nils))]),
 oP 6 (.move (.t 12))])
 (.seq (.region 0 [oP 13 (.move (.t 6)),
 oP 14 (.bin .neq (.t 13) (.c (.int .i64 0)))])
 (.cond (.t 14) (.seq (.region 0 [oP 15 (.move (.t 6)),
 oP 4 (.move (.c (.int .i64 0))),
 oP 5 (.move (.t 15))])
 (.ret))
 (.skip))))
 (.seq (.region 0 [oQ 16 (.load true 1 (.t 2)),
 oQ 17 (.call 1 64 [(.t 16)]),
 oQ 7 (.alloc [.nils]),
 ⟨none, .store 1 (.t 7) (.t 17), none, none, []⟩])
 (.seq (.region 0 [oP 18 (.mkFn 76 [] [(.t 7), (.t 3)]),
 oQ 19 (.call 3 73 [(.c (.int .i64 399)), (.t 18)]),
 oP 20 (.extract (.t 19) 0),
 oP 21 (.extract (.t 19) 1),
 oP 4 (.move (.t 20)),
 oP 5 (.move (.t 21))])
 (.ret))))⟩
/-- almadraba/almadrabaref10.Falls -/
def f32 : AFn := ⟨31, [.tmp 4, .tmp 5],
 .seq (.region 0 [oQ 2 (.box (.t 0)),
 oP 4 (.move (.c (.int .i64 0))),
 oP 5 (.move (.c (.int .i64 0)))])
 (.seq (.seq (.region 0 [oQ 8 (.load true 1 (.t 2)),
 oQ 9 (.load true 1 (.t 2)),
 oP 10 (.move (.t 1)),
 oQ 11 (.call 1 49 [(.t 9), (.t 10)]),
 oQ 12 (.call 1 67 [(.t 8), (.t 11)]),
 oP 6 (.move (.t 12))])
 (.seq (.region 0 [oP 13 (.move (.t 6)),
 oP 14 (.bin .neq (.t 13) (.c (.int .i64 0)))])
 (.cond (.t 14) (.seq (.region 0 [oP 15 (.move (.t 6)),
 oP 4 (.move (.c (.int .i64 0))),
 oP 5 (.move (.t 15))])
 (.ret))
 (.skip))))
 (.seq (.seq (.region 0 [oP 7 (.move (.c (.int .i64 0)))])
 (.block 0 (.loop (.seq (.seq (.region 0 [oP 16 (.move (.t 7)),
 oP 17 (.bin .lss (.t 16) (.c (.int .i64 400)))])
 (.cond (.t 17) (.skip)
 (.exit 0)))
 (.seq (.block 1 (.seq (.region 0 [oQ 20 (.load true 1 (.t 2)),
 oP 21 (.move (.t 1)),
 oP 22 (.move (.t 7)),
 oQ 23 (.call 1 68 [(.t 20), (.t 21), (.t 22)]),
 oQ 24 (.load true 1 (.t 2)),
 oP 25 (.move (.t 1)),
 oP 26 (.move (.t 7)),
 oP 27 (.bin .add (.t 26) (.c (.int .i64 1))),
 oQ 28 (.call 1 68 [(.t 24), (.t 25), (.t 27)]),
 oP 29 (.bin .gtr (.t 23) (.t 28))])
 (.cond (.t 29) (.seq (.region 0 [oP 30 (.move (.t 7)),
 oP 4 (.move (.t 30)),
 oP 5 (.move (.c (.int .i64 0)))])
 (.ret))
 (.skip))))
 (.region 0 [oP 18 (.move (.t 7)),
 oP 19 (.bin .add (.t 18) (.c (.int .i64 1))),
 oP 7 (.move (.t 19))]))))))
 (.seq (.region 0 [oP 4 (.move (.c (.int .i64 0))),
 oP 5 (.move (.c (.int .i64 3)))])
 (.ret))))⟩
/-- almadraba/shares.Exact -/
def f33 : AFn := ⟨20, [.cell true 2 4, .tmp 5],
 .seq (.region 0 [oQ 2 (.box (.t 0)),
 oQ 4 (.alloc [.int .i64 0, .int .i64 0]),
 oP 5 (.move (.c (.int .i64 0)))])
 (.seq (.seq (.region 0 [oQ 7 (.load true 1 (.t 2)),
 oQ 8 (.load true 1 (.t 2)),
 oP 9 (.move (.t 1)),
 oQ 10 (.call 1 70 [(.t 8), (.t 9)]),
 oQ 11 (.call 1 62 [(.t 7), (.t 10), (.c (.nils))]),
 oP 6 (.move (.t 11))])
 (.seq (.region 0 [oP 12 (.move (.t 6)),
 oP 13 (.bin .neq (.t 12) (.c (.int .i64 0)))])
 (.cond (.t 13) (.seq (.region 0 [oP 14 (.build [.int .i64 0, .int .i64 0] []),
 oP 15 (.move (.t 6)),
 ⟨none, .store 2 (.t 4) (.t 14), none, none, []⟩,
 oP 5 (.move (.t 15))])
 (.ret))
 (.skip))))
 (.seq (.region 0 [oQ 16 (.load true 1 (.t 2)),
 oQ 17 (.call 1 64 [(.t 16)]),
 oP 18 (.move (.t 1)),
 oQ 19 (.call 1 77 [(.t 17), (.t 18)]),
 ⟨none, .store 2 (.t 4) (.t 19), none, none, []⟩,
 oP 5 (.move (.c (.int .i64 0)))])
 (.ret)))⟩
/-- almadraba/almadrabaref10.Exact -/
def f34 : AFn := ⟨27, [.cell true 2 4, .tmp 5],
 .seq (.region 0 [oQ 2 (.box (.t 0)),
 oQ 4 (.alloc [.int .i64 0, .int .i64 0]),
 oP 5 (.move (.c (.int .i64 0)))])
 (.seq (.seq (.region 0 [oQ 9 (.load true 1 (.t 2)),
 oQ 10 (.load true 1 (.t 2)),
 oP 11 (.move (.t 1)),
 oQ 12 (.call 1 49 [(.t 10), (.t 11)]),
 oQ 13 (.call 1 67 [(.t 9), (.t 12)]),
 oP 6 (.move (.t 13))])
 (.seq (.region 0 [oP 14 (.move (.t 6)),
 oP 15 (.bin .neq (.t 14) (.c (.int .i64 0)))])
 (.cond (.t 15) (.seq (.region 0 [oP 16 (.build [.int .i64 0, .int .i64 0] []),
 oP 17 (.move (.t 6)),
 ⟨none, .store 2 (.t 4) (.t 16), none, none, []⟩,
 oP 5 (.move (.t 17))])
 (.ret))
 (.skip))))
 (.seq (.region 0 [oQ 19 (.load true 1 (.t 2)),
 oP 20 (.move (.t 1)),
 oQ 21 (.call 1 78 [(.t 19), (.t 20)]),
 oP 18 (.move (.t 21)),
 oP 22 (.extract (.t 18) 0),
 oP 23 (.extract (.t 18) 1),
 oP 7 (.move (.t 22)),
 oP 8 (.move (.t 23))])
 (.seq (.region 0 [oP 24 (.move (.t 7)),
 oP 25 (.move (.t 8)),
 oQ 26 (.call 1 58 [(.t 24), (.t 25)]),
 ⟨none, .store 2 (.t 4) (.t 26), none, none, []⟩,
 oP 5 (.move (.c (.int .i64 0)))])
 (.ret))))⟩
/-- almadraba/shares.Enough -/
def f35 : AFn := ⟨29, [.tmp 4, .tmp 5],
 .seq (.region 0 [oQ 2 (.box (.t 0)),
 oQ 3 (.box (.t 1)),
 oP 4 (.move (.c (.int .i64 0))),
 oP 5 (.move (.c (.int .i64 0)))])
 (.seq (.seq (.region 0 [oQ 8 (.load true 1 (.t 2)),
 oQ 9 (.load false 1 (.t 3)),
 oP 10 (.lenS (.t 9)),
 oP 11 (.fieldAddr 0 (.t 2)),
 oQ 12 (.load false 1 (.t 11)),
 oP 13 (.lenS (.t 12)),
 oP 14 (.bin .eql (.t 10) (.t 13)),
 oP 15 (.move (.t 14)),
 ⟨(some 16), .load false 1 (.t 3), (some (15, true)), none, []⟩,
 ⟨(some 17), .call 3 79 [(.t 16), (.c (.fn 63 [] []))], (some (15, true)), none, []⟩,
 oP 18 (.pick (.t 15) (.t 17) (.c (.bool false))),
 oQ 19 (.call 1 62 [(.t 8), (.t 18), (.c (.nils))]),
 oP 6 (.move (.t 19))])
 (.seq (.region 0 [oP 20 (.move (.t 6)),
 oP 21 (.bin .neq (.t 20) (.c (.int .i64 0)))])
 (.cond (.t 21) (.seq (.region 0 [oP 22 (.move (.t 6)),
 oP 4 (.move (.c (.int .i64 0))),
 oP 5 (.move (.t 22))])
 (.ret))
 (.skip))))
 (.seq (.region 0 [oQ 23 (.load true 1 (.t 2)),
 oQ 24 (.call 1 64 [(.t 23)]),
 oQ 7 (.alloc [.nils]),
 ⟨none, .store 1 (.t 7) (.t 24), none, none, []⟩])
 (.seq (.region 0 [oP 25 (.mkFn 80 [] [(.t 7), (.t 3)]),
 oQ 26 (.call 3 73 [(.c (.int .i64 400)), (.t 25)]),
 oP 27 (.extract (.t 26) 0),
 oP 28 (.extract (.t 26) 1),
 oP 4 (.move (.t 27)),
 oP 5 (.move (.t 28))])
 (.ret))))⟩
/-- almadraba/almadrabaref10.Enough -/
def f36 : AFn := ⟨25, [.tmp 4, .tmp 5],
 .seq (.region 0 [oQ 2 (.box (.t 0)),
 oP 4 (.move (.c (.int .i64 0))),
 oP 5 (.move (.c (.int .i64 0)))])
 (.seq (.seq (.region 0 [oQ 8 (.load true 1 (.t 2)),
 oQ 9 (.load true 1 (.t 2)),
 oP 10 (.move (.t 1)),
 oQ 11 (.call 1 56 [(.t 9), (.t 10)]),
 oQ 12 (.call 1 67 [(.t 8), (.t 11)]),
 oP 6 (.move (.t 12))])
 (.seq (.region 0 [oP 13 (.move (.t 6)),
 oP 14 (.bin .neq (.t 13) (.c (.int .i64 0)))])
 (.cond (.t 14) (.seq (.region 0 [oP 15 (.move (.t 6)),
 oP 4 (.move (.c (.int .i64 0))),
 oP 5 (.move (.t 15))])
 (.ret))
 (.skip))))
 (.seq (.seq (.region 0 [oP 7 (.move (.c (.int .i64 0)))])
 (.block 0 (.loop (.seq (.seq (.region 0 [oP 16 (.move (.t 7)),
 oP 17 (.bin .leq (.t 16) (.c (.int .i64 400)))])
 (.cond (.t 17) (.skip)
 (.exit 0)))
 (.seq (.block 1 (.seq (.region 0 [oQ 20 (.load true 1 (.t 2)),
 oP 21 (.move (.t 1)),
 oP 22 (.move (.t 7)),
 oQ 23 (.call 1 82 [(.t 20), (.t 21), (.t 22)])])
 (.cond (.t 23) (.seq (.region 0 [oP 24 (.move (.t 7)),
 oP 4 (.move (.t 24)),
 oP 5 (.move (.c (.int .i64 0)))])
 (.ret))
 (.skip))))
 (.region 0 [oP 18 (.move (.t 7)),
 oP 19 (.bin .add (.t 18) (.c (.int .i64 1))),
 oP 7 (.move (.t 19))]))))))
 (.seq (.region 0 [oP 4 (.move (.c (.int .i64 0))),
 oP 5 (.move (.c (.int .i64 3)))])
 (.ret))))⟩
/-- almadraba/almadrabalaw10.paid -/
def f37 : AFn := ⟨6, [.tmp 2],
 .seq (.region 0 [oP 2 (.move (.c (.nils)))])
 (.seq (.region 0 [oQ 3 (.buildSlice 3 0 [.int .i64 0, .int .i64 0, .int .i64 0] []),
 oP 4 (.move (.t 0)),
 oQ 5 (.append false 3 24 (.t 3) (.t 4)),
 oP 2 (.move (.t 5))])
 (.ret))⟩
/-- almadraba/shares.Wrong -/
def f38 : AFn := ⟨17, [.tmp 4, .tmp 5],
 .seq (.region 0 [oQ 2 (.box (.t 0)),
 oP 4 (.move (.c (.nils))),
 oP 5 (.move (.c (.int .i64 0)))])
 (.seq (.seq (.region 0 [oQ 7 (.load true 1 (.t 2)),
 oP 8 (.move (.t 1)),
 oQ 9 (.call 1 62 [(.t 7), (.c (.bool true)), (.t 8)]),
 oP 6 (.move (.t 9))])
 (.seq (.region 0 [oP 10 (.move (.t 6)),
 oP 11 (.bin .neq (.t 10) (.c (.int .i64 0)))])
 (.cond (.t 11) (.seq (.region 0 [oP 12 (.move (.t 6)),
 oP 4 (.move (.c (.nils))),
 oP 5 (.move (.t 12))])
 (.ret))
 (.skip))))
 (.seq (.region 0 [oQ 13 (.load true 1 (.t 2)),
 oQ 14 (.call 1 64 [(.t 13)]),
 oP 15 (.move (.t 1)),
 oQ 16 (.call 1 83 [(.t 14), (.t 15)]),
 oP 4 (.move (.t 16)),
 oP 5 (.move (.c (.int .i64 0)))])
 (.ret)))⟩
/-- almadraba/almadrabaref10.Wrong -/
def f39 : AFn := ⟨16, [.tmp 4, .tmp 5],
 .seq (.region 0 [oQ 2 (.box (.t 0)),
 oP 4 (.move (.c (.nils))),
 oP 5 (.move (.c (.int .i64 0)))])
 (.seq (.seq (.region 0 [oQ 7 (.load true 1 (.t 2)),
 oP 8 (.move (.t 1)),
 oQ 9 (.call 1 84 [(.t 7), (.t 8), (.c (.bool true))]),
 oP 6 (.move (.t 9))])
 (.seq (.region 0 [oP 10 (.move (.t 6)),
 oP 11 (.bin .neq (.t 10) (.c (.int .i64 0)))])
 (.cond (.t 11) (.seq (.region 0 [oP 12 (.move (.t 6)),
 oP 4 (.move (.c (.nils))),
 oP 5 (.move (.t 12))])
 (.ret))
 (.skip))))
 (.seq (.region 0 [oQ 13 (.load true 1 (.t 2)),
 oP 14 (.move (.t 1)),
 oQ 15 (.call 1 85 [(.t 13), (.t 14)]),
 oP 4 (.move (.t 15)),
 oP 5 (.move (.c (.int .i64 0)))])
 (.ret)))⟩
/-- almadraba/shares.Weights -/
def f40 : AFn := ⟨32, [.tmp 6, .tmp 7],
 .seq (.region 0 [oQ 3 (.box (.t 0)),
 oP 6 (.move (.c (.nils))),
 oP 7 (.move (.c (.int .i64 0)))])
 (.seq (.seq (.region 0 [oQ 10 (.load true 1 (.t 3)),
 oQ 11 (.load true 1 (.t 3)),
 oP 12 (.move (.t 1)),
 oQ 13 (.call 1 70 [(.t 11), (.t 12)]),
 oP 14 (.move (.t 13)),
 oG 15 14 true (.move (.t 1)),
 oG 16 14 true (.bin .neq (.t 15) (.c (.int .i64 0))),
 oP 17 (.pick (.t 14) (.t 16) (.c (.bool false))),
 oP 18 (.move (.t 2)),
 oQ 19 (.call 1 62 [(.t 10), (.t 17), (.t 18)]),
 oP 8 (.move (.t 19))])
 (.seq (.region 0 [oP 20 (.move (.t 8)),
 oP 21 (.bin .neq (.t 20) (.c (.int .i64 0)))])
 (.cond (.t 21) (.seq (.region 0 [oP 22 (.move (.t 8)),
 oP 6 (.move (.c (.nils))),
 oP 7 (.move (.t 22))])
 (.ret))
 (.skip))))
 (.seq (.region 0 [oQ 23 (.load true 1 (.t 3)),
 oQ 24 (.call 1 64 [(.t 23)]),
 oP 25 (.move (.t 1)),
 oP 26 (.move (.t 2)),
 oQ 27 (.call 1 86 [(.t 24), (.t 25), (.t 26)]),
 oP 9 (.move (.t 27))])
 (.seq (.seq (.region 0 [oP 28 (.move (.t 9)),
 oP 29 (.lenS (.t 28)),
 oP 30 (.bin .eql (.t 29) (.c (.int .i64 0)))])
 (.cond (.t 30) (.seq (.region 0 [oP 6 (.move (.c (.nils))),
 oP 7 (.move (.c (.int .i64 3)))])
 (.ret))
 (.skip)))
 (.seq (.region 0 [oP 31 (.move (.t 9)),
 oP 6 (.move (.t 31)),
 oP 7 (.move (.c (.int .i64 0)))])
 (.ret)))))⟩
/-- almadraba/almadrabaref10.Weights -/
def f41 : AFn := ⟨44, [.tmp 6, .tmp 7],
 .seq (.region 0 [oQ 3 (.box (.t 0)),
 oP 6 (.move (.c (.nils))),
 oP 7 (.move (.c (.int .i64 0)))])
 (.seq (.seq (.region 0 [oQ 11 (.load true 1 (.t 3)),
 oP 12 (.move (.t 2)),
 oQ 13 (.load true 1 (.t 3)),
 oP 14 (.move (.t 1)),
 oQ 15 (.call 1 49 [(.t 13), (.t 14)]),
 oP 16 (.move (.t 15)),
 oG 17 16 true (.move (.t 1)),
 oG 18 16 true (.bin .gtr (.t 17) (.c (.int .i64 0))),
 oP 19 (.pick (.t 16) (.t 18) (.c (.bool false))),
 oQ 20 (.call 1 84 [(.t 11), (.t 12), (.t 19)]),
 oP 8 (.move (.t 20))])
 (.seq (.region 0 [oP 21 (.move (.t 8)),
 oP 22 (.bin .neq (.t 21) (.c (.int .i64 0)))])
 (.cond (.t 22) (.seq (.region 0 [oP 23 (.move (.t 8)),
 oP 6 (.move (.c (.nils))),
 oP 7 (.move (.t 23))])
 (.ret))
 (.skip))))
 (.seq (.region 0 [oP 9 (.move (.c (.nils)))])
 (.seq (.seq (.region 0 [oP 10 (.move (.c (.int .i64 0)))])
 (.block 0 (.loop (.seq (.seq (.region 0 [oP 24 (.move (.t 10)),
 oP 25 (.bin .leq (.t 24) (.c (.int .i64 9)))])
 (.cond (.t 25) (.skip)
 (.exit 0)))
 (.seq (.block 1 (.seq (.region 0 [oQ 28 (.load true 1 (.t 3)),
 oP 29 (.move (.t 1)),
 oP 30 (.move (.t 10)),
 oQ 31 (.call 1 87 [(.t 28), (.t 29), (.t 30)]),
 oP 32 (.move (.t 2)),
 oQ 33 (.call 1 85 [(.t 31), (.t 32)]),
 oP 34 (.lenS (.t 33)),
 oP 35 (.bin .eql (.t 34) (.c (.int .i64 0)))])
 (.cond (.t 35) (.region 0 [oP 36 (.move (.t 9)),
 oP 37 (.move (.t 10)),
 oQ 38 (.litS 1 1 [.int .i64 0] [(0, (.t 37))]),
 oQ 39 (.append false 1 8 (.t 36) (.t 38)),
 oP 9 (.move (.t 39))])
 (.skip))))
 (.region 0 [oP 26 (.move (.t 10)),
 oP 27 (.bin .add (.t 26) (.c (.int .i64 1))),
 oP 10 (.move (.t 27))]))))))
 (.seq (.seq (.region 0 [oP 40 (.move (.t 9)),
 oP 41 (.lenS (.t 40)),
 oP 42 (.bin .eql (.t 41) (.c (.int .i64 0)))])
 (.cond (.t 42) (.seq (.region 0 [oP 6 (.move (.c (.nils))),
 oP 7 (.move (.c (.int .i64 3)))])
 (.ret))
 (.skip)))
 (.seq (.region 0 [oP 43 (.move (.t 9)),
 oP 6 (.move (.t 43)),
 oP 7 (.move (.c (.int .i64 0)))])
 (.ret))))))⟩
/-- almadraba/shares.Ask -/
def f42 : AFn := ⟨27, [.tmp 6, .tmp 7],
 .seq (.region 0 [oQ 3 (.box (.t 0)),
 oQ 4 (.box (.t 1)),
 oP 6 (.move (.c (.int .i64 0))),
 oP 7 (.move (.c (.int .i64 0)))])
 (.seq (.region 0 [oQ 12 (.load true 1 (.t 3)),
 oQ 13 (.load false 1 (.t 4)),
 oP 14 (.move (.t 2)),
 oQ 15 (.call 1 40 [(.t 12), (.t 13), (.t 14)]),
 oP 11 (.move (.t 15)),
 oP 16 (.extract (.t 11) 0),
 oP 17 (.extract (.t 11) 1),
 oQ 8 (.alloc [.nils]),
 ⟨none, .store 1 (.t 8) (.t 16), none, none, []⟩,
 oP 9 (.move (.t 17))])
 (.seq (.seq (.region 0 [oP 18 (.move (.t 9)),
 oP 19 (.bin .neq (.t 18) (.c (.int .i64 0)))])
 (.cond (.t 19) (.seq (.region 0 [oP 20 (.move (.t 9)),
 oP 6 (.move (.c (.int .i64 0))),
 oP 7 (.move (.t 20))])
 (.ret))
 (.skip)))
 (.seq (.region 0 [oQ 21 (.load true 1 (.t 3)),
 oQ 22 (.call 1 64 [(.t 21)]),
 oQ 10 (.alloc [.nils]),
 ⟨none, .store 1 (.t 10) (.t 22), none, none, []⟩])
 (.seq (.region 0 [oP 23 (.mkFn 88 [] [(.t 10), (.t 4), (.t 8)]),
 oQ 24 (.call 3 73 [(.c (.int .i64 400)), (.t 23)]),
 oP 25 (.extract (.t 24) 0),
 oP 26 (.extract (.t 24) 1),
 oP 6 (.move (.t 25)),
 oP 7 (.move (.t 26))])
 (.ret)))))⟩
/-- almadraba/almadrabaref10.Ask -/
def f43 : AFn := ⟨31, [.tmp 6, .tmp 7],
 .seq (.region 0 [oQ 3 (.box (.t 0)),
 oP 6 (.move (.c (.int .i64 0))),
 oP 7 (.move (.c (.int .i64 0)))])
 (.seq (.region 0 [oQ 12 (.load true 1 (.t 3)),
 oP 13 (.move (.t 1)),
 oP 14 (.move (.t 2)),
 oQ 15 (.call 1 41 [(.t 12), (.t 13), (.t 14)]),
 oP 11 (.move (.t 15)),
 oP 16 (.extract (.t 11) 0),
 oP 17 (.extract (.t 11) 1),
 oP 8 (.move (.t 16)),
 oP 9 (.move (.t 17))])
 (.seq (.seq (.region 0 [oP 18 (.move (.t 9)),
 oP 19 (.bin .neq (.t 18) (.c (.int .i64 0)))])
 (.cond (.t 19) (.seq (.region 0 [oP 20 (.move (.t 9)),
 oP 6 (.move (.c (.int .i64 0))),
 oP 7 (.move (.t 20))])
 (.ret))
 (.skip)))
 (.seq (.seq (.region 0 [oP 10 (.move (.c (.int .i64 0)))])
 (.block 0 (.loop (.seq (.seq (.region 0 [oP 21 (.move (.t 10)),
 oP 22 (.bin .leq (.t 21) (.c (.int .i64 400)))])
 (.cond (.t 22) (.skip)
 (.exit 0)))
 (.seq (.block 1 (.seq (.region 0 [oQ 25 (.load true 1 (.t 3)),
 oP 26 (.move (.t 1)),
 oP 27 (.move (.t 8)),
 oP 28 (.move (.t 10)),
 oQ 29 (.call 1 90 [(.t 25), (.t 26), (.t 27), (.t 28)])])
 (.cond (.t 29) (.seq (.region 0 [oP 30 (.move (.t 10)),
 oP 6 (.move (.t 30)),
 oP 7 (.move (.c (.int .i64 0)))])
 (.ret))
 (.skip))))
 (.region 0 [oP 23 (.move (.t 10)),
 oP 24 (.bin .add (.t 23) (.c (.int .i64 1))),
 oP 10 (.move (.t 24))]))))))
 (.seq (.region 0 [oP 6 (.move (.c (.int .i64 0))),
 oP 7 (.move (.c (.int .i64 3)))])
 (.ret)))))⟩
/-- almadraba/almadrabalaw10.SamePays -/
def f44 : AFn := ⟨26, [.tmp 4],
 .seq (.region 0 [oP 4 (.move (.c (.bool false)))])
 (.seq (.seq (.region 0 [oP 6 (.move (.t 0)),
 oP 7 (.lenS (.t 6)),
 oP 8 (.move (.t 1)),
 oP 9 (.lenS (.t 8)),
 oP 10 (.bin .neq (.t 7) (.t 9))])
 (.cond (.t 10) (.seq (.region 0 [oP 4 (.move (.c (.bool false)))])
 (.ret))
 (.skip)))
 (.seq (.seq (.region 0 [oP 5 (.move (.c (.int .i64 0)))])
 (.block 0 (.loop (.seq (.seq (.region 0 [oP 11 (.move (.t 5)),
 oP 12 (.move (.t 0)),
 oP 13 (.lenS (.t 12)),
 oP 14 (.bin .lss (.t 11) (.t 13))])
 (.cond (.t 14) (.skip)
 (.exit 0)))
 (.seq (.block 1 (.seq (.region 0 [oP 17 (.move (.t 0)),
 oP 18 (.move (.t 5)),
 oP 19 (.idxSl 3 (.t 17) (.t 18)),
 oQ 20 (.load true 3 (.t 19)),
 oP 21 (.move (.t 1)),
 oP 22 (.move (.t 5)),
 oP 23 (.idxSl 3 (.t 21) (.t 22)),
 oQ 24 (.load true 3 (.t 23)),
 oP 25 (.eqS true [true, true, true] (.t 20) (.t 24))])
 (.cond (.t 25) (.seq (.region 0 [oP 4 (.move (.c (.bool false)))])
 (.ret))
 (.skip))))
 (.region 0 [oP 15 (.move (.t 5)),
 oP 16 (.bin .add (.t 15) (.c (.int .i64 1))),
 oP 5 (.move (.t 16))]))))))
 (.seq (.region 0 [oP 4 (.move (.c (.bool true)))])
 (.ret))))⟩
/-- almadraba/almadrabalaw10.ready -/
def f45 : AFn := ⟨11, [.tmp 2],
 .seq (.region 0 [oQ 1 (.box (.t 0)),
 oP 2 (.move (.c (.bool false)))])
 (.seq (.region 0 [oQ 3 (.load true 1 (.t 1)),
 oQ 4 (.call 1 16 [(.t 3)]),
 oP 5 (.un .not (.t 4)),
 oP 6 (.move (.t 5)),
 ⟨(some 7), .load true 1 (.t 1), (some (6, true)), none, []⟩,
 ⟨(some 8), .call 1 20 [(.t 7)], (some (6, true)), none, []⟩,
 oG 9 6 true (.bin .eql (.t 8) (.c (.int .i64 0))),
 oP 10 (.pick (.t 6) (.t 9) (.c (.bool false))),
 oP 2 (.move (.t 10))])
 (.ret))⟩
/-- almadraba/almadrabaref10.IsPence -/
def f46 : AFn := ⟨5, [.tmp 2],
 .seq (.region 0 [oP 2 (.move (.c (.bool false)))])
 (.seq (.region 0 [oP 3 (.move (.t 0)),
 oQ 4 (.call 1 61 [(.t 3), (.c (.int .i64 0)), (.c (.int .i64 400))]),
 oP 2 (.move (.t 4))])
 (.ret))⟩
/-- almadraba/almadrabalaw10.gets -/
def f47 : AFn := ⟨39, [.tmp 4, .tmp 5],
 .seq (.region 0 [oQ 2 (.box (.t 0)),
 oP 4 (.move (.c (.nils))),
 oP 5 (.move (.c (.bool false)))])
 (.seq (.region 0 [oQ 10 (.load true 1 (.t 2)),
 oP 11 (.move (.t 1)),
 oQ 12 (.call 1 21 [(.t 10), (.t 11)]),
 oP 9 (.move (.t 12)),
 oP 13 (.extract (.t 9) 0),
 oP 14 (.extract (.t 9) 1),
 oP 6 (.move (.t 13)),
 oP 7 (.move (.t 14))])
 (.seq (.seq (.region 0 [oP 15 (.move (.t 7)),
 oP 16 (.bin .neq (.t 15) (.c (.int .i64 0))),
 oP 17 (.move (.t 16)),
 oG 18 17 false (.move (.t 6)),
 oG 19 17 false (.lenS (.t 18)),
 oG 20 17 false (.fieldAddr 0 (.t 2)),
 ⟨(some 21), .load false 1 (.t 20), (some (17, false)), none, []⟩,
 oG 22 17 false (.lenS (.t 21)),
 oG 23 17 false (.bin .neq (.t 19) (.t 22)),
 oP 24 (.pick (.t 17) (.c (.bool true)) (.t 23))])
 (.cond (.t 24) (.seq (.region 0 [oP 4 (.move (.c (.nils))),
 oP 5 (.move (.c (.bool false)))])
 (.ret))
 (.skip)))
 (.seq (.seq (.region 0 [oP 8 (.move (.c (.int .i64 0)))])
 (.block 0 (.loop (.seq (.seq (.region 0 [oP 25 (.move (.t 8)),
 oP 26 (.move (.t 6)),
 oP 27 (.lenS (.t 26)),
 oP 28 (.bin .lss (.t 25) (.t 27))])
 (.cond (.t 28) (.skip)
 (.exit 0)))
 (.seq (.block 1 (.seq (.region 0 [oP 31 (.move (.t 6)),
 oP 32 (.move (.t 8)),
 oP 33 (.idxSl 1 (.t 31) (.t 32)),
 oQ 34 (.load false 1 (.t 33)),
 oP 35 (.move (.t 1)),
 oQ 36 (.call 1 51 [(.t 34), (.c (.int .i64 0)), (.t 35)]),
 oP 37 (.un .not (.t 36))])
 (.cond (.t 37) (.seq (.region 0 [oP 4 (.move (.c (.nils))),
 oP 5 (.move (.c (.bool false)))])
 (.ret))
 (.skip))))
 (.region 0 [oP 29 (.move (.t 8)),
 oP 30 (.bin .add (.t 29) (.c (.int .i64 1))),
 oP 8 (.move (.t 30))]))))))
 (.seq (.region 0 [oP 38 (.move (.t 6)),
 oP 4 (.move (.t 38)),
 oP 5 (.move (.c (.bool true)))])
 (.ret)))))⟩
/-- almadraba/almadrabaref10.Below -/
def f48 : AFn := ⟨27, [.tmp 4],
 .seq (.region 0 [oQ 2 (.box (.t 0)),
 oP 4 (.move (.c (.nils)))])
 (.seq (.region 0 [oP 5 (.move (.c (.nils)))])
 (.seq (.seq (.region 0 [oP 6 (.move (.c (.int .i64 1)))])
 (.block 0 (.loop (.seq (.seq (.region 0 [oP 7 (.move (.t 6)),
 oP 8 (.fieldAddr 0 (.t 2)),
 oQ 9 (.load false 1 (.t 8)),
 oP 10 (.lenS (.t 9)),
 oP 11 (.bin .lss (.t 7) (.t 10))])
 (.cond (.t 11) (.skip)
 (.exit 0)))
 (.seq (.block 1 (.seq (.region 0 [oP 14 (.fieldAddr 0 (.t 2)),
 oQ 15 (.load false 1 (.t 14)),
 oP 16 (.move (.t 6)),
 oP 17 (.idxSl 3 (.t 15) (.t 16)),
 oP 18 (.fieldAddr 0 (.t 17)),
 oQ 19 (.load false 1 (.t 18)),
 oP 20 (.move (.t 1)),
 oP 21 (.bin .eql (.t 19) (.t 20))])
 (.cond (.t 21) (.region 0 [oP 22 (.move (.t 5)),
 oP 23 (.move (.t 6)),
 oQ 24 (.litS 1 1 [.int .i64 0] [(0, (.t 23))]),
 oQ 25 (.append false 1 8 (.t 22) (.t 24)),
 oP 5 (.move (.t 25))])
 (.skip))))
 (.region 0 [oP 12 (.move (.t 6)),
 oP 13 (.bin .add (.t 12) (.c (.int .i64 1))),
 oP 6 (.move (.t 13))]))))))
 (.seq (.region 0 [oP 26 (.move (.t 5)),
 oP 4 (.move (.t 26))])
 (.ret))))⟩
/-- almadraba/almadrabaref10.IsNode -/
def f49 : AFn := ⟨11, [.tmp 4],
 .seq (.region 0 [oQ 2 (.box (.t 0)),
 oP 4 (.move (.c (.bool false)))])
 (.seq (.region 0 [oP 5 (.move (.t 1)),
 oP 6 (.fieldAddr 0 (.t 2)),
 oQ 7 (.load false 1 (.t 6)),
 oP 8 (.lenS (.t 7)),
 oP 9 (.bin .sub (.t 8) (.c (.int .i64 1))),
 oQ 10 (.call 1 61 [(.t 5), (.c (.int .i64 0)), (.t 9)]),
 oP 4 (.move (.t 10))])
 (.ret))⟩
/-- almadraba/almadrabaref10.SumOf -/
def f50 : AFn := ⟨29, [.tmp 4],
 .seq (.region 0 [oQ 2 (.box (.t 0)),
 oP 4 (.move (.c (.int .i64 0)))])
 (.seq (.region 0 [oP 5 (.move (.c (.int .i64 0)))])
 (.seq (.region 0 [oQ 8 (.load true 1 (.t 2)),
 oP 9 (.move (.t 1)),
 oQ 10 (.call 1 48 [(.t 8), (.t 9)]),
 oP 6 (.move (.t 10))])
 (.seq (.seq (.region 0 [oP 7 (.move (.c (.int .i64 0)))])
 (.block 0 (.loop (.seq (.seq (.region 0 [oP 11 (.move (.t 7)),
 oP 12 (.move (.t 6)),
 oP 13 (.lenS (.t 12)),
 oP 14 (.bin .lss (.t 11) (.t 13))])
 (.cond (.t 14) (.skip)
 (.exit 0)))
 (.seq (.block 1 (.region 0 [oP 17 (.move (.t 5)),
 oP 18 (.fieldAddr 0 (.t 2)),
 oQ 19 (.load false 1 (.t 18)),
 oP 20 (.move (.t 6)),
 oP 21 (.move (.t 7)),
 oP 22 (.idxSl 1 (.t 20) (.t 21)),
 oQ 23 (.load false 1 (.t 22)),
 oP 24 (.idxSl 3 (.t 19) (.t 23)),
 oP 25 (.fieldAddr 1 (.t 24)),
 oQ 26 (.load false 1 (.t 25)),
 oP 27 (.bin .add (.t 17) (.t 26)),
 oP 5 (.move (.t 27))]))
 (.region 0 [oP 15 (.move (.t 7)),
 oP 16 (.bin .add (.t 15) (.c (.int .i64 1))),
 oP 7 (.move (.t 16))]))))))
 (.seq (.region 0 [oP 28 (.move (.t 5)),
 oP 4 (.move (.t 28))])
 (.ret)))))⟩
/-- almadraba/almadrabaref01.Within -/
def f51 : AFn := ⟨15, [.tmp 6],
 .seq (.region 0 [oP 6 (.move (.c (.bool false)))])
 (.seq (.region 0 [oP 7 (.move (.t 1)),
 oP 8 (.move (.t 0)),
 oP 9 (.bin .leq (.t 7) (.t 8)),
 oP 10 (.move (.t 9)),
 oG 11 10 true (.move (.t 0)),
 oG 12 10 true (.move (.t 2)),
 oG 13 10 true (.bin .leq (.t 11) (.t 12)),
 oP 14 (.pick (.t 10) (.t 13) (.c (.bool false))),
 oP 6 (.move (.t 14))])
 (.ret))⟩
/-- almadraba/almadrabalaw10.IsFirst -/
def f52 : AFn := ⟨51, [.tmp 4],
 .seq (.region 0 [oQ 2 (.box (.t 0)),
 oP 4 (.move (.c (.bool false)))])
 (.seq (.block 0 (.loop (.seq (.seq (.region 0 [oP 8 (.move (.t 1)),
 oP 9 (.bin .gtr (.t 8) (.c (.int .i64 0)))])
 (.cond (.t 9) (.skip)
 (.exit 0)))
 (.block 1 (.seq (.region 0 [oQ 10 (.load true 1 (.t 2)),
 oP 11 (.fieldAddr 0 (.t 2)),
 oQ 12 (.load false 1 (.t 11)),
 oP 13 (.move (.t 1)),
 oP 14 (.idxSl 3 (.t 12) (.t 13)),
 oP 15 (.fieldAddr 0 (.t 14)),
 oQ 16 (.load false 1 (.t 15)),
 oQ 17 (.call 1 48 [(.t 10), (.t 16)]),
 oP 5 (.move (.t 17))])
 (.seq (.region 0 [oP 6 (.move (.c (.int .i64 (-1))))])
 (.seq (.seq (.region 0 [oP 7 (.move (.c (.int .i64 0)))])
 (.block 2 (.loop (.seq (.seq (.region 0 [oP 18 (.move (.t 7)),
 oP 19 (.move (.t 5)),
 oP 20 (.lenS (.t 19)),
 oP 21 (.bin .lss (.t 18) (.t 20))])
 (.cond (.t 21) (.skip)
 (.exit 2)))
 (.seq (.block 3 (.seq (.region 0 [oP 24 (.move (.t 6)),
 oP 25 (.bin .lss (.t 24) (.c (.int .i64 0))),
 oP 26 (.move (.t 25)),
 oG 27 26 true (.fieldAddr 0 (.t 2)),
 ⟨(some 28), .load false 1 (.t 27), (some (26, true)), none, []⟩,
 oG 29 26 true (.move (.t 5)),
 oG 30 26 true (.move (.t 7)),
 oG 31 26 true (.idxSl 1 (.t 29) (.t 30)),
 ⟨(some 32), .load false 1 (.t 31), (some (26, true)), none, []⟩,
 oG 33 26 true (.idxSl 3 (.t 28) (.t 32)),
 oG 34 26 true (.fieldAddr 1 (.t 33)),
 ⟨(some 35), .load false 1 (.t 34), (some (26, true)), none, []⟩,
 oG 36 26 true (.bin .gtr (.t 35) (.c (.int .i64 0))),
 oP 37 (.pick (.t 26) (.t 36) (.c (.bool false)))])
 (.cond (.t 37) (.region 0 [oP 38 (.move (.t 5)),
 oP 39 (.move (.t 7)),
 oP 40 (.idxSl 1 (.t 38) (.t 39)),
 oQ 41 (.load false 1 (.t 40)),
 oP 6 (.move (.t 41))])
 (.skip))))
 (.region 0 [oP 22 (.move (.t 7)),
 oP 23 (.bin .add (.t 22) (.c (.int .i64 1))),
 oP 7 (.move (.t 23))]))))))
 (.seq (.seq (.region 0 [oP 42 (.move (.t 6)),
 oP 43 (.move (.t 1)),
 oP 44 (.bin .neq (.t 42) (.t 43))])
 (.cond (.t 44) (.seq (.region 0 [oP 4 (.move (.c (.bool false)))])
 (.ret))
 (.skip)))
 (.region 0 [oP 45 (.fieldAddr 0 (.t 2)),
 oQ 46 (.load false 1 (.t 45)),
 oP 47 (.move (.t 1)),
 oP 48 (.idxSl 3 (.t 46) (.t 47)),
 oP 49 (.fieldAddr 0 (.t 48)),
 oQ 50 (.load false 1 (.t 49)),
 oP 1 (.move (.t 50))])))))))))
 (.seq (.region 0 [oP 4 (.move (.c (.bool true)))])
 (.ret)))⟩
/-- almadraba/almadrabaref10.ArePays -/
def f53 : AFn := ⟨38, [.tmp 4],
 .seq (.region 0 [oQ 2 (.box (.t 0)),
 oP 4 (.move (.c (.bool false)))])
 (.seq (.seq (.region 0 [oP 5 (.move (.c (.int .i64 0)))])
 (.block 0 (.loop (.seq (.seq (.region 0 [oP 6 (.move (.t 5)),
 oP 7 (.move (.t 1)),
 oP 8 (.lenS (.t 7)),
 oP 9 (.bin .lss (.t 6) (.t 8))])
 (.cond (.t 9) (.skip)
 (.exit 0)))
 (.seq (.block 1 (.seq (.region 0 [oP 12 (.move (.t 1)),
 oP 13 (.move (.t 5)),
 oP 14 (.idxSl 3 (.t 12) (.t 13)),
 oP 15 (.fieldAddr 0 (.t 14)),
 oQ 16 (.load false 1 (.t 15)),
 oQ 17 (.call 1 46 [(.t 16)]),
 oP 18 (.un .not (.t 17)),
 oP 19 (.move (.t 18)),
 ⟨(some 20), .load true 1 (.t 2), (some (19, false)), none, []⟩,
 oG 21 19 false (.move (.t 1)),
 oG 22 19 false (.move (.t 5)),
 oG 23 19 false (.idxSl 3 (.t 21) (.t 22)),
 oG 24 19 false (.fieldAddr 1 (.t 23)),
 ⟨(some 25), .load false 1 (.t 24), (some (19, false)), none, []⟩,
 ⟨(some 26), .call 1 49 [(.t 20), (.t 25)], (some (19, false)), none, []⟩,
 oG 27 19 false (.un .not (.t 26)),
 oP 28 (.pick (.t 19) (.c (.bool true)) (.t 27)),
 oP 29 (.move (.t 28)),
 oG 30 29 false (.move (.t 1)),
 oG 31 29 false (.move (.t 5)),
 oG 32 29 false (.idxSl 3 (.t 30) (.t 31)),
 oG 33 29 false (.fieldAddr 2 (.t 32)),
 ⟨(some 34), .load false 1 (.t 33), (some (29, false)), none, []⟩,
 ⟨(some 35), .call 1 46 [(.t 34)], (some (29, false)), none, []⟩,
 oG 36 29 false (.un .not (.t 35)),
 oP 37 (.pick (.t 29) (.c (.bool true)) (.t 36))])
 (.cond (.t 37) (.seq (.region 0 [oP 4 (.move (.c (.bool false)))])
 (.ret))
 (.skip))))
 (.region 0 [oP 10 (.move (.t 5)),
 oP 11 (.bin .add (.t 10) (.c (.int .i64 1))),
 oP 5 (.move (.t 11))]))))))
 (.seq (.region 0 [oP 4 (.move (.c (.bool true)))])
 (.ret)))⟩
/-- almadraba/almadrabaref01.Rising -/
def f54 : AFn := ⟨38, [.tmp 6],
 .seq (.region 0 [oP 6 (.move (.c (.bool false)))])
 (.seq (.seq (.region 0 [oP 7 (.move (.c (.int .i64 0)))])
 (.block 0 (.loop (.seq (.seq (.region 0 [oP 8 (.move (.t 7)),
 oP 9 (.move (.t 0)),
 oP 10 (.lenS (.t 9)),
 oP 11 (.bin .lss (.t 8) (.t 10))])
 (.cond (.t 11) (.skip)
 (.exit 0)))
 (.seq (.block 1 (.seq (.region 0 [oP 14 (.move (.t 0)),
 oP 15 (.move (.t 7)),
 oP 16 (.idxSl 1 (.t 14) (.t 15)),
 oQ 17 (.load false 1 (.t 16)),
 oP 18 (.move (.t 1)),
 oP 19 (.move (.t 2)),
 oQ 20 (.call 1 51 [(.t 17), (.t 18), (.t 19)]),
 oP 21 (.un .not (.t 20)),
 oP 22 (.move (.t 21)),
 oG 23 22 false (.move (.t 7)),
 oG 24 22 false (.bin .gtr (.t 23) (.c (.int .i64 0))),
 oG 25 22 false (.move (.t 24)),
 oG 26 25 true (.move (.t 0)),
 oG 27 25 true (.move (.t 7)),
 oG 28 25 true (.idxSl 1 (.t 26) (.t 27)),
 ⟨(some 29), .load false 1 (.t 28), (some (25, true)), none, []⟩,
 oG 30 25 true (.move (.t 0)),
 oG 31 25 true (.move (.t 7)),
 oG 32 25 true (.bin .sub (.t 31) (.c (.int .i64 1))),
 oG 33 25 true (.idxSl 1 (.t 30) (.t 32)),
 ⟨(some 34), .load false 1 (.t 33), (some (25, true)), none, []⟩,
 oG 35 25 true (.bin .leq (.t 29) (.t 34)),
 oG 36 22 false (.pick (.t 25) (.t 35) (.c (.bool false))),
 oP 37 (.pick (.t 22) (.c (.bool true)) (.t 36))])
 (.cond (.t 37) (.seq (.region 0 [oP 6 (.move (.c (.bool false)))])
 (.ret))
 (.skip))))
 (.region 0 [oP 12 (.move (.t 7)),
 oP 13 (.bin .add (.t 12) (.c (.int .i64 1))),
 oP 7 (.move (.t 13))]))))))
 (.seq (.region 0 [oP 6 (.move (.c (.bool true)))])
 (.ret)))⟩
/-- almadraba/almadrabaref01.In -/
def f55 : AFn := ⟨18, [.tmp 4],
 .seq (.region 0 [oP 4 (.move (.c (.bool false)))])
 (.seq (.seq (.region 0 [oP 5 (.move (.c (.int .i64 0)))])
 (.block 0 (.loop (.seq (.seq (.region 0 [oP 6 (.move (.t 5)),
 oP 7 (.move (.t 0)),
 oP 8 (.lenS (.t 7)),
 oP 9 (.bin .lss (.t 6) (.t 8))])
 (.cond (.t 9) (.skip)
 (.exit 0)))
 (.seq (.block 1 (.seq (.region 0 [oP 12 (.move (.t 0)),
 oP 13 (.move (.t 5)),
 oP 14 (.idxSl 1 (.t 12) (.t 13)),
 oQ 15 (.load false 1 (.t 14)),
 oP 16 (.move (.t 1)),
 oP 17 (.bin .eql (.t 15) (.t 16))])
 (.cond (.t 17) (.seq (.region 0 [oP 4 (.move (.c (.bool true)))])
 (.ret))
 (.skip))))
 (.region 0 [oP 10 (.move (.t 5)),
 oP 11 (.bin .add (.t 10) (.c (.int .i64 1))),
 oP 5 (.move (.t 11))]))))))
 (.seq (.region 0 [oP 4 (.move (.c (.bool false)))])
 (.ret)))⟩
/-- almadraba/almadrabaref10.AreCoins -/
def f56 : AFn := ⟨24, [.tmp 4],
 .seq (.region 0 [oQ 2 (.box (.t 0)),
 oP 4 (.move (.c (.bool false)))])
 (.seq (.seq (.region 0 [oP 6 (.move (.t 1)),
 oP 7 (.lenS (.t 6)),
 oP 8 (.fieldAddr 0 (.t 2)),
 oQ 9 (.load false 1 (.t 8)),
 oP 10 (.lenS (.t 9)),
 oP 11 (.bin .neq (.t 7) (.t 10))])
 (.cond (.t 11) (.seq (.region 0 [oP 4 (.move (.c (.bool false)))])
 (.ret))
 (.skip)))
 (.seq (.seq (.region 0 [oP 5 (.move (.c (.int .i64 0)))])
 (.block 0 (.loop (.seq (.seq (.region 0 [oP 12 (.move (.t 5)),
 oP 13 (.move (.t 1)),
 oP 14 (.lenS (.t 13)),
 oP 15 (.bin .lss (.t 12) (.t 14))])
 (.cond (.t 15) (.skip)
 (.exit 0)))
 (.seq (.block 1 (.seq (.region 0 [oP 18 (.move (.t 1)),
 oP 19 (.move (.t 5)),
 oP 20 (.idxSl 1 (.t 18) (.t 19)),
 oQ 21 (.load false 1 (.t 20)),
 oQ 22 (.call 1 46 [(.t 21)]),
 oP 23 (.un .not (.t 22))])
 (.cond (.t 23) (.seq (.region 0 [oP 4 (.move (.c (.bool false)))])
 (.ret))
 (.skip))))
 (.region 0 [oP 16 (.move (.t 5)),
 oP 17 (.bin .add (.t 16) (.c (.int .i64 1))),
 oP 5 (.move (.t 17))]))))))
 (.seq (.region 0 [oP 4 (.move (.c (.bool true)))])
 (.ret))))⟩
/-- almadraba/almadrabalaw10.isPart -/
def f57 : AFn := ⟨32, [.tmp 2],
 .seq (.region 0 [oQ 1 (.box (.t 0)),
 oP 2 (.move (.c (.bool false)))])
 (.seq (.region 0 [oP 3 (.fieldAddr 1 (.t 1)),
 oQ 4 (.load false 1 (.t 3)),
 oP 5 (.bin .geq (.t 4) (.c (.int .i64 1))),
 oP 6 (.move (.t 5)),
 oG 7 6 true (.fieldAddr 1 (.t 1)),
 ⟨(some 8), .load false 1 (.t 7), (some (6, true)), none, []⟩,
 oG 9 6 true (.bin .leq (.t 8) (.c (.int .i64 536870912))),
 oP 10 (.pick (.t 6) (.t 9) (.c (.bool false))),
 oP 11 (.move (.t 10)),
 oG 12 11 true (.fieldAddr 0 (.t 1)),
 ⟨(some 13), .load false 1 (.t 12), (some (11, true)), none, []⟩,
 oG 14 11 true (.bin .geq (.t 13) (.c (.int .i64 0))),
 oP 15 (.pick (.t 11) (.t 14) (.c (.bool false))),
 oP 16 (.move (.t 15)),
 oG 17 16 true (.fieldAddr 0 (.t 1)),
 ⟨(some 18), .load false 1 (.t 17), (some (16, true)), none, []⟩,
 oG 19 16 true (.fieldAddr 1 (.t 1)),
 ⟨(some 20), .load false 1 (.t 19), (some (16, true)), none, []⟩,
 oG 21 16 true (.bin .leq (.t 18) (.t 20)),
 oP 22 (.pick (.t 16) (.t 21) (.c (.bool false))),
 oP 23 (.move (.t 22)),
 oG 24 23 true (.fieldAddr 0 (.t 1)),
 ⟨(some 25), .load false 1 (.t 24), (some (23, true)), none, []⟩,
 oG 26 23 true (.fieldAddr 1 (.t 1)),
 ⟨(some 27), .load false 1 (.t 26), (some (23, true)), none, []⟩,
 ⟨(some 28), .call 1 58 [(.t 25), (.t 27)], (some (23, true)), none, []⟩,
 ⟨(some 29), .load true 2 (.t 1), (some (23, true)), none, []⟩,
 oG 30 23 true (.eqS false [true, true] (.t 28) (.t 29)),
 oP 31 (.pick (.t 23) (.t 30) (.c (.bool false))),
 oP 2 (.move (.t 31))])
 (.ret))⟩
/-- almadraba/almadrabaref01.Reduced -/
def f58 : AFn := ⟨25, [.cell true 2 4],
 .seq (.region 0 [oQ 4 (.alloc [.int .i64 0, .int .i64 0])])
 (.seq (.region 0 [oP 7 (.move (.t 0)),
 oP 8 (.move (.t 0)),
 oP 9 (.un .neg (.t 8)),
 oP 10 (.minmax true (.t 7) [(.t 9)]),
 oP 11 (.move (.t 1)),
 oP 5 (.move (.t 10)),
 oP 6 (.move (.t 11))])
 (.seq (.block 0 (.loop (.seq (.seq (.region 0 [oP 12 (.move (.t 6)),
 oP 13 (.bin .gtr (.t 12) (.c (.int .i64 0)))])
 (.cond (.t 13) (.skip)
 (.exit 0)))
 (.block 1 (.region 0 [oP 14 (.move (.t 6)),
 oP 15 (.move (.t 5)),
 oP 16 (.move (.t 6)),
 oP 17 (.bin .rem (.t 15) (.t 16)),
 oP 5 (.move (.t 14)),
 oP 6 (.move (.t 17))])))))
 (.seq (.region 0 [oP 18 (.move (.t 0)),
 oP 19 (.move (.t 5)),
 oP 20 (.bin .quo (.t 18) (.t 19)),
 oP 21 (.move (.t 1)),
 oP 22 (.move (.t 5)),
 oP 23 (.bin .quo (.t 21) (.t 22)),
 oP 24 (.build [.int .i64 0, .int .i64 0] [(0, 1, (.t 20)), (1, 1, (.t 23))]),
 ⟨none, .store 2 (.t 4) (.t 24), none, none, []⟩])
 (.ret))))⟩
/-- almadraba/almadrabalaw10.Example -/
def f59 : AFn := ⟨21, [.cell true 1 0, .cell true 1 1],
 .seq (.region 0 [oQ 0 (.alloc [.nils]),
 oQ 1 (.alloc [.nils])])
 (.seq (.region 0 [oP 2 (.build [.int .i64 0, .int .i64 0, .int .i64 0] [(0, 1, (.c (.int .i64 (-1))))]),
 oP 3 (.build [.int .i64 0, .int .i64 0, .int .i64 0] [(2, 1, (.c (.int .i64 3)))]),
 oP 4 (.build [.int .i64 0, .int .i64 0, .int .i64 0] [(1, 1, (.c (.int .i64 1)))]),
 oP 5 (.build [.int .i64 0, .int .i64 0, .int .i64 0] [(1, 1, (.c (.int .i64 1)))]),
 oP 6 (.build [.int .i64 0, .int .i64 0, .int .i64 0] [(0, 1, (.c (.int .i64 2))), (1, 1, (.c (.int .i64 2)))]),
 oP 7 (.build [.int .i64 0, .int .i64 0, .int .i64 0] [(0, 1, (.c (.int .i64 2))), (1, 1, (.c (.int .i64 1)))]),
 oP 8 (.build [.int .i64 0, .int .i64 0, .int .i64 0] [(0, 1, (.c (.int .i64 3))), (1, 1, (.c (.int .i64 1))), (2, 1, (.c (.int .i64 2)))]),
 oP 9 (.build [.int .i64 0, .int .i64 0, .int .i64 0] [(0, 1, (.c (.int .i64 3))), (1, 1, (.c (.int .i64 4)))]),
 oQ 10 (.litS 3 8 [.int .i64 0, .int .i64 0, .int .i64 0] [(0, (.t 2)), (1, (.t 3)), (2, (.t 4)), (3, (.t 5)), (4, (.t 6)), (5, (.t 7)), (6, (.t 8)), (7, (.t 9))]),
 oP 11 (.build [.nils] [(0, 1, (.t 10))]),
 ⟨none, .store 1 (.t 0) (.t 11), none, none, []⟩])
 (.seq (.region 0 [oP 12 (.build [.int .i64 0, .int .i64 0, .int .i64 0] [(0, 1, (.c (.int .i64 (-1))))]),
 oP 13 (.build [.int .i64 0, .int .i64 0, .int .i64 0] [(1, 1, (.c (.int .i64 1)))]),
 oP 14 (.build [.int .i64 0, .int .i64 0, .int .i64 0] [(1, 1, (.c (.int .i64 1)))]),
 oP 15 (.build [.int .i64 0, .int .i64 0, .int .i64 0] [(1, 1, (.c (.int .i64 4)))]),
 oP 16 (.build [.int .i64 0, .int .i64 0, .int .i64 0] [(1, 1, (.c (.int .i64 4)))]),
 oQ 17 (.litS 3 5 [.int .i64 0, .int .i64 0, .int .i64 0] [(0, (.t 12)), (1, (.t 13)), (2, (.t 14)), (3, (.t 15)), (4, (.t 16))]),
 oP 18 (.build [.nils] [(0, 1, (.t 17))]),
 ⟨none, .store 1 (.t 1) (.t 18), none, none, []⟩])
 (.seq (.region 0 [oQ 19 (.load true 1 (.t 0)),
 oQ 20 (.loadR true 1 (.t 1) 1),
 ⟨none, .storeR 1 (.t 0) (.t 19) [1], none, none, []⟩,
 ⟨none, .store 1 (.t 1) (.t 20), none, none, []⟩])
 (.ret))))⟩
/-- almadraba/shares.valid -/
def f60 : AFn := ⟨16, [.tmp 2],
 .seq (.region 0 [oQ 1 (.box (.t 0)),
 oP 2 (.move (.c (.bool false)))])
 (.seq (.region 0 [oP 3 (.fieldAddr 0 (.t 1)),
 oQ 4 (.load false 1 (.t 3)),
 oP 5 (.lenS (.t 4)),
 oQ 6 (.call 1 91 [(.t 5), (.c (.int .i64 1)), (.c (.int .i64 8))]),
 oP 7 (.move (.t 6)),
 ⟨(some 8), .load true 1 (.t 1), (some (7, true)), none, []⟩,
 ⟨(some 9), .call 1 92 [(.t 8)], (some (7, true)), none, []⟩,
 oP 10 (.pick (.t 7) (.t 9) (.c (.bool false))),
 oP 11 (.move (.t 10)),
 oG 12 11 true (.fieldAddr 0 (.t 1)),
 ⟨(some 13), .load false 1 (.t 12), (some (11, true)), none, []⟩,
 ⟨(some 14), .call 3 93 [(.t 13), (.c (.fn 94 [] []))], (some (11, true)), none, []⟩,
 oP 15 (.pick (.t 11) (.t 14) (.c (.bool false))),
 oP 2 (.move (.t 15))])
 (.ret))⟩
/-- almadraba/almadrabaref10.within -/
def f61 : AFn := ⟨11, [.tmp 6],
 .seq (.region 0 [oP 6 (.move (.c (.bool false)))])
 (.seq (.region 0 [oP 7 (.move (.t 0)),
 oP 8 (.move (.t 1)),
 oP 9 (.move (.t 2)),
 oQ 10 (.call 1 51 [(.t 7), (.t 8), (.t 9)]),
 oP 6 (.move (.t 10))])
 (.ret))⟩
/-- almadraba/shares.fit -/
def f62 : AFn := ⟨26, [.tmp 6],
 .seq (.region 0 [oQ 3 (.box (.t 0)),
 oP 6 (.move (.c (.int .i64 0)))])
 (.seq (.region 0 [oP 8 (.mkFn 95 [] [(.t 3)]),
 oP 7 (.move (.t 8))])
 (.seq (.block 0 (.seq (.region 0 [oQ 10 (.load true 1 (.t 3)),
 oQ 11 (.call 1 60 [(.t 10)]),
 oP 12 (.un .not (.t 11)),
 oP 9 (.move (.t 12))])
 (.cond (.t 9) (.seq (.region 0 [oP 6 (.move (.c (.int .i64 100)))])
 (.ret))
 (.seq (.region 0 [oP 14 (.move (.t 2)),
 oP 15 (.lenS (.t 14)),
 oP 16 (.bin .gtr (.t 15) (.c (.int .i64 6))),
 oP 13 (.move (.t 16))])
 (.cond (.t 13) (.seq (.region 0 [oP 6 (.move (.c (.int .i64 2)))])
 (.ret))
 (.seq (.region 0 [oP 18 (.move (.t 1)),
 oP 19 (.un .not (.t 18)),
 oP 20 (.move (.t 19)),
 oG 21 20 false (.move (.t 2)),
 oG 22 20 false (.move (.t 7)),
 ⟨(some 23), .call 3 96 [(.t 21), (.t 22)], (some (20, false)), none, []⟩,
 oG 24 20 false (.un .not (.t 23)),
 oP 25 (.pick (.t 20) (.c (.bool true)) (.t 24)),
 oP 17 (.move (.t 25))])
 (.cond (.t 17) (.seq (.region 0 [oP 6 (.move (.c (.int .i64 1)))])
 (.ret))
 (.skip))))))))
 (.seq (.region 0 [oP 6 (.move (.c (.int .i64 0)))])
 (.ret))))⟩
/-- almadraba/shares.isPence -/
def f63 : AFn := ⟨5, [.tmp 2],
 .seq (.region 0 [oP 2 (.move (.c (.bool false)))])
 (.seq (.region 0 [oP 3 (.move (.t 0)),
 oQ 4 (.call 1 91 [(.t 3), (.c (.int .i64 0)), (.c (.int .i64 400))]),
 oP 2 (.move (.t 4))])
 (.ret))⟩
/-- almadraba/shares.open -/
def f64 : AFn := ⟨5, [.cell true 1 2],
 .seq (.region 0 [oQ 1 (.box (.t 0)),
 oQ 2 (.alloc [.nils])])
 (.seq (.region 0 [oQ 3 (.load true 1 (.t 1)),
 oP 4 (.build [.nils] [(0, 1, (.t 3))]),
 ⟨none, .store 1 (.t 2) (.t 4), none, none, []⟩])
 (.ret))⟩
/-- (almadraba/shares.custom).divide -/
def f65 : AFn := ⟨38, [.tmp 4, .tmp 5],
 .seq (.region 0 [oQ 2 (.box (.t 0)),
 oP 4 (.move (.c (.nilm))),
 oP 5 (.move (.c (.nilm)))])
 (.seq (.region 0 [oQ 9 (.makeMap (.i .i64)),
 oP 10 (.move (.t 1)),
 ⟨none, .mapSet (.i .i64) (.t 9) (.c (.int .i64 0)) (.t 10) [], none, none, []⟩,
 oP 11 (.move (.t 9)),
 oQ 12 (.makeMap (.i .i64)),
 oP 4 (.move (.t 11)),
 oP 5 (.move (.t 12))])
 (.seq (.seq (.region 0 [oP 13 (.fieldAddr 0 (.t 2)),
 oP 14 (.fieldAddr 0 (.t 13)),
 oQ 15 (.load false 1 (.t 14)),
 oP 16 (.lenS (.t 15)),
 oP 17 (.move (.c (.int .i64 0)))])
 (.block 0 (.loop (.seq (.region 0 [oP 18 (.bin .lss (.t 17) (.t 16))])
 (.seq (.cond (.t 18) (.skip)
 (.exit 0))
 (.seq (.block 1 (.seq (.region 0 [oP 19 (.move (.t 17)),
 oP 6 (.move (.t 19))])
 (.seq (.region 0 [oQ 21 (.load true 1 (.t 2)),
 oP 22 (.move (.t 6)),
 oP 23 (.move (.t 4)),
 oP 24 (.move (.t 6)),
 oQ 25 (.mapGet (.i .i64) (.int .i64 0) false (.t 23) (.t 24)),
 oQ 26 (.call 2 71 [(.t 21), (.t 22), (.t 25)]),
 oP 20 (.move (.t 26)),
 oP 27 (.extract (.t 20) 0),
 oP 28 (.extract (.t 20) 1),
 oP 7 (.move (.t 27)),
 oP 8 (.move (.t 28))])
 (.seq (.region 0 [oP 29 (.move (.t 4)),
 oP 30 (.move (.t 7)),
 oQ 31 (.call 0 97 [(.t 29), (.t 30)])])
 (.region 0 [oP 32 (.move (.t 5)),
 oP 33 (.move (.t 6)),
 oP 34 (.move (.t 8)),
 ⟨none, .mapSet (.i .i64) (.t 32) (.t 33) (.t 34) [], none, none, []⟩])))))
 (.region 0 [oP 35 (.bin .add (.t 17) (.c (.int .i64 1))),
 oP 17 (.move (.t 35))])))))))
 (.seq (.region 0 [oP 36 (.move (.t 4)),
 oP 37 (.move (.t 5)),
 oP 4 (.move (.t 36)),
 oP 5 (.move (.t 37))])
 (.ret))))⟩
/-- almadraba/shares.listed -/
def f66 : AFn := ⟨22, [.tmp 2],
 .seq (.region 0 [oP 2 (.move (.c (.nils)))])
 (.seq (.region 0 [oP 3 (.move (.c (.nils)))])
 (.seq (.seq (.region 0 [oP 6 (.move (.t 0)),
 oQ 7 (.call 0 99 [(.t 6)]),
 oQ 8 (.call 0 98 [(.t 7)]),
 oP 9 (.lenS (.t 8)),
 oP 10 (.move (.c (.int .i64 0)))])
 (.block 0 (.loop (.seq (.region 0 [oP 11 (.bin .lss (.t 10) (.t 9))])
 (.seq (.cond (.t 11) (.skip)
 (.exit 0))
 (.seq (.block 1 (.seq (.region 0 [oP 12 (.idxSl 1 (.t 8) (.t 10)),
 oQ 13 (.load false 1 (.t 12)),
 oP 5 (.move (.t 13))])
 (.region 0 [oP 14 (.move (.t 3)),
 oP 15 (.move (.t 0)),
 oP 16 (.move (.t 5)),
 oQ 17 (.mapGet (.i .i64) (.int .i64 0) false (.t 15) (.t 16)),
 oQ 18 (.litS 1 1 [.int .i64 0] [(0, (.t 17))]),
 oQ 19 (.append false 1 8 (.t 14) (.t 18)),
 oP 3 (.move (.t 19))])))
 (.region 0 [oP 20 (.bin .add (.t 10) (.c (.int .i64 1))),
 oP 10 (.move (.t 20))])))))))
 (.seq (.region 0 [oP 21 (.move (.t 3)),
 oP 2 (.move (.t 21))])
 (.ret))))⟩
/-- almadraba/almadrabaref10.ask -/
def f67 : AFn := ⟨13, [.tmp 4],
 .seq (.region 0 [oQ 2 (.box (.t 0)),
 oP 4 (.move (.c (.int .i64 0)))])
 (.seq (.seq (.region 0 [oQ 6 (.load true 1 (.t 2)),
 oQ 7 (.call 1 20 [(.t 6)]),
 oP 5 (.move (.t 7))])
 (.seq (.region 0 [oP 8 (.move (.t 5)),
 oP 9 (.bin .neq (.t 8) (.c (.int .i64 0)))])
 (.cond (.t 9) (.seq (.region 0 [oP 10 (.move (.t 5)),
 oP 4 (.move (.t 10))])
 (.ret))
 (.skip))))
 (.seq (.seq (.region 0 [oP 11 (.move (.t 1)),
 oP 12 (.un .not (.t 11))])
 (.cond (.t 12) (.seq (.region 0 [oP 4 (.move (.c (.int .i64 1)))])
 (.ret))
 (.skip)))
 (.seq (.region 0 [oP 4 (.move (.c (.int .i64 0)))])
 (.ret))))⟩
/-- almadraba/almadrabaref10.GetsOf -/
def f68 : AFn := ⟨52, [.tmp 6],
 .seq (.region 0 [oQ 3 (.box (.t 0)),
 oP 6 (.move (.c (.int .i64 0)))])
 (.seq (.seq (.region 0 [oP 13 (.move (.t 1)),
 oP 14 (.bin .eql (.t 13) (.c (.int .i64 0)))])
 (.cond (.t 14) (.seq (.region 0 [oP 15 (.move (.t 2)),
 oP 6 (.move (.t 15))])
 (.ret))
 (.skip)))
 (.seq (.region 0 [oP 16 (.fieldAddr 0 (.t 3)),
 oQ 17 (.load false 1 (.t 16)),
 oP 18 (.move (.t 1)),
 oP 19 (.idxSl 3 (.t 17) (.t 18)),
 oP 20 (.fieldAddr 0 (.t 19)),
 oQ 21 (.load false 1 (.t 20)),
 oP 7 (.move (.t 21))])
 (.seq (.region 0 [oQ 23 (.load true 1 (.t 3)),
 oP 24 (.move (.t 7)),
 oQ 25 (.load true 1 (.t 3)),
 oP 26 (.move (.t 7)),
 oP 27 (.move (.t 2)),
 oQ 28 (.call 1 68 [(.t 25), (.t 26), (.t 27)]),
 oQ 29 (.call 1 72 [(.t 23), (.t 24), (.t 28)]),
 oP 22 (.move (.t 29)),
 oP 30 (.extract (.t 22) 0),
 oP 31 (.extract (.t 22) 1),
 oP 8 (.move (.t 30)),
 oP 9 (.move (.t 31))])
 (.seq (.region 0 [oQ 32 (.load true 1 (.t 3)),
 oP 33 (.move (.t 7)),
 oQ 34 (.call 1 48 [(.t 32), (.t 33)]),
 oP 10 (.move (.t 34))])
 (.seq (.region 0 [oP 11 (.move (.c (.int .i64 0)))])
 (.seq (.seq (.region 0 [oP 12 (.move (.c (.int .i64 0)))])
 (.block 0 (.loop (.seq (.seq (.region 0 [oP 35 (.move (.t 12)),
 oP 36 (.move (.t 10)),
 oP 37 (.lenS (.t 36)),
 oP 38 (.bin .lss (.t 35) (.t 37))])
 (.cond (.t 38) (.skip)
 (.exit 0)))
 (.seq (.block 1 (.seq (.region 0 [oP 41 (.move (.t 10)),
 oP 42 (.move (.t 12)),
 oP 43 (.idxSl 1 (.t 41) (.t 42)),
 oQ 44 (.load false 1 (.t 43)),
 oP 45 (.move (.t 1)),
 oP 46 (.bin .eql (.t 44) (.t 45))])
 (.cond (.t 46) (.region 0 [oP 47 (.move (.t 8)),
 oP 48 (.move (.t 12)),
 oP 49 (.idxSl 1 (.t 47) (.t 48)),
 oQ 50 (.load false 1 (.t 49)),
 oP 11 (.move (.t 50))])
 (.skip))))
 (.region 0 [oP 39 (.move (.t 12)),
 oP 40 (.bin .add (.t 39) (.c (.int .i64 1))),
 oP 12 (.move (.t 40))]))))))
 (.seq (.region 0 [oP 51 (.move (.t 11)),
 oP 6 (.move (.t 51))])
 (.ret))))))))⟩
/-- almadraba/almadrabaref10.KeepsOf -/
def f69 : AFn := ⟨31, [.tmp 4],
 .seq (.region 0 [oQ 2 (.box (.t 0)),
 oP 4 (.move (.c (.nils)))])
 (.seq (.region 0 [oP 5 (.move (.c (.nils)))])
 (.seq (.seq (.region 0 [oP 6 (.move (.c (.int .i64 0)))])
 (.block 0 (.loop (.seq (.seq (.region 0 [oP 9 (.move (.t 6)),
 oP 10 (.fieldAddr 0 (.t 2)),
 oQ 11 (.load false 1 (.t 10)),
 oP 12 (.lenS (.t 11)),
 oP 13 (.bin .lss (.t 9) (.t 12))])
 (.cond (.t 13) (.skip)
 (.exit 0)))
 (.seq (.block 1 (.seq (.region 0 [oQ 17 (.load true 1 (.t 2)),
 oP 18 (.move (.t 6)),
 oQ 19 (.load true 1 (.t 2)),
 oP 20 (.move (.t 6)),
 oP 21 (.move (.t 1)),
 oQ 22 (.call 1 68 [(.t 19), (.t 20), (.t 21)]),
 oQ 23 (.call 1 72 [(.t 17), (.t 18), (.t 22)]),
 oP 16 (.move (.t 23)),
 oP 24 (.extract (.t 16) 0),
 oP 25 (.extract (.t 16) 1),
 oP 7 (.move (.t 24)),
 oP 8 (.move (.t 25))])
 (.region 0 [oP 26 (.move (.t 5)),
 oP 27 (.move (.t 8)),
 oQ 28 (.litS 1 1 [.int .i64 0] [(0, (.t 27))]),
 oQ 29 (.append false 1 8 (.t 26) (.t 28)),
 oP 5 (.move (.t 29))])))
 (.region 0 [oP 14 (.move (.t 6)),
 oP 15 (.bin .add (.t 14) (.c (.int .i64 1))),
 oP 6 (.move (.t 15))]))))))
 (.seq (.region 0 [oP 30 (.move (.t 5)),
 oP 4 (.move (.t 30))])
 (.ret))))⟩
/-- almadraba/shares.hasNode -/
def f70 : AFn := ⟨11, [.tmp 4],
 .seq (.region 0 [oQ 2 (.box (.t 0)),
 oP 4 (.move (.c (.bool false)))])
 (.seq (.region 0 [oP 5 (.move (.t 1)),
 oP 6 (.fieldAddr 0 (.t 2)),
 oQ 7 (.load false 1 (.t 6)),
 oP 8 (.lenS (.t 7)),
 oP 9 (.bin .sub (.t 8) (.c (.int .i64 1))),
 oQ 10 (.call 1 91 [(.t 5), (.c (.int .i64 0)), (.t 9)]),
 oP 4 (.move (.t 10))])
 (.ret))⟩
/-- (almadraba/shares.custom).split -/
def f71 : AFn := ⟨89, [.cell false 1 6, .tmp 7],
 .seq (.region 0 [oQ 3 (.box (.t 0)),
 oQ 5 (.box (.t 2)),
 oQ 6 (.alloc [.nilm]),
 oP 7 (.move (.c (.int .i64 0)))])
 (.seq (.region 0 [oQ 14 (.makeMap (.i .i64)),
 ⟨none, .store 1 (.t 6) (.t 14), none, none, []⟩])
 (.seq (.seq (.region 0 [oQ 15 (.load true 1 (.t 3)),
 oP 16 (.move (.t 1)),
 oQ 17 (.call 0 100 [(.t 15), (.t 16)])])
 (.block 0 (.rangeFunc (.t 17) [18] (.region 0 [oP 8 (.move (.t 18))])
 (.block 1 (.seq (.region 0 [oQ 19 (.load false 1 (.t 6)),
 oP 20 (.move (.t 8)),
 oP 21 (.fieldAddr 0 (.t 3)),
 oP 22 (.fieldAddr 0 (.t 21)),
 oQ 23 (.load false 1 (.t 22)),
 oP 24 (.move (.t 8)),
 oP 25 (.idxSl 3 (.t 23) (.t 24)),
 oP 26 (.fieldAddr 2 (.t 25)),
 oQ 27 (.load false 1 (.t 26)),
 oQ 28 (.load false 1 (.t 5)),
 oP 29 (.minmax false (.t 27) [(.t 28)]),
 ⟨none, .mapSet (.i .i64) (.t 19) (.t 20) (.t 29) [], none, none, []⟩])
 (.region 0 [oQ 30 (.load false 1 (.t 5)),
 oQ 31 (.load false 1 (.t 6)),
 oP 32 (.move (.t 8)),
 oQ 33 (.mapGet (.i .i64) (.int .i64 0) false (.t 31) (.t 32)),
 oP 34 (.bin .sub (.t 30) (.t 33)),
 ⟨none, .store 1 (.t 5) (.t 34), none, none, []⟩]))))))
 (.seq (.region 0 [oQ 35 (.load true 1 (.t 3)),
 oP 36 (.move (.t 1)),
 oQ 37 (.call 1 101 [(.t 35), (.t 36)]),
 oQ 9 (.alloc [.int .i64 0]),
 ⟨none, .store 1 (.t 9) (.t 37), none, none, []⟩])
 (.seq (.seq (.region 0 [oQ 38 (.load false 1 (.t 9)),
 oP 39 (.bin .eql (.t 38) (.c (.int .i64 0)))])
 (.cond (.t 39) (.seq (.region 0 [oQ 40 (.load false 1 (.t 6)),
 oQ 41 (.loadR false 1 (.t 5) 5),
 ⟨none, .storeR 1 (.t 6) (.t 40) [5], none, none, []⟩,
 oP 7 (.move (.t 41))])
 (.ret))
 (.skip)))
 (.seq (.region 0 [oQ 42 (.load false 1 (.t 5)),
 oQ 10 (.alloc [.int .i64 0]),
 ⟨none, .store 1 (.t 10) (.t 42), none, none, []⟩])
 (.seq (.seq (.region 0 [oQ 43 (.load true 1 (.t 3)),
 oP 44 (.move (.t 1)),
 oQ 45 (.call 0 100 [(.t 43), (.t 44)])])
 (.block 2 (.rangeFunc (.t 45) [46] (.region 0 [oP 11 (.move (.t 46))])
 (.block 3 (.seq (.region 0 [oQ 47 (.load false 1 (.t 5)),
 oP 48 (.fieldAddr 0 (.t 3)),
 oP 49 (.fieldAddr 0 (.t 48)),
 oQ 50 (.load false 1 (.t 49)),
 oP 51 (.move (.t 11)),
 oP 52 (.idxSl 3 (.t 50) (.t 51)),
 oP 53 (.fieldAddr 1 (.t 52)),
 oQ 54 (.load false 1 (.t 53)),
 oP 55 (.bin .mul (.t 47) (.t 54)),
 oQ 56 (.load false 1 (.t 9)),
 oP 57 (.bin .quo (.t 55) (.t 56)),
 oP 12 (.move (.t 57))])
 (.seq (.region 0 [oQ 58 (.load false 1 (.t 6)),
 oP 59 (.move (.t 11)),
 oQ 60 (.mapGet (.i .i64) (.int .i64 0) false (.t 58) (.t 59)),
 oP 61 (.move (.t 12)),
 oP 62 (.bin .add (.t 60) (.t 61)),
 ⟨none, .mapSet (.i .i64) (.t 58) (.t 59) (.t 62) [], none, none, []⟩])
 (.region 0 [oQ 63 (.load false 1 (.t 10)),
 oP 64 (.move (.t 12)),
 oP 65 (.bin .sub (.t 63) (.t 64)),
 ⟨none, .store 1 (.t 10) (.t 65), none, none, []⟩])))))))
 (.seq (.seq (.region 0 [oQ 66 (.load true 1 (.t 3)),
 oP 67 (.move (.t 1)),
 oQ 68 (.call 0 100 [(.t 66), (.t 67)])])
 (.block 4 (.rangeFunc (.t 68) [69] (.region 0 [oP 13 (.move (.t 69))])
 (.block 5 (.seq (.region 0 [oP 70 (.fieldAddr 0 (.t 3)),
 oP 71 (.fieldAddr 0 (.t 70)),
 oQ 72 (.load false 1 (.t 71)),
 oP 73 (.move (.t 13)),
 oP 74 (.idxSl 3 (.t 72) (.t 73)),
 oP 75 (.fieldAddr 1 (.t 74)),
 oQ 76 (.load false 1 (.t 75)),
 oP 77 (.bin .gtr (.t 76) (.c (.int .i64 0))),
 oP 78 (.move (.t 77)),
 ⟨(some 79), .load false 1 (.t 10), (some (78, true)), none, []⟩,
 oG 80 78 true (.bin .gtr (.t 79) (.c (.int .i64 0))),
 oP 81 (.pick (.t 78) (.t 80) (.c (.bool false)))])
 (.cond (.t 81) (.seq (.region 0 [oQ 82 (.load false 1 (.t 6)),
 oP 83 (.move (.t 13)),
 oQ 84 (.mapGet (.i .i64) (.int .i64 0) false (.t 82) (.t 83)),
 oP 85 (.bin .add (.t 84) (.c (.int .i64 1))),
 ⟨none, .mapSet (.i .i64) (.t 82) (.t 83) (.t 85) [], none, none, []⟩])
 (.region 0 [oQ 86 (.load false 1 (.t 10)),
 oP 87 (.bin .sub (.t 86) (.c (.int .i64 1))),
 ⟨none, .store 1 (.t 10) (.t 87), none, none, []⟩]))
 (.skip)))))))
 (.seq (.region 0 [oQ 88 (.load false 1 (.t 6)),
 ⟨none, .store 1 (.t 6) (.t 88), none, none, []⟩,
 oP 7 (.move (.c (.int .i64 0)))])
 (.ret)))))))))⟩
/-- almadraba/almadrabaref10.SplitOf -/
def f72 : AFn := ⟨111, [.tmp 6, .tmp 7],
 .seq (.region 0 [oQ 3 (.box (.t 0)),
 oP 6 (.move (.c (.nils))),
 oP 7 (.move (.c (.int .i64 0)))])
 (.seq (.region 0 [oQ 17 (.load true 1 (.t 3)),
 oP 18 (.move (.t 1)),
 oQ 19 (.call 1 48 [(.t 17), (.t 18)]),
 oP 8 (.move (.t 19))])
 (.seq (.region 0 [oP 20 (.move (.t 2)),
 oP 9 (.move (.t 20))])
 (.seq (.seq (.region 0 [oP 10 (.move (.c (.int .i64 0)))])
 (.block 0 (.loop (.seq (.seq (.region 0 [oP 21 (.move (.t 10)),
 oP 22 (.move (.t 8)),
 oP 23 (.lenS (.t 22)),
 oP 24 (.bin .lss (.t 21) (.t 23))])
 (.cond (.t 24) (.skip)
 (.exit 0)))
 (.seq (.block 1 (.seq (.region 0 [oP 27 (.move (.t 9)),
 oP 28 (.fieldAddr 0 (.t 3)),
 oQ 29 (.load false 1 (.t 28)),
 oP 30 (.move (.t 8)),
 oP 31 (.move (.t 10)),
 oP 32 (.idxSl 1 (.t 30) (.t 31)),
 oQ 33 (.load false 1 (.t 32)),
 oP 34 (.idxSl 3 (.t 29) (.t 33)),
 oP 35 (.fieldAddr 2 (.t 34)),
 oQ 36 (.load false 1 (.t 35)),
 oP 37 (.minmax false (.t 27) [(.t 36)]),
 oP 11 (.move (.t 37))])
 (.seq (.region 0 [oP 38 (.move (.t 6)),
 oP 39 (.move (.t 11)),
 oQ 40 (.litS 1 1 [.int .i64 0] [(0, (.t 39))]),
 oQ 41 (.append false 1 8 (.t 38) (.t 40)),
 oP 6 (.move (.t 41))])
 (.region 0 [oP 42 (.move (.t 9)),
 oP 43 (.move (.t 11)),
 oP 44 (.bin .sub (.t 42) (.t 43)),
 oP 9 (.move (.t 44))]))))
 (.region 0 [oP 25 (.move (.t 10)),
 oP 26 (.bin .add (.t 25) (.c (.int .i64 1))),
 oP 10 (.move (.t 26))]))))))
 (.seq (.region 0 [oQ 45 (.load true 1 (.t 3)),
 oP 46 (.move (.t 1)),
 oQ 47 (.call 1 50 [(.t 45), (.t 46)]),
 oP 12 (.move (.t 47))])
 (.seq (.seq (.region 0 [oP 48 (.move (.t 12)),
 oP 49 (.bin .eql (.t 48) (.c (.int .i64 0)))])
 (.cond (.t 49) (.seq (.region 0 [oP 50 (.move (.t 6)),
 oP 51 (.move (.t 9)),
 oP 6 (.move (.t 50)),
 oP 7 (.move (.t 51))])
 (.ret))
 (.skip)))
 (.seq (.region 0 [oP 52 (.move (.t 9)),
 oP 13 (.move (.t 52))])
 (.seq (.seq (.region 0 [oP 14 (.move (.c (.int .i64 0)))])
 (.block 2 (.loop (.seq (.seq (.region 0 [oP 53 (.move (.t 14)),
 oP 54 (.move (.t 8)),
 oP 55 (.lenS (.t 54)),
 oP 56 (.bin .lss (.t 53) (.t 55))])
 (.cond (.t 56) (.skip)
 (.exit 2)))
 (.seq (.block 3 (.seq (.region 0 [oP 59 (.move (.t 9)),
 oP 60 (.fieldAddr 0 (.t 3)),
 oQ 61 (.load false 1 (.t 60)),
 oP 62 (.move (.t 8)),
 oP 63 (.move (.t 14)),
 oP 64 (.idxSl 1 (.t 62) (.t 63)),
 oQ 65 (.load false 1 (.t 64)),
 oP 66 (.idxSl 3 (.t 61) (.t 65)),
 oP 67 (.fieldAddr 1 (.t 66)),
 oQ 68 (.load false 1 (.t 67)),
 oP 69 (.bin .mul (.t 59) (.t 68)),
 oP 70 (.move (.t 12)),
 oP 71 (.bin .quo (.t 69) (.t 70)),
 oP 15 (.move (.t 71))])
 (.seq (.region 0 [oP 72 (.move (.t 6)),
 oP 73 (.move (.t 14)),
 oP 74 (.idxSl 1 (.t 72) (.t 73)),
 oQ 75 (.load false 1 (.t 74)),
 oP 76 (.move (.t 15)),
 oP 77 (.bin .add (.t 75) (.t 76)),
 oP 78 (.idxSl 1 (.t 72) (.t 73)),
 ⟨none, .store 1 (.t 78) (.t 77), none, none, []⟩])
 (.region 0 [oP 79 (.move (.t 13)),
 oP 80 (.move (.t 15)),
 oP 81 (.bin .sub (.t 79) (.t 80)),
 oP 13 (.move (.t 81))]))))
 (.region 0 [oP 57 (.move (.t 14)),
 oP 58 (.bin .add (.t 57) (.c (.int .i64 1))),
 oP 14 (.move (.t 58))]))))))
 (.seq (.seq (.region 0 [oP 16 (.move (.c (.int .i64 0)))])
 (.block 4 (.loop (.seq (.seq (.region 0 [oP 82 (.move (.t 16)),
 oP 83 (.move (.t 8)),
 oP 84 (.lenS (.t 83)),
 oP 85 (.bin .lss (.t 82) (.t 84)),
 oP 86 (.move (.t 85)),
 oG 87 86 true (.move (.t 13)),
 oG 88 86 true (.bin .gtr (.t 87) (.c (.int .i64 0))),
 oP 89 (.pick (.t 86) (.t 88) (.c (.bool false)))])
 (.cond (.t 89) (.skip)
 (.exit 4)))
 (.seq (.block 5 (.seq (.region 0 [oP 92 (.fieldAddr 0 (.t 3)),
 oQ 93 (.load false 1 (.t 92)),
 oP 94 (.move (.t 8)),
 oP 95 (.move (.t 16)),
 oP 96 (.idxSl 1 (.t 94) (.t 95)),
 oQ 97 (.load false 1 (.t 96)),
 oP 98 (.idxSl 3 (.t 93) (.t 97)),
 oP 99 (.fieldAddr 1 (.t 98)),
 oQ 100 (.load false 1 (.t 99)),
 oP 101 (.bin .gtr (.t 100) (.c (.int .i64 0)))])
 (.cond (.t 101) (.seq (.region 0 [oP 102 (.move (.t 6)),
 oP 103 (.move (.t 16)),
 oP 104 (.idxSl 1 (.t 102) (.t 103)),
 oQ 105 (.load false 1 (.t 104)),
 oP 106 (.bin .add (.t 105) (.c (.int .i64 1))),
 oP 107 (.idxSl 1 (.t 102) (.t 103)),
 ⟨none, .store 1 (.t 107) (.t 106), none, none, []⟩])
 (.region 0 [oP 108 (.move (.t 13)),
 oP 109 (.bin .sub (.t 108) (.c (.int .i64 1))),
 oP 13 (.move (.t 109))]))
 (.skip))))
 (.region 0 [oP 90 (.move (.t 16)),
 oP 91 (.bin .add (.t 90) (.c (.int .i64 1))),
 oP 16 (.move (.t 91))]))))))
 (.seq (.region 0 [oP 110 (.move (.t 6)),
 oP 6 (.move (.t 110)),
 oP 7 (.move (.c (.int .i64 0)))])
 (.ret))))))))))⟩
/-- almadraba/shares.first -/
def f73 : AFn := ⟨17, [.tmp 4, .tmp 5],
 .seq (.region 0 [oP 4 (.move (.c (.int .i64 0))),
 oP 5 (.move (.c (.int .i64 0)))])
 (.seq (.seq (.region 0 [oP 7 (.move (.t 0)),
 oP 8 (.bin .add (.t 7) (.c (.int .i64 1))),
 oP 9 (.move (.c (.int .i64 0)))])
 (.block 0 (.loop (.seq (.region 0 [oP 10 (.bin .lss (.t 9) (.t 8))])
 (.seq (.cond (.t 10) (.skip)
 (.exit 0))
 (.seq (.block 1 (.seq (.region 0 [oP 11 (.move (.t 9)),
 oP 6 (.move (.t 11))])
 (.seq (.region 0 [oP 12 (.move (.t 1)),
 oP 13 (.move (.t 6)),
 oQ 14 (.callv true (.t 12) [(.t 13)])])
 (.cond (.t 14) (.seq (.region 0 [oP 15 (.move (.t 6)),
 oP 4 (.move (.t 15)),
 oP 5 (.move (.c (.int .i64 0)))])
 (.ret))
 (.skip)))))
 (.region 0 [oP 16 (.bin .add (.t 9) (.c (.int .i64 1))),
 oP 9 (.move (.t 16))])))))))
 (.seq (.region 0 [oP 4 (.move (.c (.int .i64 0))),
 oP 5 (.move (.c (.int .i64 3)))])
 (.ret)))⟩
/-- almadraba/shares.From$1 -/
def f74 : AFn := ⟨12, [.tmp 5],
 .seq (.region 0 [oP 5 (.move (.c (.bool false)))])
 (.seq (.region 0 [oQ 6 (.load true 1 (.t 1)),
 oQ 7 (.load false 1 (.t 2)),
 oP 8 (.move (.t 0)),
 oQ 9 (.call 1 75 [(.t 6), (.t 7), (.t 8)]),
 oQ 10 (.load false 1 (.t 3)),
 oP 11 (.bin .geq (.t 9) (.t 10)),
 oP 5 (.move (.t 11))])
 (.ret))⟩
/-- (almadraba/shares.custom).get -/
def f75 : AFn := ⟨18, [.tmp 6],
 .seq (.region 0 [oQ 3 (.box (.t 0)),
 oP 6 (.move (.c (.int .i64 0)))])
 (.seq (.region 0 [oQ 10 (.load true 1 (.t 3)),
 oP 11 (.move (.t 2)),
 oQ 12 (.call 2 65 [(.t 10), (.t 11)]),
 oP 9 (.move (.t 12)),
 oP 13 (.extract (.t 9) 0),
 oP 14 (.extract (.t 9) 1),
 oP 7 (.move (.t 13)),
 oP 8 (.move (.t 14))])
 (.seq (.region 0 [oP 15 (.move (.t 7)),
 oP 16 (.move (.t 1)),
 oQ 17 (.mapGet (.i .i64) (.int .i64 0) false (.t 15) (.t 16)),
 oP 6 (.move (.t 17))])
 (.ret)))⟩
/-- almadraba/shares.Falls$1 -/
def f76 : AFn := ⟨15, [.tmp 4],
 .seq (.region 0 [oP 4 (.move (.c (.bool false)))])
 (.seq (.region 0 [oQ 5 (.load true 1 (.t 1)),
 oQ 6 (.load false 1 (.t 2)),
 oP 7 (.move (.t 0)),
 oQ 8 (.call 1 75 [(.t 5), (.t 6), (.t 7)]),
 oQ 9 (.load true 1 (.t 1)),
 oQ 10 (.load false 1 (.t 2)),
 oP 11 (.move (.t 0)),
 oP 12 (.bin .add (.t 11) (.c (.int .i64 1))),
 oQ 13 (.call 1 75 [(.t 9), (.t 10), (.t 12)]),
 oP 14 (.bin .gtr (.t 8) (.t 13)),
 oP 4 (.move (.t 14))])
 (.ret))⟩
/-- (almadraba/shares.custom).part -/
def f77 : AFn := ⟨42, [.cell true 2 4],
 .seq (.region 0 [oQ 2 (.box (.t 0)),
 oQ 4 (.alloc [.int .i64 0, .int .i64 0])])
 (.seq (.seq (.region 0 [oP 8 (.move (.t 1)),
 oP 9 (.bin .eql (.t 8) (.c (.int .i64 0)))])
 (.cond (.t 9) (.seq (.region 0 [oP 10 (.build [.int .i64 0, .int .i64 0] [(0, 1, (.c (.int .i64 1))), (1, 1, (.c (.int .i64 1)))]),
 ⟨none, .store 2 (.t 4) (.t 10), none, none, []⟩])
 (.ret))
 (.skip)))
 (.seq (.region 0 [oP 11 (.fieldAddr 0 (.t 2)),
 oP 12 (.fieldAddr 0 (.t 11)),
 oQ 13 (.load false 1 (.t 12)),
 oP 14 (.move (.t 1)),
 oP 15 (.idxSl 3 (.t 13) (.t 14)),
 oP 16 (.fieldAddr 0 (.t 15)),
 oQ 17 (.load false 1 (.t 16)),
 oP 5 (.move (.t 17))])
 (.seq (.region 0 [oQ 18 (.load true 1 (.t 2)),
 oP 19 (.move (.t 5)),
 oQ 20 (.call 1 101 [(.t 18), (.t 19)]),
 oP 6 (.move (.t 20))])
 (.seq (.seq (.region 0 [oP 21 (.move (.t 6)),
 oP 22 (.bin .eql (.t 21) (.c (.int .i64 0)))])
 (.cond (.t 22) (.seq (.region 0 [oP 23 (.build [.int .i64 0, .int .i64 0] [(0, 1, (.c (.int .i64 0))), (1, 1, (.c (.int .i64 1)))]),
 ⟨none, .store 2 (.t 4) (.t 23), none, none, []⟩])
 (.ret))
 (.skip)))
 (.seq (.region 0 [oQ 24 (.load true 1 (.t 2)),
 oP 25 (.move (.t 5)),
 oQ 26 (.call 1 77 [(.t 24), (.t 25)]),
 oQ 7 (.alloc [.int .i64 0, .int .i64 0]),
 ⟨none, .store 2 (.t 7) (.t 26), none, none, []⟩])
 (.seq (.region 0 [oP 27 (.fieldAddr 0 (.t 7)),
 oQ 28 (.load false 1 (.t 27)),
 oP 29 (.fieldAddr 0 (.t 2)),
 oP 30 (.fieldAddr 0 (.t 29)),
 oQ 31 (.load false 1 (.t 30)),
 oP 32 (.move (.t 1)),
 oP 33 (.idxSl 3 (.t 31) (.t 32)),
 oP 34 (.fieldAddr 1 (.t 33)),
 oQ 35 (.load false 1 (.t 34)),
 oP 36 (.bin .mul (.t 28) (.t 35)),
 oP 37 (.fieldAddr 1 (.t 7)),
 oQ 38 (.load false 1 (.t 37)),
 oP 39 (.move (.t 6)),
 oP 40 (.bin .mul (.t 38) (.t 39)),
 oQ 41 (.call 1 102 [(.t 36), (.t 40)]),
 ⟨none, .store 2 (.t 4) (.t 41), none, none, []⟩])
 (.ret)))))))⟩
/-- almadraba/almadrabaref10.ExactOf -/
def f78 : AFn := ⟨38, [.tmp 4, .tmp 5],
 .seq (.region 0 [oQ 2 (.box (.t 0)),
 oP 4 (.move (.c (.int .i64 0))),
 oP 5 (.move (.c (.int .i64 0)))])
 (.seq (.seq (.region 0 [oP 7 (.move (.t 1)),
 oP 8 (.bin .eql (.t 7) (.c (.int .i64 0)))])
 (.cond (.t 8) (.seq (.region 0 [oP 4 (.move (.c (.int .i64 1))),
 oP 5 (.move (.c (.int .i64 1)))])
 (.ret))
 (.skip)))
 (.seq (.region 0 [oP 9 (.fieldAddr 0 (.t 2)),
 oQ 10 (.load false 1 (.t 9)),
 oP 11 (.move (.t 1)),
 oP 12 (.idxSl 3 (.t 10) (.t 11)),
 oP 13 (.fieldAddr 0 (.t 12)),
 oQ 14 (.load false 1 (.t 13)),
 oP 6 (.move (.t 14))])
 (.seq (.seq (.region 0 [oQ 15 (.load true 1 (.t 2)),
 oP 16 (.move (.t 6)),
 oQ 17 (.call 1 50 [(.t 15), (.t 16)]),
 oP 18 (.bin .eql (.t 17) (.c (.int .i64 0)))])
 (.cond (.t 18) (.seq (.region 0 [oP 4 (.move (.c (.int .i64 0))),
 oP 5 (.move (.c (.int .i64 1)))])
 (.ret))
 (.skip)))
 (.seq (.region 0 [oQ 20 (.load true 1 (.t 2)),
 oP 21 (.move (.t 6)),
 oQ 22 (.call 1 78 [(.t 20), (.t 21)]),
 oP 19 (.move (.t 22)),
 oP 23 (.extract (.t 19) 0),
 oP 24 (.extract (.t 19) 1),
 oP 4 (.move (.t 23)),
 oP 5 (.move (.t 24))])
 (.seq (.region 0 [oP 25 (.move (.t 4)),
 oP 26 (.fieldAddr 0 (.t 2)),
 oQ 27 (.load false 1 (.t 26)),
 oP 28 (.move (.t 1)),
 oP 29 (.idxSl 3 (.t 27) (.t 28)),
 oP 30 (.fieldAddr 1 (.t 29)),
 oQ 31 (.load false 1 (.t 30)),
 oP 32 (.bin .mul (.t 25) (.t 31)),
 oP 33 (.move (.t 5)),
 oQ 34 (.load true 1 (.t 2)),
 oP 35 (.move (.t 6)),
 oQ 36 (.call 1 50 [(.t 34), (.t 35)]),
 oP 37 (.bin .mul (.t 33) (.t 36)),
 oP 4 (.move (.t 32)),
 oP 5 (.move (.t 37))])
 (.ret))))))⟩
/-- almadraba/shares.each[int] -/
def f79 : AFn := ⟨9, [.tmp 4],
 .seq (.region 0 [oQ 3 (.box (.t 1)),
 oP 4 (.move (.c (.bool false)))])
 (.seq (.region 0 [oP 5 (.move (.t 0)),
 oP 6 (.mkFn 104 [] [(.t 3)]),
 oQ 7 (.call 3 103 [(.t 5), (.t 6)]),
 oP 8 (.un .not (.t 7)),
 oP 4 (.move (.t 8))])
 (.ret))⟩
/-- almadraba/shares.Enough$1 -/
def f80 : AFn := ⟨9, [.tmp 4],
 .seq (.region 0 [oP 4 (.move (.c (.bool false)))])
 (.seq (.region 0 [oQ 5 (.load true 1 (.t 1)),
 oP 6 (.move (.t 0)),
 oQ 7 (.load false 1 (.t 2)),
 oQ 8 (.call 1 81 [(.t 5), (.t 6), (.t 7)]),
 oP 4 (.move (.t 8))])
 (.ret))⟩
/-- (almadraba/shares.custom).isEnough -/
def f81 : AFn := ⟨30, [.tmp 6],
 .seq (.region 0 [oQ 3 (.box (.t 0)),
 oP 6 (.move (.c (.bool false)))])
 (.seq (.region 0 [oQ 12 (.load true 1 (.t 3)),
 oP 13 (.move (.t 1)),
 oQ 14 (.call 2 65 [(.t 12), (.t 13)]),
 oP 11 (.move (.t 14)),
 oP 15 (.extract (.t 11) 0),
 oP 16 (.extract (.t 11) 1),
 oP 7 (.move (.t 15)),
 oP 8 (.move (.t 16))])
 (.seq (.seq (.region 0 [oP 17 (.move (.t 2)),
 oP 18 (.lenS (.t 17)),
 oP 19 (.move (.c (.int .i64 0)))])
 (.block 0 (.loop (.seq (.region 0 [oP 20 (.bin .lss (.t 19) (.t 18))])
 (.seq (.cond (.t 20) (.skip)
 (.exit 0))
 (.seq (.block 1 (.seq (.region 0 [oP 21 (.move (.t 19)),
 oP 22 (.idxSl 1 (.t 17) (.t 19)),
 oQ 23 (.load false 1 (.t 22)),
 oP 9 (.move (.t 21)),
 oP 10 (.move (.t 23))])
 (.seq (.region 0 [oP 24 (.move (.t 8)),
 oP 25 (.move (.t 9)),
 oQ 26 (.mapGet (.i .i64) (.int .i64 0) false (.t 24) (.t 25)),
 oP 27 (.move (.t 10)),
 oP 28 (.bin .lss (.t 26) (.t 27))])
 (.cond (.t 28) (.seq (.region 0 [oP 6 (.move (.c (.bool false)))])
 (.ret))
 (.skip)))))
 (.region 0 [oP 29 (.bin .add (.t 19) (.c (.int .i64 1))),
 oP 19 (.move (.t 29))])))))))
 (.seq (.region 0 [oP 6 (.move (.c (.bool true)))])
 (.ret))))⟩
/-- almadraba/almadrabaref10.IsEnough -/
def f82 : AFn := ⟨27, [.tmp 6],
 .seq (.region 0 [oQ 3 (.box (.t 0)),
 oP 6 (.move (.c (.bool false)))])
 (.seq (.region 0 [oQ 9 (.load true 1 (.t 3)),
 oP 10 (.move (.t 2)),
 oQ 11 (.call 1 69 [(.t 9), (.t 10)]),
 oP 7 (.move (.t 11))])
 (.seq (.seq (.region 0 [oP 8 (.move (.c (.int .i64 0)))])
 (.block 0 (.loop (.seq (.seq (.region 0 [oP 12 (.move (.t 8)),
 oP 13 (.move (.t 7)),
 oP 14 (.lenS (.t 13)),
 oP 15 (.bin .lss (.t 12) (.t 14))])
 (.cond (.t 15) (.skip)
 (.exit 0)))
 (.seq (.block 1 (.seq (.region 0 [oP 18 (.move (.t 7)),
 oP 19 (.move (.t 8)),
 oP 20 (.idxSl 1 (.t 18) (.t 19)),
 oQ 21 (.load false 1 (.t 20)),
 oP 22 (.move (.t 1)),
 oP 23 (.move (.t 8)),
 oP 24 (.idxSl 1 (.t 22) (.t 23)),
 oQ 25 (.load false 1 (.t 24)),
 oP 26 (.bin .lss (.t 21) (.t 25))])
 (.cond (.t 26) (.seq (.region 0 [oP 6 (.move (.c (.bool false)))])
 (.ret))
 (.skip))))
 (.region 0 [oP 16 (.move (.t 8)),
 oP 17 (.bin .add (.t 16) (.c (.int .i64 1))),
 oP 8 (.move (.t 17))]))))))
 (.seq (.region 0 [oP 6 (.move (.c (.bool true)))])
 (.ret))))⟩
/-- (almadraba/shares.custom).wrong -/
def f83 : AFn := ⟨26, [.tmp 4],
 .seq (.region 0 [oQ 2 (.box (.t 0)),
 oP 4 (.move (.c (.nils)))])
 (.seq (.region 0 [oP 5 (.move (.c (.nils)))])
 (.seq (.seq (.region 0 [oP 8 (.move (.t 1)),
 oP 9 (.lenS (.t 8)),
 oP 10 (.move (.c (.int .i64 0)))])
 (.block 0 (.loop (.seq (.region 0 [oP 11 (.bin .lss (.t 10) (.t 9))])
 (.seq (.cond (.t 11) (.skip)
 (.exit 0))
 (.seq (.block 1 (.seq (.region 0 [oP 12 (.move (.t 10)),
 oP 13 (.idxSl 3 (.t 8) (.t 10)),
 oQ 14 (.load true 3 (.t 13)),
 oQ 7 (.alloc [.int .i64 0, .int .i64 0, .int .i64 0]),
 oP 6 (.move (.t 12)),
 ⟨none, .store 3 (.t 7) (.t 14), none, none, []⟩])
 (.seq (.region 0 [oQ 15 (.load true 1 (.t 2)),
 oQ 16 (.load true 3 (.t 7)),
 oQ 17 (.litS 3 1 [.int .i64 0, .int .i64 0, .int .i64 0] [(0, (.t 16))]),
 oQ 18 (.call 1 105 [(.t 15), (.t 17)]),
 oP 19 (.un .not (.t 18))])
 (.cond (.t 19) (.region 0 [oP 20 (.move (.t 5)),
 oP 21 (.move (.t 6)),
 oQ 22 (.litS 1 1 [.int .i64 0] [(0, (.t 21))]),
 oQ 23 (.append false 1 8 (.t 20) (.t 22)),
 oP 5 (.move (.t 23))])
 (.skip)))))
 (.region 0 [oP 24 (.bin .add (.t 10) (.c (.int .i64 1))),
 oP 10 (.move (.t 24))])))))))
 (.seq (.region 0 [oP 25 (.move (.t 5)),
 oP 4 (.move (.t 25))])
 (.ret))))⟩
/-- almadraba/almadrabaref10.paid -/
def f84 : AFn := ⟨24, [.tmp 6],
 .seq (.region 0 [oQ 3 (.box (.t 0)),
 oP 6 (.move (.c (.int .i64 0)))])
 (.seq (.seq (.region 0 [oQ 8 (.load true 1 (.t 3)),
 oQ 9 (.call 1 20 [(.t 8)]),
 oP 7 (.move (.t 9))])
 (.seq (.region 0 [oP 10 (.move (.t 7)),
 oP 11 (.bin .neq (.t 10) (.c (.int .i64 0)))])
 (.cond (.t 11) (.seq (.region 0 [oP 12 (.move (.t 7)),
 oP 6 (.move (.t 12))])
 (.ret))
 (.skip))))
 (.seq (.seq (.region 0 [oP 13 (.move (.t 1)),
 oP 14 (.lenS (.t 13)),
 oP 15 (.bin .gtr (.t 14) (.c (.int .i64 6)))])
 (.cond (.t 15) (.seq (.region 0 [oP 6 (.move (.c (.int .i64 2)))])
 (.ret))
 (.skip)))
 (.seq (.seq (.region 0 [oP 16 (.move (.t 2)),
 oP 17 (.un .not (.t 16)),
 oP 18 (.move (.t 17)),
 ⟨(some 19), .load true 1 (.t 3), (some (18, false)), none, []⟩,
 oG 20 18 false (.move (.t 1)),
 ⟨(some 21), .call 1 53 [(.t 19), (.t 20)], (some (18, false)), none, []⟩,
 oG 22 18 false (.un .not (.t 21)),
 oP 23 (.pick (.t 18) (.c (.bool true)) (.t 22))])
 (.cond (.t 23) (.seq (.region 0 [oP 6 (.move (.c (.int .i64 1)))])
 (.ret))
 (.skip)))
 (.seq (.region 0 [oP 6 (.move (.c (.int .i64 0)))])
 (.ret)))))⟩
/-- almadraba/almadrabaref10.wrong -/
def f85 : AFn := ⟨25, [.tmp 4],
 .seq (.region 0 [oQ 2 (.box (.t 0)),
 oP 4 (.move (.c (.nils)))])
 (.seq (.region 0 [oP 5 (.move (.c (.nils)))])
 (.seq (.seq (.region 0 [oP 6 (.move (.c (.int .i64 0)))])
 (.block 0 (.loop (.seq (.seq (.region 0 [oP 7 (.move (.t 6)),
 oP 8 (.move (.t 1)),
 oP 9 (.lenS (.t 8)),
 oP 10 (.bin .lss (.t 7) (.t 9))])
 (.cond (.t 10) (.skip)
 (.exit 0)))
 (.seq (.block 1 (.seq (.region 0 [oQ 13 (.load true 1 (.t 2)),
 oP 14 (.move (.t 1)),
 oP 15 (.move (.t 6)),
 oP 16 (.idxSl 3 (.t 14) (.t 15)),
 oQ 17 (.load true 3 (.t 16)),
 oQ 18 (.call 1 106 [(.t 13), (.t 17)]),
 oP 19 (.un .not (.t 18))])
 (.cond (.t 19) (.region 0 [oP 20 (.move (.t 5)),
 oP 21 (.move (.t 6)),
 oQ 22 (.litS 1 1 [.int .i64 0] [(0, (.t 21))]),
 oQ 23 (.append false 1 8 (.t 20) (.t 22)),
 oP 5 (.move (.t 23))])
 (.skip))))
 (.region 0 [oP 11 (.move (.t 6)),
 oP 12 (.bin .add (.t 11) (.c (.int .i64 1))),
 oP 6 (.move (.t 12))]))))))
 (.seq (.region 0 [oP 24 (.move (.t 5)),
 oP 4 (.move (.t 24))])
 (.ret))))⟩
/-- (almadraba/shares.custom).weights -/
def f86 : AFn := ⟨24, [.tmp 6],
 .seq (.region 0 [oQ 3 (.box (.t 0)),
 oP 6 (.move (.c (.nils)))])
 (.seq (.region 0 [oP 7 (.move (.c (.nils)))])
 (.seq (.seq (.region 0 [oP 9 (.move (.c (.int .i64 0)))])
 (.block 0 (.loop (.seq (.region 0 [oP 10 (.bin .lss (.t 9) (.c (.int .i64 10)))])
 (.seq (.cond (.t 10) (.skip)
 (.exit 0))
 (.seq (.block 1 (.seq (.region 0 [oP 11 (.move (.t 9)),
 oP 8 (.move (.t 11))])
 (.seq (.region 0 [oQ 12 (.load true 1 (.t 3)),
 oP 13 (.move (.t 1)),
 oP 14 (.move (.t 8)),
 oQ 15 (.call 1 107 [(.t 12), (.t 13), (.t 14)]),
 oP 16 (.move (.t 2)),
 oQ 17 (.call 1 105 [(.t 15), (.t 16)])])
 (.cond (.t 17) (.region 0 [oP 18 (.move (.t 7)),
 oP 19 (.move (.t 8)),
 oQ 20 (.litS 1 1 [.int .i64 0] [(0, (.t 19))]),
 oQ 21 (.append false 1 8 (.t 18) (.t 20)),
 oP 7 (.move (.t 21))])
 (.skip)))))
 (.region 0 [oP 22 (.bin .add (.t 9) (.c (.int .i64 1))),
 oP 9 (.move (.t 22))])))))))
 (.seq (.region 0 [oP 23 (.move (.t 7)),
 oP 6 (.move (.t 23))])
 (.ret))))⟩
/-- almadraba/almadrabaref10.Weighing -/
def f87 : AFn := ⟨24, [.cell true 1 6],
 .seq (.region 0 [oQ 3 (.box (.t 0)),
 oQ 6 (.alloc [.nils])])
 (.seq (.region 0 [oQ 9 (.load true 1 (.t 3)),
 oQ 10 (.call 2 18 [(.t 9)]),
 oQ 7 (.alloc [.nils]),
 ⟨none, .store 1 (.t 7) (.t 10), none, none, []⟩])
 (.seq (.region 0 [oP 11 (.fieldAddr 0 (.t 7)),
 oQ 12 (.load false 1 (.t 11)),
 oP 13 (.move (.t 1)),
 oP 14 (.idxSl 3 (.t 12) (.t 13)),
 oQ 15 (.load true 3 (.t 14)),
 oQ 8 (.alloc [.int .i64 0, .int .i64 0, .int .i64 0]),
 ⟨none, .store 3 (.t 8) (.t 15), none, none, []⟩])
 (.seq (.region 0 [oP 16 (.move (.t 2)),
 oP 17 (.fieldAddr 1 (.t 8)),
 ⟨none, .store 1 (.t 17) (.t 16), none, none, []⟩])
 (.seq (.region 0 [oP 18 (.fieldAddr 0 (.t 7)),
 oQ 19 (.load false 1 (.t 18)),
 oP 20 (.move (.t 1)),
 oQ 21 (.load true 3 (.t 8)),
 oP 22 (.idxSl 3 (.t 19) (.t 20)),
 ⟨none, .store 3 (.t 22) (.t 21), none, none, []⟩])
 (.seq (.region 0 [oQ 23 (.load true 1 (.t 7)),
 ⟨none, .store 1 (.t 6) (.t 23), none, none, []⟩])
 (.ret))))))⟩
/-- almadraba/shares.Ask$1 -/
def f88 : AFn := ⟨11, [.tmp 5],
 .seq (.region 0 [oP 5 (.move (.c (.bool false)))])
 (.seq (.region 0 [oQ 6 (.load true 1 (.t 1)),
 oQ 7 (.load false 1 (.t 2)),
 oP 8 (.move (.t 0)),
 oQ 9 (.load false 1 (.t 3)),
 oQ 10 (.call 1 89 [(.t 6), (.t 7), (.t 8), (.t 9)]),
 oP 5 (.move (.t 10))])
 (.ret))⟩
/-- (almadraba/shares.custom).apart -/
def f89 : AFn := ⟨33, [.tmp 8],
 .seq (.region 0 [oQ 4 (.box (.t 0)),
 oP 8 (.move (.c (.bool false)))])
 (.seq (.region 0 [oQ 12 (.makeMap (.i .i64)),
 oP 9 (.move (.t 12))])
 (.seq (.seq (.region 0 [oP 13 (.move (.t 3)),
 oP 14 (.lenS (.t 13)),
 oP 15 (.move (.c (.int .i64 0)))])
 (.block 0 (.loop (.seq (.region 0 [oP 16 (.bin .lss (.t 15) (.t 14))])
 (.seq (.cond (.t 16) (.skip)
 (.exit 0))
 (.seq (.block 1 (.seq (.region 0 [oP 17 (.idxSl 1 (.t 13) (.t 15)),
 oQ 18 (.load false 1 (.t 17)),
 oP 11 (.move (.t 18))])
 (.region 0 [oP 19 (.move (.t 9)),
 oQ 20 (.load true 1 (.t 4)),
 oP 21 (.move (.t 1)),
 oP 22 (.move (.t 11)),
 oQ 23 (.call 1 107 [(.t 20), (.t 21), (.t 22)]),
 oP 24 (.move (.t 1)),
 oP 25 (.move (.t 2)),
 oQ 26 (.call 1 75 [(.t 23), (.t 24), (.t 25)]),
 ⟨none, .mapSet (.i .i64) (.t 19) (.t 26) (.c (.bool true)) [], none, none, []⟩])))
 (.region 0 [oP 27 (.bin .add (.t 15) (.c (.int .i64 1))),
 oP 15 (.move (.t 27))])))))))
 (.seq (.region 0 [oP 28 (.move (.t 9)),
 oQ 29 (.w (.mln (.t 28))),
 oP 30 (.move (.t 3)),
 oP 31 (.lenS (.t 30)),
 oP 32 (.bin .eql (.t 29) (.t 31)),
 oP 8 (.move (.t 32))])
 (.ret))))⟩
/-- almadraba/almadrabaref10.Tells -/
def f90 : AFn := ⟨35, [.tmp 8],
 .seq (.region 0 [oQ 4 (.box (.t 0)),
 oP 8 (.move (.c (.bool false)))])
 (.seq (.region 0 [oP 9 (.move (.c (.nils)))])
 (.seq (.seq (.region 0 [oP 10 (.move (.c (.int .i64 0)))])
 (.block 0 (.loop (.seq (.seq (.region 0 [oP 12 (.move (.t 10)),
 oP 13 (.move (.t 2)),
 oP 14 (.lenS (.t 13)),
 oP 15 (.bin .lss (.t 12) (.t 14))])
 (.cond (.t 15) (.skip)
 (.exit 0)))
 (.seq (.block 1 (.seq (.region 0 [oQ 18 (.load true 1 (.t 4)),
 oP 19 (.move (.t 1)),
 oP 20 (.move (.t 2)),
 oP 21 (.move (.t 10)),
 oP 22 (.idxSl 1 (.t 20) (.t 21)),
 oQ 23 (.load false 1 (.t 22)),
 oQ 24 (.call 1 87 [(.t 18), (.t 19), (.t 23)]),
 oP 25 (.move (.t 1)),
 oP 26 (.move (.t 3)),
 oQ 27 (.call 1 68 [(.t 24), (.t 25), (.t 26)]),
 oP 11 (.move (.t 27))])
 (.seq (.seq (.region 0 [oP 28 (.move (.t 9)),
 oP 29 (.move (.t 11)),
 oQ 30 (.call 1 55 [(.t 28), (.t 29)])])
 (.cond (.t 30) (.seq (.region 0 [oP 8 (.move (.c (.bool false)))])
 (.ret))
 (.skip)))
 (.region 0 [oP 31 (.move (.t 9)),
 oP 32 (.move (.t 11)),
 oQ 33 (.litS 1 1 [.int .i64 0] [(0, (.t 32))]),
 oQ 34 (.append false 1 8 (.t 31) (.t 33)),
 oP 9 (.move (.t 34))]))))
 (.region 0 [oP 16 (.move (.t 10)),
 oP 17 (.bin .add (.t 16) (.c (.int .i64 1))),
 oP 10 (.move (.t 17))]))))))
 (.seq (.region 0 [oP 8 (.move (.c (.bool true)))])
 (.ret))))⟩
/-- almadraba/shares.within -/
def f91 : AFn := ⟨15, [.tmp 6],
 .seq (.region 0 [oP 6 (.move (.c (.bool false)))])
 (.seq (.region 0 [oP 7 (.move (.t 1)),
 oP 8 (.move (.t 0)),
 oP 9 (.bin .leq (.t 7) (.t 8)),
 oP 10 (.move (.t 9)),
 oG 11 10 true (.move (.t 0)),
 oG 12 10 true (.move (.t 2)),
 oG 13 10 true (.bin .leq (.t 11) (.t 12)),
 oP 14 (.pick (.t 10) (.t 13) (.c (.bool false))),
 oP 6 (.move (.t 14))])
 (.ret))⟩
/-- almadraba/shares.isTree -/
def f92 : AFn := ⟨33, [.tmp 2],
 .seq (.region 0 [oQ 1 (.box (.t 0)),
 oP 2 (.move (.c (.bool false)))])
 (.seq (.seq (.region 0 [oP 5 (.fieldAddr 0 (.t 1)),
 oQ 6 (.load false 1 (.t 5)),
 oP 7 (.lenS (.t 6)),
 oP 8 (.move (.c (.int .i64 0)))])
 (.block 0 (.loop (.seq (.region 0 [oP 9 (.bin .lss (.t 8) (.t 7))])
 (.seq (.cond (.t 9) (.skip)
 (.exit 0))
 (.seq (.block 1 (.seq (.region 0 [oP 10 (.move (.t 8)),
 oP 11 (.idxSl 3 (.t 6) (.t 8)),
 oQ 12 (.load true 3 (.t 11)),
 oQ 4 (.alloc [.int .i64 0, .int .i64 0, .int .i64 0]),
 oP 3 (.move (.t 10)),
 ⟨none, .store 3 (.t 4) (.t 12), none, none, []⟩])
 (.seq (.region 0 [oP 13 (.move (.t 3)),
 oP 14 (.bin .eql (.t 13) (.c (.int .i64 0))),
 oP 15 (.move (.t 14)),
 oG 16 15 true (.fieldAddr 0 (.t 4)),
 ⟨(some 17), .load false 1 (.t 16), (some (15, true)), none, []⟩,
 oG 18 15 true (.bin .neq (.t 17) (.c (.int .i64 (-1)))),
 oP 19 (.pick (.t 15) (.t 18) (.c (.bool false))),
 oP 20 (.move (.t 19)),
 oG 21 20 false (.move (.t 3)),
 oG 22 20 false (.bin .gtr (.t 21) (.c (.int .i64 0))),
 oG 23 20 false (.move (.t 22)),
 oG 24 23 true (.fieldAddr 0 (.t 4)),
 ⟨(some 25), .load false 1 (.t 24), (some (23, true)), none, []⟩,
 oG 26 23 true (.move (.t 3)),
 oG 27 23 true (.bin .sub (.t 26) (.c (.int .i64 1))),
 ⟨(some 28), .call 1 91 [(.t 25), (.c (.int .i64 0)), (.t 27)], (some (23, true)), none, []⟩,
 oG 29 23 true (.un .not (.t 28)),
 oG 30 20 false (.pick (.t 23) (.t 29) (.c (.bool false))),
 oP 31 (.pick (.t 20) (.c (.bool true)) (.t 30))])
 (.cond (.t 31) (.seq (.region 0 [oP 2 (.move (.c (.bool false)))])
 (.ret))
 (.skip)))))
 (.region 0 [oP 32 (.bin .add (.t 8) (.c (.int .i64 1))),
 oP 8 (.move (.t 32))])))))))
 (.seq (.region 0 [oP 2 (.move (.c (.bool true)))])
 (.ret)))⟩
/-- almadraba/shares.each[almadraba/api.ShareNode] -/
def f93 : AFn := ⟨9, [.tmp 4],
 .seq (.region 0 [oQ 3 (.box (.t 1)),
 oP 4 (.move (.c (.bool false)))])
 (.seq (.region 0 [oP 5 (.move (.t 0)),
 oP 6 (.mkFn 109 [] [(.t 3)]),
 oQ 7 (.call 3 108 [(.t 5), (.t 6)]),
 oP 8 (.un .not (.t 7)),
 oP 4 (.move (.t 8))])
 (.ret))⟩
/-- almadraba/shares.valid$1 -/
def f94 : AFn := ⟨11, [.tmp 2],
 .seq (.region 0 [oQ 1 (.box (.t 0)),
 oP 2 (.move (.c (.bool false)))])
 (.seq (.region 0 [oP 3 (.fieldAddr 1 (.t 1)),
 oQ 4 (.load false 1 (.t 3)),
 oQ 5 (.call 1 91 [(.t 4), (.c (.int .i64 0)), (.c (.int .i64 9))]),
 oP 6 (.move (.t 5)),
 oG 7 6 true (.fieldAddr 2 (.t 1)),
 ⟨(some 8), .load false 1 (.t 7), (some (6, true)), none, []⟩,
 ⟨(some 9), .call 1 91 [(.t 8), (.c (.int .i64 0)), (.c (.int .i64 20))], (some (6, true)), none, []⟩,
 oP 10 (.pick (.t 6) (.t 9) (.c (.bool false))),
 oP 2 (.move (.t 10))])
 (.ret))⟩
/-- almadraba/shares.fit$1 -/
def f95 : AFn := ⟨18, [.tmp 3],
 .seq (.region 0 [oQ 2 (.box (.t 0)),
 oP 3 (.move (.c (.bool false)))])
 (.seq (.region 0 [oQ 4 (.load true 1 (.t 1)),
 oP 5 (.fieldAddr 1 (.t 2)),
 oQ 6 (.load false 1 (.t 5)),
 oQ 7 (.call 1 70 [(.t 4), (.t 6)]),
 oP 8 (.move (.t 7)),
 oG 9 8 true (.fieldAddr 0 (.t 2)),
 ⟨(some 10), .load false 1 (.t 9), (some (8, true)), none, []⟩,
 ⟨(some 11), .call 1 63 [(.t 10)], (some (8, true)), none, []⟩,
 oP 12 (.pick (.t 8) (.t 11) (.c (.bool false))),
 oP 13 (.move (.t 12)),
 oG 14 13 true (.fieldAddr 2 (.t 2)),
 ⟨(some 15), .load false 1 (.t 14), (some (13, true)), none, []⟩,
 ⟨(some 16), .call 1 63 [(.t 15)], (some (13, true)), none, []⟩,
 oP 17 (.pick (.t 13) (.t 16) (.c (.bool false))),
 oP 3 (.move (.t 17))])
 (.ret))⟩
/-- almadraba/shares.each[almadraba/api.SharePay] -/
def f96 : AFn := ⟨9, [.tmp 4],
 .seq (.region 0 [oQ 3 (.box (.t 1)),
 oP 4 (.move (.c (.bool false)))])
 (.seq (.region 0 [oP 5 (.move (.t 0)),
 oP 6 (.mkFn 111 [] [(.t 3)]),
 oQ 7 (.call 3 110 [(.t 5), (.t 6)]),
 oP 8 (.un .not (.t 7)),
 oP 4 (.move (.t 8))])
 (.ret))⟩
/-- maps.Keys[map[int]int,int,int] -/
def f99 : AFn := ⟨4, [.tmp 2],
 .seq (.region 0 [oQ 1 (.box (.t 0)),
 oP 2 (.move (.c (.nilf)))])
 (.seq (.region 0 [oP 3 (.mkFn 114 [] [(.t 1)]),
 oP 2 (.move (.t 3))])
 (.ret))⟩
/-- (almadraba/shares.custom).below -/
def f100 : AFn := ⟨6, [.tmp 4],
 .seq (.region 0 [oQ 2 (.box (.t 0)),
 oQ 3 (.box (.t 1)),
 oP 4 (.move (.c (.nilf)))])
 (.seq (.region 0 [oP 5 (.mkFn 115 [] [(.t 2), (.t 3)]),
 oP 4 (.move (.t 5))])
 (.ret))⟩
/-- (almadraba/shares.custom).sum -/
def f101 : AFn := ⟨21, [.tmp 4],
 .seq (.region 0 [oQ 2 (.box (.t 0)),
 oP 4 (.move (.c (.int .i64 0)))])
 (.seq (.region 0 [oQ 5 (.alloc [.int .i64 0]),
 ⟨none, .store 1 (.t 5) (.c (.int .i64 0)), none, none, []⟩])
 (.seq (.seq (.region 0 [oQ 7 (.load true 1 (.t 2)),
 oP 8 (.move (.t 1)),
 oQ 9 (.call 0 100 [(.t 7), (.t 8)])])
 (.block 0 (.rangeFunc (.t 9) [10] (.region 0 [oP 6 (.move (.t 10))])
 (.block 1 (.region 0 [oQ 11 (.load false 1 (.t 5)),
 oP 12 (.fieldAddr 0 (.t 2)),
 oP 13 (.fieldAddr 0 (.t 12)),
 oQ 14 (.load false 1 (.t 13)),
 oP 15 (.move (.t 6)),
 oP 16 (.idxSl 3 (.t 14) (.t 15)),
 oP 17 (.fieldAddr 1 (.t 16)),
 oQ 18 (.load false 1 (.t 17)),
 oP 19 (.bin .add (.t 11) (.t 18)),
 ⟨none, .store 1 (.t 5) (.t 19), none, none, []⟩])))))
 (.seq (.region 0 [oQ 20 (.load false 1 (.t 5)),
 oP 4 (.move (.t 20))])
 (.ret))))⟩
/-- almadraba/shares.lowest -/
def f102 : AFn := ⟨22, [.cell true 2 4],
 .seq (.region 0 [oQ 4 (.alloc [.int .i64 0, .int .i64 0])])
 (.seq (.region 0 [oP 7 (.move (.t 1)),
 oP 8 (.move (.t 0)),
 oP 5 (.move (.t 7)),
 oP 6 (.move (.t 8))])
 (.seq (.block 0 (.loop (.seq (.seq (.region 0 [oP 9 (.move (.t 6)),
 oP 10 (.bin .gtr (.t 9) (.c (.int .i64 0)))])
 (.cond (.t 10) (.skip)
 (.exit 0)))
 (.block 1 (.region 0 [oP 11 (.move (.t 6)),
 oP 12 (.move (.t 5)),
 oP 13 (.move (.t 6)),
 oP 14 (.bin .rem (.t 12) (.t 13)),
 oP 5 (.move (.t 11)),
 oP 6 (.move (.t 14))])))))
 (.seq (.region 0 [oP 15 (.move (.t 0)),
 oP 16 (.move (.t 5)),
 oP 17 (.bin .quo (.t 15) (.t 16)),
 oP 18 (.move (.t 1)),
 oP 19 (.move (.t 5)),
 oP 20 (.bin .quo (.t 18) (.t 19)),
 oP 21 (.build [.int .i64 0, .int .i64 0] [(0, 1, (.t 17)), (1, 1, (.t 20))]),
 ⟨none, .store 2 (.t 4) (.t 21), none, none, []⟩])
 (.ret))))⟩
/-- slices.ContainsFunc[[]int,int] -/
def f103 : AFn := ⟨9, [.tmp 4],
 .seq (.region 0 [oP 4 (.move (.c (.bool false)))])
 (.seq (.region 0 [oP 5 (.move (.t 0)),
 oP 6 (.move (.t 1)),
 oQ 7 (.call 3 116 [(.t 5), (.t 6)]),
 oP 8 (.bin .geq (.t 7) (.c (.int .i64 0))),
 oP 4 (.move (.t 8))])
 (.ret))⟩
/-- almadraba/shares.each[int]$1 -/
def f104 : AFn := ⟨8, [.tmp 3],
 .seq (.region 0 [oP 3 (.move (.c (.bool false)))])
 (.seq (.region 0 [oQ 4 (.load false 1 (.t 1)),
 oP 5 (.move (.t 0)),
 oQ 6 (.callv true (.t 4) [(.t 5)]),
 oP 7 (.un .not (.t 6)),
 oP 3 (.move (.t 7))])
 (.ret))⟩
/-- (almadraba/shares.custom).agrees -/
def f105 : AFn := ⟨8, [.tmp 4],
 .seq (.region 0 [oQ 2 (.box (.t 0)),
 oP 4 (.move (.c (.bool false)))])
 (.seq (.region 0 [oP 5 (.move (.t 1)),
 oP 6 (.mkFn 117 [] [(.t 2)]),
 oQ 7 (.call 3 96 [(.t 5), (.t 6)]),
 oP 4 (.move (.t 7))])
 (.ret))⟩
/-- almadraba/almadrabaref10.Agrees -/
def f106 : AFn := ⟨14, [.tmp 4],
 .seq (.region 0 [oQ 2 (.box (.t 0)),
 oQ 3 (.box (.t 1)),
 oP 4 (.move (.c (.bool false)))])
 (.seq (.region 0 [oQ 5 (.load true 1 (.t 2)),
 oP 6 (.fieldAddr 1 (.t 3)),
 oQ 7 (.load false 1 (.t 6)),
 oP 8 (.fieldAddr 0 (.t 3)),
 oQ 9 (.load false 1 (.t 8)),
 oQ 10 (.call 1 68 [(.t 5), (.t 7), (.t 9)]),
 oP 11 (.fieldAddr 2 (.t 3)),
 oQ 12 (.load false 1 (.t 11)),
 oP 13 (.bin .eql (.t 10) (.t 12)),
 oP 4 (.move (.t 13))])
 (.ret))⟩
/-- (almadraba/shares.custom).with -/
def f107 : AFn := ⟨21, [.cell true 1 6],
 .seq (.region 0 [oQ 3 (.box (.t 0)),
 oQ 6 (.alloc [.nils])])
 (.seq (.region 0 [oP 7 (.fieldAddr 0 (.t 3)),
 oP 8 (.fieldAddr 0 (.t 7)),
 oQ 9 (.load false 1 (.t 8)),
 oQ 10 (.call 2 118 [(.t 9)]),
 oP 11 (.fieldAddr 0 (.t 3)),
 oP 12 (.fieldAddr 0 (.t 11)),
 ⟨none, .store 1 (.t 12) (.t 10), none, none, []⟩])
 (.seq (.region 0 [oP 13 (.fieldAddr 0 (.t 3)),
 oP 14 (.fieldAddr 0 (.t 13)),
 oQ 15 (.load false 1 (.t 14)),
 oP 16 (.move (.t 1)),
 oP 17 (.move (.t 2)),
 oP 18 (.idxSl 3 (.t 15) (.t 16)),
 oP 19 (.fieldAddr 1 (.t 18)),
 ⟨none, .store 1 (.t 19) (.t 17), none, none, []⟩])
 (.seq (.region 0 [oQ 20 (.load true 1 (.t 3)),
 ⟨none, .store 1 (.t 6) (.t 20), none, none, []⟩])
 (.ret))))⟩
/-- slices.ContainsFunc[[]almadraba/api.ShareNode,almadraba/api.ShareNode] -/
def f108 : AFn := ⟨9, [.tmp 4],
 .seq (.region 0 [oP 4 (.move (.c (.bool false)))])
 (.seq (.region 0 [oP 5 (.move (.t 0)),
 oP 6 (.move (.t 1)),
 oQ 7 (.call 3 119 [(.t 5), (.t 6)]),
 oP 8 (.bin .geq (.t 7) (.c (.int .i64 0))),
 oP 4 (.move (.t 8))])
 (.ret))⟩
/-- almadraba/shares.each[almadraba/api.ShareNode]$1 -/
def f109 : AFn := ⟨8, [.tmp 3],
 .seq (.region 0 [oQ 2 (.box (.t 0)),
 oP 3 (.move (.c (.bool false)))])
 (.seq (.region 0 [oQ 4 (.load false 1 (.t 1)),
 oQ 5 (.load true 3 (.t 2)),
 oQ 6 (.callv true (.t 4) [(.t 5)]),
 oP 7 (.un .not (.t 6)),
 oP 3 (.move (.t 7))])
 (.ret))⟩
/-- slices.ContainsFunc[[]almadraba/api.SharePay,almadraba/api.SharePay] -/
def f110 : AFn := ⟨9, [.tmp 4],
 .seq (.region 0 [oP 4 (.move (.c (.bool false)))])
 (.seq (.region 0 [oP 5 (.move (.t 0)),
 oP 6 (.move (.t 1)),
 oQ 7 (.call 3 120 [(.t 5), (.t 6)]),
 oP 8 (.bin .geq (.t 7) (.c (.int .i64 0))),
 oP 4 (.move (.t 8))])
 (.ret))⟩
/-- almadraba/shares.each[almadraba/api.SharePay]$1 -/
def f111 : AFn := ⟨8, [.tmp 3],
 .seq (.region 0 [oQ 2 (.box (.t 0)),
 oP 3 (.move (.c (.bool false)))])
 (.seq (.region 0 [oQ 4 (.load false 1 (.t 1)),
 oQ 5 (.load true 3 (.t 2)),
 oQ 6 (.callv true (.t 4) [(.t 5)]),
 oP 7 (.un .not (.t 6)),
 oP 3 (.move (.t 7))])
 (.ret))⟩
/-- (almadraba/shares.custom).below$1 -/
def f115 : AFn := ⟨26, [],
 .seq (.region 0 [oP 6 (.fieldAddr 0 (.t 1)),
 oP 7 (.fieldAddr 0 (.t 6)),
 oQ 8 (.load false 1 (.t 7)),
 oP 9 (.lenS (.t 8)),
 oP 10 (.move (.c (.int .i64 0)))])
 (.block 0 (.loop (.seq (.region 0 [oP 11 (.bin .lss (.t 10) (.t 9))])
 (.seq (.cond (.t 11) (.skip)
 (.exit 0))
 (.seq (.block 1 (.seq (.region 0 [oP 12 (.move (.t 10)),
 oP 13 (.idxSl 3 (.t 8) (.t 10)),
 oQ 14 (.load true 3 (.t 13)),
 oQ 5 (.alloc [.int .i64 0, .int .i64 0, .int .i64 0]),
 oP 4 (.move (.t 12)),
 ⟨none, .store 3 (.t 5) (.t 14), none, none, []⟩])
 (.seq (.region 0 [oP 15 (.fieldAddr 0 (.t 5)),
 oQ 16 (.load false 1 (.t 15)),
 oQ 17 (.load false 1 (.t 2)),
 oP 18 (.bin .eql (.t 16) (.t 17)),
 oP 19 (.move (.t 18)),
 oG 20 19 true (.move (.t 0)),
 oG 21 19 true (.move (.t 4)),
 ⟨(some 22), .callv false (.t 20) [(.t 21)], (some (19, true)), none, []⟩,
 oG 23 19 true (.un .not (.t 22)),
 oP 24 (.pick (.t 19) (.t 23) (.c (.bool false)))])
 (.cond (.t 24) (.ret)
 (.skip)))))
 (.region 0 [oP 25 (.bin .add (.t 10) (.c (.int .i64 1))),
 oP 10 (.move (.t 25))]))))))⟩
/-- slices.IndexFunc[[]int,int] -/
def f116 : AFn := ⟨19, [.tmp 4],
 .seq (.region 0 [oP 4 (.move (.c (.int .i64 0)))])
 (.seq (.seq (.region 0 [oP 6 (.move (.t 0)),
 oP 7 (.lenS (.t 6)),
 oP 8 (.move (.c (.int .i64 0)))])
 (.block 0 (.loop (.seq (.region 0 [oP 9 (.bin .lss (.t 8) (.t 7))])
 (.seq (.cond (.t 9) (.skip)
 (.exit 0))
 (.seq (.block 1 (.seq (.region 0 [oP 10 (.move (.t 8)),
 oP 5 (.move (.t 10))])
 (.seq (.region 0 [oP 11 (.move (.t 1)),
 oP 12 (.move (.t 0)),
 oP 13 (.move (.t 5)),
 oP 14 (.idxSl 1 (.t 12) (.t 13)),
 oQ 15 (.load false 1 (.t 14)),
 oQ 16 (.callv true (.t 11) [(.t 15)])])
 (.cond (.t 16) (.seq (.region 0 [oP 17 (.move (.t 5)),
 oP 4 (.move (.t 17))])
 (.ret))
 (.skip)))))
 (.region 0 [oP 18 (.bin .add (.t 8) (.c (.int .i64 1))),
 oP 8 (.move (.t 18))])))))))
 (.seq (.region 0 [oP 4 (.move (.c (.int .i64 (-1))))])
 (.ret)))⟩
/-- (almadraba/shares.custom).agrees$1 -/
def f117 : AFn := ⟨13, [.tmp 3],
 .seq (.region 0 [oQ 2 (.box (.t 0)),
 oP 3 (.move (.c (.bool false)))])
 (.seq (.region 0 [oQ 4 (.load true 1 (.t 1)),
 oP 5 (.fieldAddr 1 (.t 2)),
 oQ 6 (.load false 1 (.t 5)),
 oP 7 (.fieldAddr 0 (.t 2)),
 oQ 8 (.load false 1 (.t 7)),
 oQ 9 (.call 1 75 [(.t 4), (.t 6), (.t 8)]),
 oP 10 (.fieldAddr 2 (.t 2)),
 oQ 11 (.load false 1 (.t 10)),
 oP 12 (.bin .eql (.t 9) (.t 11)),
 oP 3 (.move (.t 12))])
 (.ret))⟩
/-- slices.Clone[[]almadraba/api.ShareNode,almadraba/api.ShareNode] -/
def f118 : AFn := ⟨8, [.tmp 2],
 .seq (.region 0 [oP 2 (.move (.c (.nils)))])
 (.seq (.seq (.region 0 [oP 3 (.move (.t 0)),
 oP 4 (.isNil (.t 3) (.c (.nils)))])
 (.cond (.t 4) (.seq (.region 0 [oP 2 (.move (.c (.nils)))])
 (.ret))
 (.skip)))
 (.seq (.region 0 [oQ 5 (.buildSlice 3 0 [.int .i64 0, .int .i64 0, .int .i64 0] []),
 oP 6 (.move (.t 0)),
 oQ 7 (.append false 3 24 (.t 5) (.t 6)),
 oP 2 (.move (.t 7))])
 (.ret)))⟩
/-- slices.IndexFunc[[]almadraba/api.ShareNode,almadraba/api.ShareNode] -/
def f119 : AFn := ⟨19, [.tmp 4],
 .seq (.region 0 [oP 4 (.move (.c (.int .i64 0)))])
 (.seq (.seq (.region 0 [oP 6 (.move (.t 0)),
 oP 7 (.lenS (.t 6)),
 oP 8 (.move (.c (.int .i64 0)))])
 (.block 0 (.loop (.seq (.region 0 [oP 9 (.bin .lss (.t 8) (.t 7))])
 (.seq (.cond (.t 9) (.skip)
 (.exit 0))
 (.seq (.block 1 (.seq (.region 0 [oP 10 (.move (.t 8)),
 oP 5 (.move (.t 10))])
 (.seq (.region 0 [oP 11 (.move (.t 1)),
 oP 12 (.move (.t 0)),
 oP 13 (.move (.t 5)),
 oP 14 (.idxSl 3 (.t 12) (.t 13)),
 oQ 15 (.load true 3 (.t 14)),
 oQ 16 (.callv true (.t 11) [(.t 15)])])
 (.cond (.t 16) (.seq (.region 0 [oP 17 (.move (.t 5)),
 oP 4 (.move (.t 17))])
 (.ret))
 (.skip)))))
 (.region 0 [oP 18 (.bin .add (.t 8) (.c (.int .i64 1))),
 oP 8 (.move (.t 18))])))))))
 (.seq (.region 0 [oP 4 (.move (.c (.int .i64 (-1))))])
 (.ret)))⟩
/-- slices.IndexFunc[[]almadraba/api.SharePay,almadraba/api.SharePay] -/
def f120 : AFn := ⟨19, [.tmp 4],
 .seq (.region 0 [oP 4 (.move (.c (.int .i64 0)))])
 (.seq (.seq (.region 0 [oP 6 (.move (.t 0)),
 oP 7 (.lenS (.t 6)),
 oP 8 (.move (.c (.int .i64 0)))])
 (.block 0 (.loop (.seq (.region 0 [oP 9 (.bin .lss (.t 8) (.t 7))])
 (.seq (.cond (.t 9) (.skip)
 (.exit 0))
 (.seq (.block 1 (.seq (.region 0 [oP 10 (.move (.t 8)),
 oP 5 (.move (.t 10))])
 (.seq (.region 0 [oP 11 (.move (.t 1)),
 oP 12 (.move (.t 0)),
 oP 13 (.move (.t 5)),
 oP 14 (.idxSl 3 (.t 12) (.t 13)),
 oQ 15 (.load true 3 (.t 14)),
 oQ 16 (.callv true (.t 11) [(.t 15)])])
 (.cond (.t 16) (.seq (.region 0 [oP 17 (.move (.t 5)),
 oP 4 (.move (.t 17))])
 (.ret))
 (.skip)))))
 (.region 0 [oP 18 (.bin .add (.t 8) (.c (.int .i64 1))),
 oP 8 (.move (.t 18))])))))))
 (.seq (.region 0 [oP 4 (.move (.c (.int .i64 (-1))))])
 (.ret)))⟩
/-- cmp.isNaN[int] -/
def f140 : AFn := ⟨6, [.tmp 2],
 .seq (.region 0 [oP 2 (.move (.c (.bool false)))])
 (.seq (.region 0 [oP 3 (.move (.t 0)),
 oP 4 (.move (.t 0)),
 oP 5 (.bin .neq (.t 3) (.t 4)),
 oP 2 (.move (.t 5))])
 (.ret))⟩
/-- slices.order2Ordered[int] -/
def f141 : AFn := ⟨28, [.tmp 8, .tmp 9],
 .seq (.region 0 [oP 8 (.move (.c (.int .i64 0))),
 oP 9 (.move (.c (.int .i64 0)))])
 (.seq (.seq (.region 0 [oP 10 (.move (.t 0)),
 oP 11 (.move (.t 2)),
 oP 12 (.idxSl 1 (.t 10) (.t 11)),
 oQ 13 (.load false 1 (.t 12)),
 oP 14 (.move (.t 0)),
 oP 15 (.move (.t 1)),
 oP 16 (.idxSl 1 (.t 14) (.t 15)),
 oQ 17 (.load false 1 (.t 16)),
 oQ 18 (.call 1 130 [(.t 13), (.t 17)])])
 (.cond (.t 18) (.seq (.region 0 [oP 19 (.move (.t 3)),
 oP 20 (.nilCheck (.t 19)),
 oQ 21 (.load false 1 (.t 20)),
 oP 22 (.bin .add (.t 21) (.c (.int .i64 1))),
 oP 23 (.nilCheck (.t 19)),
 ⟨none, .store 1 (.t 23) (.t 22), none, none, []⟩])
 (.seq (.region 0 [oP 24 (.move (.t 2)),
 oP 25 (.move (.t 1)),
 oP 8 (.move (.t 24)),
 oP 9 (.move (.t 25))])
 (.ret)))
 (.skip)))
 (.seq (.region 0 [oP 26 (.move (.t 1)),
 oP 27 (.move (.t 2)),
 oP 8 (.move (.t 26)),
 oP 9 (.move (.t 27))])
 (.ret)))⟩
end Go.Proofs.Ytaeijjfgfenfhaa.T
