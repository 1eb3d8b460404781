/-
The code of functions of the seat, as the abstract machine has it (printed by a tool of ours off the dump).
-/
import Derived.Test.YtfknojncfbahpaaGreatTabA
namespace Go.Proofs.YtfknojncfbahpaaGreat.T
open Go Go.Am
def f92 : AFn:=⟨62,[.tmp 2],
 .seq (.region 0 [oQ 1 (.box (.t 0)),
 oC 2 0])
 (.seq (.seq (.region 0 [oF 5 0 1,
 oL 6 false 1 5,
 oQ 7 (.call 1 23 [(.t 6),(.c (.int .i64 1)),(.c (.int .i64 4))]),
 oP 8 (.un .not (.t 7)),
 oM 9 8,
 oG 10 9 false (.fieldAddr 1 (.t 1)),
 ⟨(some 11),.load false 1 (.t 10),(some (9,false)),none,[]⟩,
 ⟨(some 12),.call 1 23 [(.t 11),(.c (.int .i64 1)),(.c (.int .i64 5))],(some (9,false)),none,[]⟩,
 oG 13 9 false (.un .not (.t 12)),
 oP 14 (.pick (.t 9) (.c (.bool true)) (.t 13)),
 oM 15 14,
 oG 16 15 false (.fieldAddr 2 (.t 1)),
 ⟨(some 17),.load false 1 (.t 16),(some (15,false)),none,[]⟩,
 oG 18 15 false (.lenS (.t 17)),
 oG 19 15 false (.fieldAddr 1 (.t 1)),
 ⟨(some 20),.load false 1 (.t 19),(some (15,false)),none,[]⟩,
 oG 21 15 false (.bin .sub (.t 20) (.c (.int .i64 1))),
 oG 22 15 false (.bin .neq (.t 18) (.t 21)),
 oP 23 (.pick (.t 15) (.c (.bool true)) (.t 22)),
 oM 24 23,
 oG 25 24 false (.fieldAddr 3 (.t 1)),
 ⟨(some 26),.load false 1 (.t 25),(some (24,false)),none,[]⟩,
 oG 27 24 false (.lenS (.t 26)),
 oG 28 24 false (.bin .gtr (.t 27) (.c (.int .i64 8))),
 oP 29 (.pick (.t 24) (.c (.bool true)) (.t 28))])
 (.cond (.t 29) (.seq (.region 0 [oC 2 10])
 (.ret))
 (.skip)))
 (.seq (.seq (.region 0 [oC 3 0])
 (.block 0 (.loop (.seq (.seq (.region 0 [oM 30 3,
 oF 31 2 1,
 oL 32 false 1 31,
 oP 33 (.lenS (.t 32)),
 oP 34 (.bin .lss (.t 30) (.t 33))])
 (.cond (.t 34) (.skip)
 (.exit 0)))
 (.seq (.block 1 (.seq (.region 0 [oF 37 2 1,
 oL 38 false 1 37,
 oM 39 3,
 oD 40 1 38 39,
 oL 41 false 1 40,
 oF 42 0 1,
 oL 43 false 1 42,
 oP 44 (.bin .sub (.t 43) (.c (.int .i64 1))),
 oQ 45 (.call 1 42 [(.t 41),(.c (.int .i64 0)),(.t 44)]),
 oP 46 (.un .not (.t 45))])
 (.cond (.t 46) (.seq (.region 0 [oC 2 10])
 (.ret))
 (.skip))))
 (.region 0 [oM 35 3,
 oP 36 (.bin .add (.t 35) (.c (.int .i64 1))),
 oM 3 36]))))))
 (.seq (.seq (.region 0 [oC 4 0])
 (.block 2 (.loop (.seq (.seq (.region 0 [oM 47 4,
 oF 48 3 1,
 oL 49 false 1 48,
 oP 50 (.lenS (.t 49)),
 oP 51 (.bin .lss (.t 47) (.t 50))])
 (.cond (.t 51) (.skip)
 (.exit 2)))
 (.seq (.block 3 (.seq (.region 0 [oL 54 true 4 1,
 oF 55 3 1,
 oL 56 false 1 55,
 oM 57 4,
 oD 58 4 56 57,
 oL 59 true 4 58,
 oQ 60 (.call 1 129 [(.t 54),(.t 59)]),
 oP 61 (.un .not (.t 60))])
 (.cond (.t 61) (.seq (.region 0 [oC 2 10])
 (.ret))
 (.skip))))
 (.region 0 [oM 52 4,
 oP 53 (.bin .add (.t 52) (.c (.int .i64 1))),
 oM 4 53]))))))
 (.seq (.region 0 [oC 2 0])
 (.ret)))))⟩
def f93 : AFn:=⟨34,[.cell true 8 2],
 .seq (.region 0 [oQ 1 (.box (.t 0)),
 oQ 2 (.alloc [.int .i64 0,.int .i64 0,.nils,.nils,.int .i64 0,.int .i64 0,.nils,.nils])])
 (.seq (.region 0 [oL 8 true 7 1,
 oP 9 (.build [.int .i64 0,.int .i64 0,.nils,.nils,.int .i64 0,.int .i64 0,.nils,.nils] [(0,7,(.t 8))]),
 oQ 3 (.alloc [.int .i64 0,.int .i64 0,.nils,.nils,.int .i64 0,.int .i64 0,.nils,.nils]),
 ⟨none,.store 8 (.t 3) (.t 9),none,none,[]⟩])
 (.seq (.seq (.region 0 [oF 10 0 1,
 oF 11 1 10,
 oL 12 false 1 11,
 oQ 13 (.call 1 122 [(.t 12)]),
 oP 14 (.lenS (.t 13)),
 oC 15 0])
 (.block 0 (.loop (.seq (.region 0 [oP 16 (.bin .lss (.t 15) (.t 14))])
 (.seq (.cond (.t 16) (.skip)
 (.exit 0))
 (.seq (.block 1 (.seq (.region 0 [oD 17 1 13 15,
 oL 18 false 1 17,
 oM 5 18])
 (.seq (.region 0 [oL 20 true 8 3,
 oM 21 5,
 oQ 22 (.call 0 70 [(.t 20),(.t 21)]),
 oM 19 22,
 oE 23 19 0,
 oE 24 19 1,
 oQ 6 (.alloc [.nils,.int .i64 0,.int .i64 0,.nils,.nils]),
 ⟨none,.store 5 (.t 6) (.t 23),none,none,[]⟩,
 oM 7 24])
 (.seq (.region 0 [oM 25 7])
 (.cond (.t 25) (.region 0 [oF 26 7 3,
 oL 27 false 1 26,
 oL 28 true 5 6,
 oQ 29 (.buildSlice 5 1 [.nils,.int .i64 0,.int .i64 0,.nils,.nils] [(0,(.t 28))]),
 oQ 30 (.append false 5 88 (.t 27) (.t 29)),
 oF 31 7 3,
 ⟨none,.store 1 (.t 31) (.t 30),none,none,[]⟩])
 (.skip))))))
 (.region 0 [oP 32 (.bin .add (.t 15) (.c (.int .i64 1))),
 oM 15 32])))))))
 (.seq (.region 0 [oL 33 true 8 3,
 ⟨none,.store 8 (.t 2) (.t 33),none,none,[]⟩])
 (.ret))))⟩
def f100 : AFn:=⟨10,[.tmp 4],
 .seq (.region 0 [oQ 2 (.box (.t 0)),
 oP 4 (.move (.c (.bool false)))])
 (.seq (.region 0 [oM 5 1,
 oF 6 0 2,
 oL 7 false 1 6,
 oP 8 (.bin .sub (.t 7) (.c (.int .i64 1))),
 oQ 9 (.call 1 23 [(.t 5),(.c (.int .i64 0)),(.t 8)]),
 oM 4 9])
 (.ret))⟩
def f106 : AFn:=⟨9,[.tmp 4],
 .seq (.region 0 [oC 4 0])
 (.seq (.region 0 [oM 5 0,
 oM 6 1,
 oP 7 (.slice 1 (.t 5) (some (.t 6)) none),
 oQ 8 (.call 1 136 [(.t 7)]),
 oM 4 8])
 (.ret))⟩
def f107 : AFn:=⟨14,[.cell true 4 8],
 .seq (.region 0 [oQ 8 (.alloc [.int .i64 0,.int .i64 0,.int .i64 0,.int .i64 0])])
 (.seq (.region 0 [oM 9 0,
 oM 10 1,
 oM 11 2,
 oM 12 3,
 oP 13 (.build [.int .i64 0,.int .i64 0,.int .i64 0,.int .i64 0] [(0,1,(.t 9)),(1,1,(.t 10)),(2,1,(.t 11)),(3,1,(.t 12))]),
 ⟨none,.store 4 (.t 8) (.t 13),none,none,[]⟩])
 (.ret))⟩
def f108 : AFn:=⟨15,[.tmp 6],
 .seq (.region 0 [oP 6 (.move (.c (.bool false)))])
 (.seq (.region 0 [oM 7 1,
 oM 8 0,
 oP 9 (.bin .leq (.t 7) (.t 8)),
 oM 10 9,
 oN 11 10 true 0,
 oN 12 10 true 2,
 oG 13 10 true (.bin .leq (.t 11) (.t 12)),
 oP 14 (.pick (.t 10) (.t 13) (.c (.bool false))),
 oM 6 14])
 (.ret))⟩
def f109 : AFn:=⟨34,[.cell true 4 4],
 .seq (.region 0 [oQ 2 (.box (.t 0)),
 oQ 4 (.alloc [.int .i64 0,.int .i64 0,.nils,.nils])])
 (.seq (.region 0 [oF 8 0 2,
 oF 9 0 8,
 oL 10 true 4 9,
 oQ 5 (.alloc [.int .i64 0,.int .i64 0,.nils,.nils]),
 ⟨none,.store 4 (.t 5) (.t 10),none,none,[]⟩])
 (.seq (.region 0 [oF 11 3 5,
 ⟨none,.store 1 (.t 11) (.c (.nils)),none,none,[]⟩])
 (.seq (.seq (.region 0 [oF 12 0 2,
 oF 13 0 12,
 oF 14 3 13,
 oL 15 false 1 14,
 oP 16 (.lenS (.t 15)),
 oC 17 0])
 (.block 0 (.loop (.seq (.region 0 [oP 18 (.bin .lss (.t 17) (.t 16))])
 (.seq (.cond (.t 18) (.skip)
 (.exit 0))
 (.seq (.block 1 (.seq (.region 0 [oM 19 17,
 oD 20 4 15 17,
 oL 21 true 4 20,
 oQ 7 (.alloc [.int .i64 0,.int .i64 0,.int .i64 0,.int .i64 0]),
 oM 6 19,
 ⟨none,.store 4 (.t 7) (.t 21),none,none,[]⟩])
 (.seq (.region 0 [oM 22 1,
 oM 23 6,
 oQ 24 (.callv true (.t 22) [(.t 23)]),
 oP 25 (.un .not (.t 24))])
 (.cond (.t 25) (.region 0 [oF 26 3 5,
 oL 27 false 1 26,
 oL 28 true 4 7,
 oQ 29 (.litS 4 1 [.int .i64 0,.int .i64 0,.int .i64 0,.int .i64 0] [(0,(.t 28))]),
 oQ 30 (.append false 4 32 (.t 27) (.t 29)),
 oF 31 3 5,
 ⟨none,.store 1 (.t 31) (.t 30),none,none,[]⟩])
 (.skip)))))
 (.region 0 [oP 32 (.bin .add (.t 17) (.c (.int .i64 1))),
 oM 17 32])))))))
 (.seq (.region 0 [oL 33 true 4 5,
 ⟨none,.store 4 (.t 4) (.t 33),none,none,[]⟩])
 (.ret)))))⟩
def f110 : AFn:=⟨15,[.tmp 4],
 .seq (.region 0 [oP 4 (.move (.c (.bool false)))])
 (.seq (.region 0 [oL 5 false 1 1,
 oF 6 0 2,
 oF 7 0 6,
 oF 8 3 7,
 oL 9 false 1 8,
 oM 10 0,
 oD 11 4 9 10,
 oF 12 0 11,
 oL 13 false 1 12,
 oQ 14 (.call 1 111 [(.t 5),(.t 13)]),
 oM 4 14])
 (.ret))⟩
def f111 : AFn:=⟨8,[.tmp 4],
 .seq (.region 0 [oP 4 (.move (.c (.bool false)))])
 (.seq (.region 0 [oM 5 0,
 oM 6 1,
 oQ 7 (.call 1 137 [(.t 5),(.t 6)]),
 oM 4 7])
 (.ret))⟩
def f112 : AFn:=⟨28,[.tmp 4],
 .seq (.region 0 [oQ 2 (.box (.t 0)),
 oP 4 (.move (.c (.bool false)))])
 (.seq (.region 0 [oM 5 1,
 oP 6 (.lenS (.t 5)),
 oF 7 0 2,
 oF 8 4 7,
 oL 9 false 1 8,
 oP 10 (.bin .leq (.t 6) (.t 9)),
 oM 11 10,
 oN 12 11 true 1,
 ⟨(some 13),.call 1 138 [(.t 12)],(some (11,true)),none,[]⟩,
 oG 14 11 true (.fieldAddr 0 (.t 2)),
 oG 15 11 true (.fieldAddr 5 (.t 14)),
 ⟨(some 16),.load false 1 (.t 15),(some (11,true)),none,[]⟩,
 oG 17 11 true (.bin .leq (.t 13) (.t 16)),
 oP 18 (.pick (.t 11) (.t 17) (.c (.bool false))),
 oM 19 18,
 oG 20 19 true (.fieldAddr 0 (.t 2)),
 oG 21 19 true (.fieldAddr 6 (.t 20)),
 ⟨(some 22),.load false 1 (.t 21),(some (19,true)),none,[]⟩,
 oN 23 19 true 1,
 oG 24 19 true (.mkFn 111 [(.t 23)] []),
 ⟨(some 25),.call 3 139 [(.t 22),(.t 24)],(some (19,true)),none,[]⟩,
 oG 26 19 true (.un .not (.t 25)),
 oP 27 (.pick (.t 19) (.t 26) (.c (.bool false))),
 oM 4 27])
 (.ret))⟩
def f113 : AFn:=⟨12,[.tmp 2],
 .seq (.region 0 [oQ 1 (.box (.t 0)),
 oP 2 (.move (.c (.bool false)))])
 (.seq (.region 0 [oL 6 true 4 1,
 oQ 7 (.call 1 140 [(.t 6)]),
 oM 5 7,
 oE 8 5 0,
 oE 9 5 1,
 oM 3 8,
 oM 4 9])
 (.seq (.region 0 [oM 10 4,
 oP 11 (.bin .eql (.t 10) (.c (.int .i64 0))),
 oM 2 11])
 (.ret)))⟩
def f114 : AFn:=⟨29,[.tmp 4],
 .seq (.region 0 [oQ 2 (.box (.t 0)),
 oC 4 0])
 (.seq (.region 0 [oM 8 1,
 oF 9 7 2,
 oL 10 false 1 9,
 oP 11 (.idxSl 5 (.t 10) (.c (.int .i64 0))),
 oL 12 true 5 11,
 oQ 13 (.callv true (.t 8) [(.t 12)]),
 oM 5 13])
 (.seq (.seq (.region 0 [oF 14 7 2,
 oL 15 false 1 14,
 oP 16 (.slice 5 (.t 15) (some (.c (.int .i64 1))) none),
 oP 17 (.lenS (.t 16)),
 oC 18 0])
 (.block 0 (.loop (.seq (.region 0 [oP 19 (.bin .lss (.t 18) (.t 17))])
 (.seq (.cond (.t 19) (.skip)
 (.exit 0))
 (.seq (.block 1 (.seq (.region 0 [oD 20 5 16 18,
 oL 21 true 5 20,
 oQ 7 (.alloc [.nils,.int .i64 0,.int .i64 0,.nils,.nils]),
 ⟨none,.store 5 (.t 7) (.t 21),none,none,[]⟩])
 (.seq (.region 0 [oM 22 1,
 oL 23 true 5 7,
 oQ 24 (.callv true (.t 22) [(.t 23)]),
 oM 25 5,
 oP 26 (.bin .neq (.t 24) (.t 25))])
 (.cond (.t 26) (.seq (.region 0 [oC 4 3])
 (.ret))
 (.skip)))))
 (.region 0 [oP 27 (.bin .add (.t 18) (.c (.int .i64 1))),
 oM 18 27])))))))
 (.seq (.region 0 [oM 28 5,
 oM 4 28])
 (.ret))))⟩
def f115 : AFn:=⟨25,[.tmp 4],
 .seq (.region 0 [oQ 3 (.box (.t 0)),
 oC 4 0])
 (.seq (.region 0 [oF 8 1 3,
 oL 9 true 4 8,
 oF 10 0 1,
 oF 11 0 10,
 oF 12 3 11,
 oL 13 false 1 12,
 oL 14 false 1 2,
 oD 15 4 13 14,
 oL 16 true 4 15,
 oQ 17 (.call 1 116 [(.t 9),(.t 16)]),
 oM 7 17,
 oE 18 7 0,
 oE 19 7 1,
 oM 5 18,
 oM 6 19])
 (.seq (.seq (.region 0 [oM 20 5])
 (.block 0 (.seq (.region 0 [oP 22 (.bin .eql (.t 20) (.c (.int .i64 1))),
 oM 21 22])
 (.cond (.t 21) (.seq (.region 0 [oC 4 2])
 (.ret))
 (.seq (.region 0 [oP 24 (.bin .eql (.t 20) (.c (.int .i64 2))),
 oM 23 24])
 (.cond (.t 23) (.seq (.region 0 [oC 4 1])
 (.ret))
 (.skip)))))))
 (.seq (.region 0 [oC 4 3])
 (.ret))))⟩
def f116 : AFn:=⟨22,[.tmp 4,.tmp 5],
 .seq (.region 0 [oQ 2 (.box (.t 0)),
 oQ 3 (.box (.t 1)),
 oC 4 0,
 oC 5 0])
 (.seq (.region 0 [oL 9 true 4 2,
 oL 10 true 4 2,
 oL 11 true 4 3,
 oQ 12 (.call 1 141 [(.t 10),(.t 11)]),
 oQ 13 (.call 2 117 [(.t 9),(.t 12)]),
 oM 8 13,
 oE 14 8 0,
 oE 15 8 1,
 oM 6 14,
 oM 7 15])
 (.seq (.seq (.region 0 [oM 16 7,
 oP 17 (.bin .neq (.t 16) (.c (.int .i64 0)))])
 (.cond (.t 17) (.seq (.region 0 [oM 18 7,
 oC 4 0,
 oM 5 18])
 (.ret))
 (.skip)))
 (.seq (.region 0 [oM 19 6,
 oL 20 true 4 3,
 oQ 21 (.call 3 142 [(.t 19),(.t 20)]),
 oM 4 21,
 oC 5 0])
 (.ret))))⟩
def f117 : AFn:=⟨24,[.tmp 4,.tmp 5],
 .seq (.region 0 [oQ 2 (.box (.t 0)),
 oP 4 (.move (.c (.nilp))),
 oC 5 0])
 (.seq (.seq (.region 0 [oL 9 true 4 2,
 oQ 10 (.call 1 128 [(.t 9)]),
 oM 6 10])
 (.seq (.region 0 [oM 11 6,
 oP 12 (.bin .neq (.t 11) (.c (.int .i64 0)))])
 (.cond (.t 12) (.seq (.region 0 [oM 13 6,
 oP 4 (.move (.c (.nilp))),
 oM 5 13])
 (.ret))
 (.skip))))
 (.seq (.seq (.region 0 [oM 14 1,
 oP 15 (.un .not (.t 14))])
 (.cond (.t 15) (.seq (.region 0 [oP 4 (.move (.c (.nilp))),
 oC 5 1])
 (.ret))
 (.skip)))
 (.seq (.region 0 [oL 17 true 4 2,
 oQ 18 (.call 2 143 [(.t 17)]),
 oM 16 18,
 oE 19 16 0,
 oE 20 16 1,
 oM 7 19,
 oM 8 20])
 (.seq (.seq (.region 0 [oM 21 8,
 oP 22 (.un .not (.t 21))])
 (.cond (.t 22) (.seq (.region 0 [oP 4 (.move (.c (.nilp))),
 oC 5 3])
 (.ret))
 (.skip)))
 (.seq (.region 0 [oM 23 7,
 oM 4 23,
 oC 5 0])
 (.ret))))))⟩
def f118 : AFn:=⟨20,[.tmp 6],
 .seq (.region 0 [oQ 3 (.box (.t 0)),
 oP 6 (.move (.c (.bool false)))])
 (.seq (.region 0 [oL 7 true 4 3,
 oM 8 1,
 oQ 9 (.call 1 134 [(.t 7),(.t 8)]),
 oM 10 9,
 oN 11 10 true 2,
 oG 12 10 true (.bin .leq (.c (.int .i64 0)) (.t 11)),
 oP 13 (.pick (.t 10) (.t 12) (.c (.bool false))),
 oM 14 13,
 oN 15 14 true 2,
 oG 16 14 true (.fieldAddr 0 (.t 3)),
 ⟨(some 17),.load false 1 (.t 16),(some (14,true)),none,[]⟩,
 oG 18 14 true (.bin .lss (.t 15) (.t 17)),
 oP 19 (.pick (.t 14) (.t 18) (.c (.bool false))),
 oM 6 19])
 (.ret))⟩
def f119 : AFn:=⟨22,[.cell true 2 4],
 .seq (.region 0 [oQ 3 (.box (.t 1)),
 oQ 4 (.alloc [.int .i64 0,.int .i64 0])])
 (.seq (.region 0 [oM 5 0,
 oP 6 (.nilCheck (.t 5)),
 oF 7 4 6,
 oM 8 0,
 oF 9 0 3,
 oL 10 false 1 9,
 oF 11 1 3,
 oL 12 false 1 11,
 oQ 13 (.call 3 145 [(.t 8),(.t 10),(.t 12)]),
 oM 14 0,
 oF 15 0 3,
 oL 16 false 1 15,
 oF 17 1 3,
 oL 18 false 1 17,
 oP 19 (.bin .add (.t 18) (.c (.int .i64 1))),
 oQ 20 (.call 3 145 [(.t 14),(.t 16),(.t 19)]),
 oQ 21 (.call 3 144 [(.t 7),(.t 13),(.t 20)]),
 ⟨none,.store 2 (.t 4) (.t 21),none,none,[]⟩])
 (.ret))⟩
def f120 : AFn:=⟨8,[.tmp 3],
 .seq (.region 0 [oQ 2 (.box (.t 0)),
 oC 3 0])
 (.seq (.seq (.region 0 [oF 4 0 2,
 oL 5 false 1 4,
 oL 6 false 1 1,
 oQ 7 (.call 1 111 [(.t 5),(.t 6)])])
 (.cond (.t 7) (.seq (.region 0 [oC 3 1])
 (.ret))
 (.skip)))
 (.seq (.region 0 [oC 3 2])
 (.ret)))⟩
def f121 : AFn:=⟨85,[.tmp 14],
 .seq (.region 0 [oP 14 (.move (.c (.bool false)))])
 (.seq (.region 2 [oM 17 0,
 oM 18 1,
 oD 19 1 17 18,
 ⟨(some 20),.load false 1 (.t 19),none,none,[0,1]⟩,
 oM 21 2,
 oD 22 2 20 21,
 ⟨(some 23),.load true 2 (.t 22),none,none,[0,1]⟩,
 oM 24 0,
 oM 25 3,
 oD 26 1 24 25,
 ⟨(some 27),.load false 1 (.t 26),none,none,[0,1]⟩,
 oM 28 4,
 oD 29 2 27 28,
 ⟨(some 30),.load true 2 (.t 29),none,none,[0,1]⟩,
 ⟨(some 15),.alloc [.int .i64 0,.int .i64 0],none,(some 0),[]⟩,
 ⟨(some 16),.alloc [.int .i64 0,.int .i64 0],none,(some 1),[]⟩,
 ⟨none,.store 2 (.t 15) (.t 23),none,(some 0),[]⟩,
 ⟨none,.store 2 (.t 16) (.t 30),none,(some 1),[]⟩])
 (.seq (.region 0 [oM 31 0,
 oM 32 1,
 oD 33 1 31 32,
 oL 34 false 1 33,
 oM 35 2,
 oL 36 true 2 15,
 oF 37 0 16,
 oL 38 false 1 37,
 oM 39 5,
 oP 40 (.bin .add (.t 38) (.t 39)),
 oF 41 1 16,
 oL 42 false 1 41,
 oM 43 6,
 oP 44 (.bin .add (.t 42) (.t 43)),
 oP 45 (.build [.int .i64 0,.int .i64 0] [(0,1,(.t 40)),(1,1,(.t 44))]),
 oQ 46 (.call 1 146 [(.t 36),(.t 45)]),
 oD 47 2 34 35,
 ⟨none,.store 2 (.t 47) (.t 46),none,none,[]⟩])
 (.seq (.region 0 [oM 48 0,
 oM 49 3,
 oD 50 1 48 49,
 oL 51 false 1 50,
 oM 52 4,
 oL 53 true 2 16,
 oF 54 0 15,
 oL 55 false 1 54,
 oM 56 6,
 oP 57 (.bin .sub (.t 55) (.t 56)),
 oF 58 1 15,
 oL 59 false 1 58,
 oM 60 5,
 oP 61 (.bin .sub (.t 59) (.t 60)),
 oP 62 (.build [.int .i64 0,.int .i64 0] [(0,1,(.t 57)),(1,1,(.t 61))]),
 oQ 63 (.call 1 146 [(.t 53),(.t 62)]),
 oD 64 2 51 52,
 ⟨none,.store 2 (.t 64) (.t 63),none,none,[]⟩])
 (.seq (.region 0 [oM 65 0,
 oM 66 1,
 oD 67 1 65 66,
 oL 68 false 1 67,
 oM 69 2,
 oD 70 2 68 69,
 oL 71 true 2 70,
 oL 72 true 2 15,
 oP 73 (.eqS true [true,true] (.t 71) (.t 72)),
 oM 74 73,
 oN 75 74 false 0,
 oN 76 74 false 3,
 oG 77 74 false (.idxSl 1 (.t 75) (.t 76)),
 ⟨(some 78),.load false 1 (.t 77),(some (74,false)),none,[]⟩,
 oN 79 74 false 4,
 oG 80 74 false (.idxSl 2 (.t 78) (.t 79)),
 ⟨(some 81),.load true 2 (.t 80),(some (74,false)),none,[]⟩,
 ⟨(some 82),.load true 2 (.t 16),(some (74,false)),none,[]⟩,
 oG 83 74 false (.eqS true [true,true] (.t 81) (.t 82)),
 oP 84 (.pick (.t 74) (.c (.bool true)) (.t 83)),
 oM 14 84])
 (.ret)))))⟩
def f122 : AFn:=⟨49,[.tmp 2],
 .seq (.region 0 [oP 2 (.move (.c (.nils)))])
 (.seq (.region 0 [oQ 7 (.buildSlice 1 1 [.nils] [(0,(.c (.nils)))]),
 oM 3 7])
 (.seq (.seq (.region 0 [oM 8 0,
 oP 9 (.bin .shl (.c (.int .i64 1)) (.t 8)),
 oC 10 0])
 (.block 0 (.loop (.seq (.region 0 [oP 11 (.bin .lss (.t 10) (.t 9))])
 (.seq (.cond (.t 11) (.skip)
 (.exit 0))
 (.seq (.block 1 (.seq (.region 0 [oM 12 10,
 oM 4 12])
 (.seq (.region 0 [oM 13 3,
 oM 14 4,
 oD 15 1 13 14,
 oL 16 false 1 15,
 oM 5 16])
 (.seq (.region 0 [oM 17 0,
 oC 18 0])
 (.block 2 (.loop (.seq (.region 0 [oP 19 (.bin .lss (.t 18) (.t 17))])
 (.seq (.cond (.t 19) (.skip)
 (.exit 2))
 (.seq (.block 3 (.seq (.region 0 [oM 20 18,
 oM 6 20])
 (.seq (.region 0 [oM 21 5,
 oP 22 (.lenS (.t 21)),
 oP 23 (.bin .eql (.t 22) (.c (.int .i64 0))),
 oM 24 23,
 oN 25 24 false 5,
 oN 26 24 false 5,
 oG 27 24 false (.lenS (.t 26)),
 oG 28 24 false (.bin .sub (.t 27) (.c (.int .i64 1))),
 oG 29 24 false (.idxSl 1 (.t 25) (.t 28)),
 ⟨(some 30),.load false 1 (.t 29),(some (24,false)),none,[]⟩,
 oN 31 24 false 6,
 oG 32 24 false (.bin .lss (.t 30) (.t 31)),
 oP 33 (.pick (.t 24) (.c (.bool true)) (.t 32))])
 (.cond (.t 33) (.region 0 [oM 34 3,
 oM 35 5,
 oM 36 5,
 oP 37 (.lenS (.t 36)),
 oM 38 5,
 oP 39 (.lenS (.t 38)),
 oP 40 (.slice3 1 (.t 35) (.t 37) (.t 39)),
 oM 41 6,
 oQ 42 (.buildSlice 1 1 [.int .i64 0] [(0,(.t 41))]),
 oQ 43 (.append false 1 8 (.t 40) (.t 42)),
 oQ 44 (.buildSlice 1 1 [.nils] [(0,(.t 43))]),
 oQ 45 (.append false 1 24 (.t 34) (.t 44)),
 oM 3 45])
 (.skip)))))
 (.region 0 [oP 46 (.bin .add (.t 18) (.c (.int .i64 1))),
 oM 18 46]))))))))))
 (.region 0 [oP 47 (.bin .add (.t 10) (.c (.int .i64 1))),
 oM 10 47])))))))
 (.seq (.region 0 [oM 48 3,
 oM 2 48])
 (.ret))))⟩
def f123 : AFn:=⟨30,[.tmp 4],
 .seq (.region 0 [oQ 2 (.box (.t 0)),
 oP 4 (.move (.c (.nils)))])
 (.seq (.region 0 [oP 5 (.move (.c (.nils)))])
 (.seq (.seq (.region 0 [oM 8 1,
 oP 9 (.lenS (.t 8)),
 oC 10 0])
 (.block 0 (.loop (.seq (.region 0 [oP 11 (.bin .lss (.t 10) (.t 9))])
 (.seq (.cond (.t 11) (.skip)
 (.exit 0))
 (.seq (.block 1 (.seq (.region 0 [oD 12 1 8 10,
 oL 13 false 1 12,
 oM 7 13])
 (.region 0 [oM 14 5,
 oF 15 0 2,
 oF 16 0 15,
 oF 17 3 16,
 oL 18 false 1 17,
 oM 19 7,
 oD 20 4 18 19,
 oF 21 0 20,
 oL 22 false 1 21,
 oQ 23 (.litS 1 1 [.int .i64 0] [(0,(.t 22))]),
 oQ 24 (.append false 1 8 (.t 14) (.t 23)),
 oM 5 24])))
 (.region 0 [oP 25 (.bin .add (.t 10) (.c (.int .i64 1))),
 oM 10 25])))))))
 (.seq (.region 0 [oM 26 5,
 oQ 27 (.call 0 147 [(.t 26)])])
 (.seq (.region 0 [oM 28 5,
 oQ 29 (.call 0 148 [(.t 28)]),
 oM 4 29])
 (.ret)))))⟩
def f124 : AFn:=⟨7,[.tmp 3],
 .seq (.region 0 [oP 3 (.move (.c (.bool false)))])
 (.seq (.region 0 [oL 4 false 1 1,
 oM 5 0,
 oQ 6 (.call 1 125 [(.t 4),(.t 5)]),
 oM 3 6])
 (.ret))⟩
def f125 : AFn:=⟨9,[.tmp 4],
 .seq (.region 0 [oP 4 (.move (.c (.bool false)))])
 (.seq (.region 0 [oM 5 0,
 oM 6 1,
 oQ 7 (.call 1 149 [(.t 5),(.t 6)]),
 oP 8 (.bin .geq (.t 7) (.c (.int .i64 0))),
 oM 4 8])
 (.ret))⟩
def f127 : AFn:=⟨19,[.tmp 2],
 .seq (.region 0 [oP 2 (.move (.c (.bool false)))])
 (.seq (.seq (.region 0 [oM 4 0,
 oP 5 (.lenS (.t 4)),
 oP 6 (.bin .gtr (.t 5) (.c (.int .i64 40)))])
 (.cond (.t 6) (.seq (.region 0 [oP 2 (.move (.c (.bool true)))])
 (.ret))
 (.skip)))
 (.seq (.seq (.region 0 [oC 3 0])
 (.block 0 (.loop (.seq (.seq (.region 0 [oM 7 3,
 oM 8 0,
 oP 9 (.lenS (.t 8)),
 oP 10 (.bin .lss (.t 7) (.t 9))])
 (.cond (.t 10) (.skip)
 (.exit 0)))
 (.seq (.block 1 (.seq (.region 0 [oM 13 0,
 oM 14 3,
 oD 15 1 13 14,
 oL 16 false 1 15,
 oP 17 (.lenS (.t 16)),
 oP 18 (.bin .gtr (.t 17) (.c (.int .i64 40)))])
 (.cond (.t 18) (.seq (.region 0 [oP 2 (.move (.c (.bool true)))])
 (.ret))
 (.skip))))
 (.region 0 [oM 11 3,
 oP 12 (.bin .add (.t 11) (.c (.int .i64 1))),
 oM 3 12]))))))
 (.seq (.region 0 [oP 2 (.move (.c (.bool false)))])
 (.ret))))⟩
def f128 : AFn:=⟨6,[.tmp 2],
 .seq (.region 0 [oQ 1 (.box (.t 0)),
 oC 2 0])
 (.seq (.seq (.region 0 [oL 3 true 4 1,
 oQ 4 (.call 1 150 [(.t 3)]),
 oP 5 (.un .not (.t 4))])
 (.cond (.t 5) (.seq (.region 0 [oC 2 10])
 (.ret))
 (.skip)))
 (.seq (.region 0 [oC 2 0])
 (.ret)))⟩
def f129 : AFn:=⟨27,[.tmp 4],
 .seq (.region 0 [oQ 2 (.box (.t 0)),
 oQ 3 (.box (.t 1)),
 oP 4 (.move (.c (.bool false)))])
 (.seq (.region 0 [oL 5 true 4 2,
 oF 6 0 3,
 oL 7 false 1 6,
 oQ 8 (.call 1 85 [(.t 5),(.t 7)]),
 oM 9 8,
 ⟨(some 10),.load true 4 (.t 2),(some (9,true)),none,[]⟩,
 oG 11 9 true (.fieldAddr 1 (.t 3)),
 ⟨(some 12),.load false 1 (.t 11),(some (9,true)),none,[]⟩,
 ⟨(some 13),.call 1 100 [(.t 10),(.t 12)],(some (9,true)),none,[]⟩,
 oP 14 (.pick (.t 9) (.t 13) (.c (.bool false))),
 oM 15 14,
 oG 16 15 true (.fieldAddr 3 (.t 3)),
 ⟨(some 17),.load false 1 (.t 16),(some (15,true)),none,[]⟩,
 ⟨(some 18),.call 1 23 [(.t 17),(.c (.int .i64 0)),(.c (.int .i64 40))],(some (15,true)),none,[]⟩,
 oP 19 (.pick (.t 15) (.t 18) (.c (.bool false))),
 oM 20 19,
 oG 21 20 true (.fieldAddr 2 (.t 3)),
 ⟨(some 22),.load false 1 (.t 21),(some (20,true)),none,[]⟩,
 oG 23 20 true (.fieldAddr 3 (.t 3)),
 ⟨(some 24),.load false 1 (.t 23),(some (20,true)),none,[]⟩,
 ⟨(some 25),.call 1 23 [(.t 22),(.c (.int .i64 0)),(.t 24)],(some (20,true)),none,[]⟩,
 oP 26 (.pick (.t 20) (.t 25) (.c (.bool false))),
 oM 4 26])
 (.ret))⟩
def f134 : AFn:=⟨13,[.tmp 4],
 .seq (.region 0 [oQ 2 (.box (.t 0)),
 oP 4 (.move (.c (.bool false)))])
 (.seq (.region 0 [oM 5 1,
 oP 6 (.bin .leq (.c (.int .i64 0)) (.t 5)),
 oM 7 6,
 oN 8 7 true 1,
 oG 9 7 true (.fieldAddr 1 (.t 2)),
 ⟨(some 10),.load false 1 (.t 9),(some (7,true)),none,[]⟩,
 oG 11 7 true (.bin .lss (.t 8) (.t 10)),
 oP 12 (.pick (.t 7) (.t 11) (.c (.bool false))),
 oM 4 12])
 (.ret))⟩
def f136 : AFn:=⟨18,[.tmp 2],
 .seq (.region 0 [oC 2 0])
 (.seq (.region 0 [oC 3 0])
 (.seq (.seq (.region 0 [oC 4 0])
 (.block 0 (.loop (.seq (.seq (.region 0 [oM 5 4,
 oM 6 0,
 oP 7 (.lenS (.t 6)),
 oP 8 (.bin .lss (.t 5) (.t 7))])
 (.cond (.t 8) (.skip)
 (.exit 0)))
 (.seq (.block 1 (.region 0 [oM 11 3,
 oM 12 0,
 oM 13 4,
 oD 14 1 12 13,
 oL 15 false 1 14,
 oP 16 (.bin .add (.t 11) (.t 15)),
 oM 3 16]))
 (.region 0 [oM 9 4,
 oP 10 (.bin .add (.t 9) (.c (.int .i64 1))),
 oM 4 10]))))))
 (.seq (.region 0 [oM 17 3,
 oM 2 17])
 (.ret))))⟩
def f137 : AFn:=⟨9,[.tmp 4],
 .seq (.region 0 [oP 4 (.move (.c (.bool false)))])
 (.seq (.region 0 [oM 5 0,
 oM 6 1,
 oQ 7 (.call 1 152 [(.t 5),(.t 6)]),
 oP 8 (.bin .geq (.t 7) (.c (.int .i64 0))),
 oM 4 8])
 (.ret))⟩
def f138 : AFn:=⟨25,[.tmp 2],
 .seq (.region 0 [oC 2 0])
 (.seq (.region 0 [oC 3 0,
 oC 4 0])
 (.seq (.seq (.region 0 [oM 7 0,
 oP 8 (.lenS (.t 7)),
 oC 9 0])
 (.block 0 (.loop (.seq (.region 0 [oP 10 (.bin .lss (.t 9) (.t 8))])
 (.seq (.cond (.t 10) (.skip)
 (.exit 0))
 (.seq (.block 1 (.seq (.region 0 [oD 11 1 7 9,
 oL 12 false 1 11,
 oM 6 12])
 (.seq (.seq (.region 0 [oM 13 0,
 oM 14 6,
 oP 15 (.bin .sub (.t 14) (.c (.int .i64 1))),
 oQ 16 (.call 1 111 [(.t 13),(.t 15)]),
 oP 17 (.un .not (.t 16))])
 (.cond (.t 17) (.region 0 [oC 4 0])
 (.skip)))
 (.seq (.region 0 [oM 18 4,
 oP 19 (.bin .add (.t 18) (.c (.int .i64 1))),
 oM 4 19])
 (.region 0 [oM 20 3,
 oM 21 4,
 oP 22 (.minmax true (.t 20) [(.t 21)]),
 oM 3 22])))))
 (.region 0 [oP 23 (.bin .add (.t 9) (.c (.int .i64 1))),
 oM 9 23])))))))
 (.seq (.region 0 [oM 24 3,
 oM 2 24])
 (.ret))))⟩
def f139 : AFn:=⟨9,[.tmp 4],
 .seq (.region 0 [oP 4 (.move (.c (.bool false)))])
 (.seq (.region 0 [oM 5 0,
 oM 6 1,
 oQ 7 (.call 3 153 [(.t 5),(.t 6)]),
 oP 8 (.bin .geq (.t 7) (.c (.int .i64 0))),
 oM 4 8])
 (.ret))⟩
def f140 : AFn:=⟨16,[.tmp 2,.tmp 3],
 .seq (.region 0 [oQ 1 (.box (.t 0)),
 oP 2 (.move (.c (.nils))),
 oC 3 0])
 (.seq (.region 0 [oL 7 true 4 1,
 oQ 8 (.call 2 117 [(.t 7),(.c (.bool true))]),
 oM 6 8,
 oE 9 6 0,
 oE 10 6 1,
 oM 4 9,
 oM 5 10])
 (.seq (.seq (.region 0 [oM 11 5,
 oP 12 (.bin .neq (.t 11) (.c (.int .i64 0)))])
 (.cond (.t 12) (.seq (.region 0 [oM 13 5,
 oP 2 (.move (.c (.nils))),
 oM 3 13])
 (.ret))
 (.skip)))
 (.seq (.region 0 [oM 14 4,
 oQ 15 (.call 0 154 [(.t 14)]),
 oM 2 15,
 oC 3 0])
 (.ret))))⟩
def f141 : AFn:=⟨28,[.tmp 4],
 .seq (.region 0 [oQ 2 (.box (.t 0)),
 oQ 3 (.box (.t 1)),
 oP 4 (.move (.c (.bool false)))])
 (.seq (.region 0 [oL 5 true 4 2,
 oF 6 0 3,
 oL 7 false 1 6,
 oF 8 1 3,
 oL 9 false 1 8,
 oQ 10 (.call 1 118 [(.t 5),(.t 7),(.t 9)]),
 oM 11 10,
 oG 12 11 true (.fieldAddr 2 (.t 3)),
 ⟨(some 13),.load false 1 (.t 12),(some (11,true)),none,[]⟩,
 oG 14 11 true (.bin .leq (.c (.int .i64 0)) (.t 13)),
 oP 15 (.pick (.t 11) (.t 14) (.c (.bool false))),
 oM 16 15,
 oG 17 16 true (.fieldAddr 2 (.t 3)),
 ⟨(some 18),.load false 1 (.t 17),(some (16,true)),none,[]⟩,
 oG 19 16 true (.fieldAddr 3 (.t 3)),
 ⟨(some 20),.load false 1 (.t 19),(some (16,true)),none,[]⟩,
 oG 21 16 true (.bin .leq (.t 18) (.t 20)),
 oP 22 (.pick (.t 16) (.t 21) (.c (.bool false))),
 oM 23 22,
 oG 24 23 true (.fieldAddr 3 (.t 3)),
 ⟨(some 25),.load false 1 (.t 24),(some (23,true)),none,[]⟩,
 oG 26 23 true (.bin .leq (.t 25) (.c (.int .i64 40))),
 oP 27 (.pick (.t 23) (.t 26) (.c (.bool false))),
 oM 4 27])
 (.ret))⟩
def f142 : AFn:=⟨39,[.tmp 4],
 .seq (.region 0 [oQ 3 (.box (.t 1)),
 oC 4 0])
 (.seq (.region 0 [oM 6 0,
 oF 7 0 3,
 oL 8 false 1 7,
 oF 9 1 3,
 oL 10 false 1 9,
 oP 11 (.build [.int .i64 0,.int .i64 0] [(0,1,(.t 8)),(1,1,(.t 10))]),
 oQ 12 (.call 3 119 [(.t 6),(.t 11)]),
 oQ 5 (.alloc [.int .i64 0,.int .i64 0]),
 ⟨none,.store 2 (.t 5) (.t 12),none,none,[]⟩])
 (.seq (.block 0 (.seq (.region 0 [oF 14 2 3,
 oL 15 false 1 14,
 oF 16 0 5,
 oL 17 false 1 16,
 oP 18 (.bin .leq (.t 15) (.t 17)),
 oM 19 18,
 oG 20 19 true (.fieldAddr 1 (.t 5)),
 ⟨(some 21),.load false 1 (.t 20),(some (19,true)),none,[]⟩,
 oG 22 19 true (.fieldAddr 3 (.t 3)),
 ⟨(some 23),.load false 1 (.t 22),(some (19,true)),none,[]⟩,
 oG 24 19 true (.bin .leq (.t 21) (.t 23)),
 oP 25 (.pick (.t 19) (.t 24) (.c (.bool false))),
 oM 13 25])
 (.cond (.t 13) (.seq (.region 0 [oC 4 1])
 (.ret))
 (.seq (.region 0 [oF 27 3 3,
 oL 28 false 1 27,
 oF 29 0 5,
 oL 30 false 1 29,
 oP 31 (.bin .lss (.t 28) (.t 30)),
 oM 32 31,
 oG 33 32 false (.fieldAddr 1 (.t 5)),
 ⟨(some 34),.load false 1 (.t 33),(some (32,false)),none,[]⟩,
 oG 35 32 false (.fieldAddr 2 (.t 3)),
 ⟨(some 36),.load false 1 (.t 35),(some (32,false)),none,[]⟩,
 oG 37 32 false (.bin .lss (.t 34) (.t 36)),
 oP 38 (.pick (.t 32) (.c (.bool true)) (.t 37)),
 oM 26 38])
 (.cond (.t 26) (.seq (.region 0 [oC 4 2])
 (.ret))
 (.skip))))))
 (.seq (.region 0 [oC 4 3])
 (.ret))))⟩
def f143 : AFn:=⟨20,[.tmp 2,.tmp 3],
 .seq (.region 0 [oQ 1 (.box (.t 0)),
 oP 2 (.move (.c (.nilp))),
 oP 3 (.move (.c (.bool false)))])
 (.seq (.region 1 [⟨(some 5),.load true 4 (.t 1),none,none,[0]⟩,
 ⟨(some 6),.call 1 155 [],none,none,[0]⟩,
 oP 7 (.build [.int .i64 0,.int .i64 0,.nils,.nils,.int .i64 0,.int .i64 0,.int .i64 0,.int .i64 0,.int .i64 0,.int .i64 0,.int .i64 0,.int .i64 0,.int .i64 0,.int .i64 0,.int .i64 0,.int .i64 0,.int .i64 0,.int .i64 0,.int .i64 0,.int .i64 0,.int .i64 0,.int .i64 0,.int .i64 0,.int .i64 0,.int .i64 0,.int .i64 0,.int .i64 0,.int .i64 0,.int .i64 0,.int .i64 0,.int .i64 0,.int .i64 0,.int .i64 0,.int .i64 0,.int .i64 0,.int .i64 0,.int .i64 0,.int .i64 0,.int .i64 0,.int .i64 0,.int .i64 0,.int .i64 0,.int .i64 0,.int .i64 0,.int .i64 0,.int .i64 0,.int .i64 0,.int .i64 0,.int .i64 0,.int .i64 0,.int .i64 0,.int .i64 0,.int .i64 0,.int .i64 0,.int .i64 0,.int .i64 0,.int .i64 0,.int .i64 0,.int .i64 0,.int .i64 0,.int .i64 0,.int .i64 0,.int .i64 0,.int .i64 0,.int .i64 0,.int .i64 0,.int .i64 0,.int .i64 0,.int .i64 0,.int .i64 0,.int .i64 0,.int .i64 0,.int .i64 0,.int .i64 0,.int .i64 0,.int .i64 0,.int .i64 0,.int .i64 0,.int .i64 0,.int .i64 0,.int .i64 0,.int .i64 0,.int .i64 0,.int .i64 0,.int .i64 0,.int .i64 0,.int .i64 0,.int .i64 0,.int .i64 0,.int .i64 0,.int .i64 0,.int .i64 0,.int .i64 0,.int .i64 0,.int .i64 0,.int .i64 0,.int .i64 0,.int .i64 0,.int .i64 0,.int .i64 0,.int .i64 0,.int .i64 0,.int .i64 0,.int .i64 0,.int .i64 0,.int .i64 0,.int .i64 0,.int .i64 0,.int .i64 0,.int .i64 0,.int .i64 0,.int .i64 0,.int .i64 0,.int .i64 0,.int .i64 0,.int .i64 0,.int .i64 0,.int .i64 0,.int .i64 0,.int .i64 0,.int .i64 0,.int .i64 0,.int .i64 0,.int .i64 0,.int .i64 0,.int .i64 0,.int .i64 0,.int .i64 0,.int .i64 0,.int .i64 0,.int .i64 0,.int .i64 0,.int .i64 0,.int .i64 0,.int .i64 0,.int .i64 0,.int .i64 0,.int .i64 0,.int .i64 0,.int .i64 0,.int .i64 0,.int .i64 0,.int .i64 0,.int .i64 0,.int .i64 0,.int .i64 0,.int .i64 0,.int .i64 0,.int .i64 0,.int .i64 0,.int .i64 0,.int .i64 0,.int .i64 0,.int .i64 0,.int .i64 0,.int .i64 0,.int .i64 0,.int .i64 0,.int .i64 0,.int .i64 0,.int .i64 0,.int .i64 0,.int .i64 0,.int .i64 0,.int .i64 0,.int .i64 0,.int .i64 0,.int .i64 0,.int .i64 0,.int .i64 0,.int .i64 0,.int .i64 0,.int .i64 0,.int .i64 0,.int .i64 0,.int .i64 0,.int .i64 0,.int .i64 0,.int .i64 0,.int .i64 0,.int .i64 0,.int .i64 0,.int .i64 0,.int .i64 0,.int .i64 0,.int .i64 0,.int .i64 0,.int .i64 0,.int .i64 0,.int .i64 0,.int .i64 0,.int .i64 0,.int .i64 0,.int .i64 0,.int .i64 0,.int .i64 0,.int .i64 0,.int .i64 0,.int .i64 0,.int .i64 0,.int .i64 0,.int .i64 0,.int .i64 0,.int .i64 0,.int .i64 0,.int .i64 0,.int .i64 0,.int .i64 0,.int .i64 0,.int .i64 0,.int .i64 0,.int .i64 0,.int .i64 0,.int .i64 0,.int .i64 0,.int .i64 0,.int .i64 0,.int .i64 0,.int .i64 0,.int .i64 0,.int .i64 0,.int .i64 0,.int .i64 0,.int .i64 0,.int .i64 0,.int .i64 0,.int .i64 0,.int .i64 0,.int .i64 0,.int .i64 0,.int .i64 0,.int .i64 0,.int .i64 0,.int .i64 0,.int .i64 0,.int .i64 0,.int .i64 0,.int .i64 0,.int .i64 0,.int .i64 0,.int .i64 0,.int .i64 0,.int .i64 0,.int .i64 0,.int .i64 0,.int .i64 0,.int .i64 0,.int .i64 0,.int .i64 0,.int .i64 0,.int .i64 0,.int .i64 0,.int .i64 0,.int .i64 0,.int .i64 0,.int .i64 0,.int .i64 0,.int .i64 0,.int .i64 0,.int .i64 0,.int .i64 0,.int .i64 0,.int .i64 0,.int .i64 0,.int .i64 0,.int .i64 0,.int .i64 0,.int .i64 0,.int .i64 0,.int .i64 0,.int .i64 0,.int .i64 0,.int .i64 0,.int .i64 0,.int .i64 0,.int .i64 0,.int .i64 0,.int .i64 0,.int .i64 0,.int .i64 0,.int .i64 0,.int .i64 0,.int .i64 0,.int .i64 0,.int .i64 0,.int .i64 0,.int .i64 0,.int .i64 0,.int .i64 0,.int .i64 0,.int .i64 0,.int .i64 0,.int .i64 0,.int .i64 0,.int .i64 0,.int .i64 0,.int .i64 0,.int .i64 0,.int .i64 0,.int .i64 0,.int .i64 0,.int .i64 0,.int .i64 0,.int .i64 0,.int .i64 0,.int .i64 0,.int .i64 0,.int .i64 0,.int .i64 0,.int .i64 0,.int .i64 0,.int .i64 0,.int .i64 0,.int .i64 0,.int .i64 0,.int .i64 0,.int .i64 0,.int .i64 0,.int .i64 0,.int .i64 0,.int .i64 0,.int .i64 0,.int .i64 0,.int .i64 0,.int .i64 0,.int .i64 0,.int .i64 0,.int .i64 0,.int .i64 0,.int .i64 0,.int .i64 0,.int .i64 0,.int .i64 0,.int .i64 0,.int .i64 0,.int .i64 0,.int .i64 0,.int .i64 0,.int .i64 0,.int .i64 0,.int .i64 0,.int .i64 0,.int .i64 0,.int .i64 0,.int .i64 0,.int .i64 0,.int .i64 0,.int .i64 0,.int .i64 0,.int .i64 0,.int .i64 0,.int .i64 0,.int .i64 0,.int .i64 0,.int .i64 0,.int .i64 0,.int .i64 0,.int .i64 0,.int .i64 0,.int .i64 0,.int .i64 0,.int .i64 0,.int .i64 0,.int .i64 0,.int .i64 0,.int .i64 0,.int .i64 0,.int .i64 0,.int .i64 0,.int .i64 0,.int .i64 0,.int .i64 0,.int .i64 0,.int .i64 0,.int .i64 0,.int .i64 0,.int .i64 0,.int .i64 0,.int .i64 0,.int .i64 0,.int .i64 0,.int .i64 0,.int .i64 0,.int .i64 0,.int .i64 0,.int .i64 0,.int .i64 0,.int .i64 0,.int .i64 0,.int .i64 0,.int .i64 0,.int .i64 0,.int .i64 0,.int .i64 0,.int .i64 0,.int .i64 0,.int .i64 0,.int .i64 0,.int .i64 0,.int .i64 0,.int .i64 0,.int .i64 0,.int .i64 0,.int .i64 0,.int .i64 0,.int .i64 0,.int .i64 0,.int .i64 0,.int .i64 0,.int .i64 0,.int .i64 0,.int .i64 0,.int .i64 0,.int .i64 0,.int .i64 0,.int .i64 0,.int .i64 0,.int .i64 0,.int .i64 0,.int .i64 0,.int .i64 0,.int .i64 0,.int .i64 0,.int .i64 0,.int .i64 0,.int .i64 0,.int .i64 0,.int .i64 0,.int .i64 0,.int .i64 0,.int .i64 0,.int .i64 0,.int .i64 0,.int .i64 0,.int .i64 0,.int .i64 0,.int .i64 0,.int .i64 0,.int .i64 0,.int .i64 0,.int .i64 0,.int .i64 0,.int .i64 0,.int .i64 0,.int .i64 0] [(0,4,(.t 5)),(4,441,(.t 6))]),
 ⟨(some 8),.box (.t 7),none,(some 0),[]⟩,
 oM 4 8])
 (.seq (.region 0 [oM 9 4,
 oM 10 4,
 oQ 11 (.call 0 156 [(.t 10)]),
 oM 12 11,
 oN 13 12 true 4,
 ⟨(some 14),.call 0 157 [(.t 13)],(some (12,true)),none,[]⟩,
 oP 15 (.pick (.t 12) (.t 14) (.c (.bool false))),
 oM 16 15,
 oN 17 16 true 4,
 ⟨(some 18),.call 0 158 [(.t 17)],(some (16,true)),none,[]⟩,
 oP 19 (.pick (.t 16) (.t 18) (.c (.bool false))),
 oM 2 9,
 oM 3 19])
 (.ret)))⟩
def f144 : AFn:=⟨23,[.cell true 2 6],
 .seq (.region 0 [oQ 6 (.alloc [.int .i64 0,.int .i64 0])])
 (.seq (.region 0 [oM 7 0,
 oM 8 2,
 oM 9 1,
 oP 10 (.nilCheck (.t 7)),
 oP 11 (.idxArr 21 21 (.t 10) (.t 8)),
 oP 12 (.idxArr 21 1 (.t 11) (.t 9)),
 oL 13 false 1 12,
 oP 14 (.un .neg (.t 13)),
 oM 15 0,
 oM 16 1,
 oM 17 2,
 oP 18 (.nilCheck (.t 15)),
 oP 19 (.idxArr 21 21 (.t 18) (.t 16)),
 oP 20 (.idxArr 21 1 (.t 19) (.t 17)),
 oL 21 false 1 20,
 oP 22 (.build [.int .i64 0,.int .i64 0] [(0,1,(.t 14)),(1,1,(.t 21))]),
 ⟨none,.store 2 (.t 6) (.t 22),none,none,[]⟩])
 (.ret))⟩
def f145 : AFn:=⟨19,[.tmp 6],
 .seq (.region 0 [oC 6 0])
 (.seq (.seq (.region 0 [oM 7 2,
 oM 8 0,
 oP 9 (.nilCheck (.t 8)),
 oF 10 0 9,
 oF 11 0 10,
 oL 12 false 1 11,
 oP 13 (.bin .eql (.t 7) (.t 12))])
 (.cond (.t 13) (.seq (.region 0 [oC 6 0])
 (.ret))
 (.skip)))
 (.seq (.region 0 [oM 14 1,
 oP 15 (.bin .mul (.t 14) (.c (.int .i64 4))),
 oP 16 (.bin .add (.c (.int .i64 1)) (.t 15)),
 oM 17 2,
 oP 18 (.bin .add (.t 16) (.t 17)),
 oM 6 18])
 (.ret)))⟩
def f146 : AFn:=⟨16,[.cell true 2 4],
 .seq (.region 0 [oQ 2 (.box (.t 0)),
 oQ 3 (.box (.t 1)),
 oQ 4 (.alloc [.int .i64 0,.int .i64 0])])
 (.seq (.region 0 [oF 5 0 2,
 oL 6 false 1 5,
 oF 7 0 3,
 oL 8 false 1 7,
 oP 9 (.minmax true (.t 6) [(.t 8)]),
 oF 10 1 2,
 oL 11 false 1 10,
 oF 12 1 3,
 oL 13 false 1 12,
 oP 14 (.minmax false (.t 11) [(.t 13)]),
 oP 15 (.build [.int .i64 0,.int .i64 0] [(0,1,(.t 9)),(1,1,(.t 14))]),
 ⟨none,.store 2 (.t 4) (.t 15),none,none,[]⟩])
 (.ret))⟩
def f147 : AFn:=⟨11,[],
 .seq (.region 0 [oM 3 0,
 oP 4 (.lenS (.t 3)),
 oM 2 4])
 (.region 0 [oM 5 0,
 oM 6 2,
 oM 7 2,
 oP 8 (.conv .u64 (.t 7)),
 oQ 9 (.call 1 160 [(.t 8)]),
 oQ 10 (.call 0 159 [(.t 5),(.c (.int .i64 0)),(.t 6),(.t 9)])])⟩
def f148 : AFn:=⟨61,[.tmp 2],
 .seq (.region 0 [oP 2 (.move (.c (.nils)))])
 (.seq (.seq (.region 0 [oM 6 0,
 oP 7 (.lenS (.t 6)),
 oP 8 (.bin .lss (.t 7) (.c (.int .i64 2)))])
 (.cond (.t 8) (.seq (.region 0 [oM 9 0,
 oM 2 9])
 (.ret))
 (.skip)))
 (.seq (.seq (.region 0 [oC 3 1])
 (.block 0 (.loop (.seq (.seq (.region 0 [oM 10 3,
 oM 11 0,
 oP 12 (.lenS (.t 11)),
 oP 13 (.bin .lss (.t 10) (.t 12))])
 (.cond (.t 13) (.skip)
 (.exit 0)))
 (.seq (.block 1 (.seq (.region 0 [oM 16 0,
 oM 17 3,
 oD 18 1 16 17,
 oL 19 false 1 18,
 oM 20 0,
 oM 21 3,
 oP 22 (.bin .sub (.t 21) (.c (.int .i64 1))),
 oD 23 1 20 22,
 oL 24 false 1 23,
 oP 25 (.bin .eql (.t 19) (.t 24))])
 (.cond (.t 25) (.seq (.region 0 [oM 26 0,
 oM 27 3,
 oP 28 (.sliceR 1 (.t 26) (some (.t 27)) none none),
 oM 4 28])
 (.seq (.seq (.region 0 [oC 5 1])
 (.block 2 (.loop (.seq (.seq (.region 0 [oM 29 5,
 oM 30 4,
 oP 31 (.lenS (.t 30)),
 oP 32 (.bin .lss (.t 29) (.t 31))])
 (.cond (.t 32) (.skip)
 (.exit 2)))
 (.seq (.block 3 (.seq (.region 0 [oM 35 4,
 oM 36 5,
 oD 37 1 35 36,
 oL 38 false 1 37,
 oM 39 4,
 oM 40 5,
 oP 41 (.bin .sub (.t 40) (.c (.int .i64 1))),
 oD 42 1 39 41,
 oL 43 false 1 42,
 oP 44 (.bin .neq (.t 38) (.t 43))])
 (.cond (.t 44) (.seq (.region 0 [oM 45 0,
 oM 46 3,
 oM 47 4,
 oM 48 5,
 oD 49 1 47 48,
 oL 50 false 1 49,
 oD 51 1 45 46,
 ⟨none,.store 1 (.t 51) (.t 50),none,none,[]⟩])
 (.region 0 [oM 52 3,
 oP 53 (.bin .add (.t 52) (.c (.int .i64 1))),
 oM 3 53]))
 (.skip))))
 (.region 0 [oM 33 5,
 oP 34 (.bin .add (.t 33) (.c (.int .i64 1))),
 oM 5 34]))))))
 (.seq (.region 0 [oM 54 0,
 oM 55 3,
 oP 56 (.sliceR 1 (.t 54) (some (.t 55)) none none),
 ⟨none,.w (.clr 1 [.int .i64 0] (.t 56)),none,none,[]⟩])
 (.seq (.region 0 [oM 57 0,
 oM 58 3,
 oP 59 (.sliceR 1 (.t 57) none (some (.t 58)) none),
 oM 2 59])
 (.ret)))))
 (.skip))))
 (.region 0 [oM 14 3,
 oP 15 (.bin .add (.t 14) (.c (.int .i64 1))),
 oM 3 15]))))))
 (.seq (.region 0 [oM 60 0,
 oM 2 60])
 (.ret))))⟩
def f149 : AFn:=⟨19,[.tmp 4],
 .seq (.region 0 [oC 4 0])
 (.seq (.seq (.region 0 [oM 6 0,
 oP 7 (.lenS (.t 6)),
 oC 8 0])
 (.block 0 (.loop (.seq (.region 0 [oP 9 (.bin .lss (.t 8) (.t 7))])
 (.seq (.cond (.t 9) (.skip)
 (.exit 0))
 (.seq (.block 1 (.seq (.region 0 [oM 10 8,
 oM 5 10])
 (.seq (.region 0 [oM 11 1,
 oM 12 0,
 oM 13 5,
 oD 14 1 12 13,
 oL 15 false 1 14,
 oP 16 (.bin .eql (.t 11) (.t 15))])
 (.cond (.t 16) (.seq (.region 0 [oM 17 5,
 oM 4 17])
 (.ret))
 (.skip)))))
 (.region 0 [oP 18 (.bin .add (.t 8) (.c (.int .i64 1))),
 oM 8 18])))))))
 (.seq (.region 0 [oP 4 (.move (.c (.int .i64 (-1))))])
 (.ret)))⟩
def f150 : AFn:=⟨63,[.tmp 2],
 .seq (.region 0 [oQ 1 (.box (.t 0)),
 oP 2 (.move (.c (.bool false)))])
 (.seq (.seq (.region 0 [oF 7 0 1,
 oL 8 false 1 7,
 oP 9 (.bin .lss (.t 8) (.c (.int .i64 1))),
 oM 10 9,
 oG 11 10 false (.fieldAddr 0 (.t 1)),
 ⟨(some 12),.load false 1 (.t 11),(some (10,false)),none,[]⟩,
 oG 13 10 false (.bin .gtr (.t 12) (.c (.int .i64 4))),
 oP 14 (.pick (.t 10) (.c (.bool true)) (.t 13)),
 oM 15 14,
 oG 16 15 false (.fieldAddr 1 (.t 1)),
 ⟨(some 17),.load false 1 (.t 16),(some (15,false)),none,[]⟩,
 oG 18 15 false (.bin .lss (.t 17) (.c (.int .i64 1))),
 oP 19 (.pick (.t 15) (.c (.bool true)) (.t 18)),
 oM 20 19,
 oG 21 20 false (.fieldAddr 1 (.t 1)),
 ⟨(some 22),.load false 1 (.t 21),(some (20,false)),none,[]⟩,
 oG 23 20 false (.bin .gtr (.t 22) (.c (.int .i64 5))),
 oP 24 (.pick (.t 20) (.c (.bool true)) (.t 23))])
 (.cond (.t 24) (.seq (.region 0 [oP 2 (.move (.c (.bool false)))])
 (.ret))
 (.skip)))
 (.seq (.seq (.region 0 [oF 25 2 1,
 oL 26 false 1 25,
 oP 27 (.lenS (.t 26)),
 oF 28 1 1,
 oL 29 false 1 28,
 oP 30 (.bin .sub (.t 29) (.c (.int .i64 1))),
 oP 31 (.bin .neq (.t 27) (.t 30)),
 oM 32 31,
 oG 33 32 false (.fieldAddr 3 (.t 1)),
 ⟨(some 34),.load false 1 (.t 33),(some (32,false)),none,[]⟩,
 oG 35 32 false (.lenS (.t 34)),
 oG 36 32 false (.bin .gtr (.t 35) (.c (.int .i64 8))),
 oP 37 (.pick (.t 32) (.c (.bool true)) (.t 36))])
 (.cond (.t 37) (.seq (.region 0 [oP 2 (.move (.c (.bool false)))])
 (.ret))
 (.skip)))
 (.seq (.seq (.region 0 [oF 38 2 1,
 oL 39 false 1 38,
 oP 40 (.lenS (.t 39)),
 oC 41 0])
 (.block 0 (.loop (.seq (.region 0 [oP 42 (.bin .lss (.t 41) (.t 40))])
 (.seq (.cond (.t 42) (.skip)
 (.exit 0))
 (.seq (.block 1 (.seq (.region 0 [oD 43 1 39 41,
 oL 44 false 1 43,
 oM 4 44])
 (.seq (.region 0 [oM 45 4,
 oF 46 0 1,
 oL 47 false 1 46,
 oQ 48 (.call 1 161 [(.t 45),(.t 47)]),
 oP 49 (.un .not (.t 48))])
 (.cond (.t 49) (.seq (.region 0 [oP 2 (.move (.c (.bool false)))])
 (.ret))
 (.skip)))))
 (.region 0 [oP 50 (.bin .add (.t 41) (.c (.int .i64 1))),
 oM 41 50])))))))
 (.seq (.seq (.region 0 [oF 51 3 1,
 oL 52 false 1 51,
 oP 53 (.lenS (.t 52)),
 oC 54 0])
 (.block 2 (.loop (.seq (.region 0 [oP 55 (.bin .lss (.t 54) (.t 53))])
 (.seq (.cond (.t 55) (.skip)
 (.exit 2))
 (.seq (.block 3 (.seq (.region 0 [oD 56 4 52 54,
 oL 57 true 4 56,
 oQ 6 (.alloc [.int .i64 0,.int .i64 0,.int .i64 0,.int .i64 0]),
 ⟨none,.store 4 (.t 6) (.t 57),none,none,[]⟩])
 (.seq (.region 0 [oL 58 true 4 1,
 oL 59 true 4 6,
 oQ 60 (.call 1 141 [(.t 58),(.t 59)]),
 oP 61 (.un .not (.t 60))])
 (.cond (.t 61) (.seq (.region 0 [oP 2 (.move (.c (.bool false)))])
 (.ret))
 (.skip)))))
 (.region 0 [oP 62 (.bin .add (.t 54) (.c (.int .i64 1))),
 oM 54 62])))))))
 (.seq (.region 0 [oP 2 (.move (.c (.bool true)))])
 (.ret))))))⟩
def f152 : AFn:=⟨19,[.tmp 4],
 .seq (.region 0 [oC 4 0])
 (.seq (.seq (.region 0 [oM 6 0,
 oP 7 (.lenS (.t 6)),
 oC 8 0])
 (.block 0 (.loop (.seq (.region 0 [oP 9 (.bin .lss (.t 8) (.t 7))])
 (.seq (.cond (.t 9) (.skip)
 (.exit 0))
 (.seq (.block 1 (.seq (.region 0 [oM 10 8,
 oM 5 10])
 (.seq (.region 0 [oM 11 1,
 oM 12 0,
 oM 13 5,
 oD 14 1 12 13,
 oL 15 false 1 14,
 oP 16 (.bin .eql (.t 11) (.t 15))])
 (.cond (.t 16) (.seq (.region 0 [oM 17 5,
 oM 4 17])
 (.ret))
 (.skip)))))
 (.region 0 [oP 18 (.bin .add (.t 8) (.c (.int .i64 1))),
 oM 8 18])))))))
 (.seq (.region 0 [oP 4 (.move (.c (.int .i64 (-1))))])
 (.ret)))⟩
def f153 : AFn:=⟨19,[.tmp 4],
 .seq (.region 0 [oC 4 0])
 (.seq (.seq (.region 0 [oM 6 0,
 oP 7 (.lenS (.t 6)),
 oC 8 0])
 (.block 0 (.loop (.seq (.region 0 [oP 9 (.bin .lss (.t 8) (.t 7))])
 (.seq (.cond (.t 9) (.skip)
 (.exit 0))
 (.seq (.block 1 (.seq (.region 0 [oM 10 8,
 oM 5 10])
 (.seq (.region 0 [oM 11 1,
 oM 12 0,
 oM 13 5,
 oD 14 1 12 13,
 oL 15 false 1 14,
 oQ 16 (.callv true (.t 11) [(.t 15)])])
 (.cond (.t 16) (.seq (.region 0 [oM 17 5,
 oM 4 17])
 (.ret))
 (.skip)))))
 (.region 0 [oP 18 (.bin .add (.t 8) (.c (.int .i64 1))),
 oM 8 18])))))))
 (.seq (.region 0 [oP 4 (.move (.c (.int .i64 (-1))))])
 (.ret)))⟩
def f154 : AFn:=⟨53,[.tmp 2],
 .seq (.region 0 [oP 2 (.move (.c (.nils)))])
 (.seq (.region 0 [oM 6 0,
 oP 7 (.nilCheck (.t 6)),
 oF 8 0 7,
 oF 9 1 8,
 oL 10 false 1 9,
 oQ 11 (.makeSlice false 1 24 [.nils] (.t 10) (.t 10)),
 oM 3 11])
 (.seq (.seq (.region 0 [oM 12 3,
 oP 13 (.lenS (.t 12)),
 oC 14 0])
 (.block 0 (.loop (.seq (.region 0 [oP 15 (.bin .lss (.t 14) (.t 13))])
 (.seq (.cond (.t 15) (.skip)
 (.exit 0))
 (.seq (.block 1 (.seq (.region 0 [oM 16 14,
 oM 4 16])
 (.seq (.region 0 [oM 17 3,
 oM 18 4,
 oM 19 0,
 oP 20 (.nilCheck (.t 19)),
 oF 21 0 20,
 oF 22 0 21,
 oL 23 false 1 22,
 oQ 24 (.makeSlice false 1 8 [.int .i64 0] (.t 23) (.t 23)),
 oD 25 1 17 18,
 ⟨none,.store 1 (.t 25) (.t 24),none,none,[]⟩])
 (.seq (.region 0 [oM 26 3,
 oM 27 4,
 oD 28 1 26 27,
 oL 29 false 1 28,
 oP 30 (.lenS (.t 29)),
 oC 31 0])
 (.block 2 (.loop (.seq (.region 0 [oP 32 (.bin .lss (.t 31) (.t 30))])
 (.seq (.cond (.t 32) (.skip)
 (.exit 2))
 (.seq (.block 3 (.seq (.region 0 [oM 33 31,
 oM 5 33])
 (.region 0 [oM 34 3,
 oM 35 4,
 oD 36 1 34 35,
 oL 37 false 1 36,
 oM 38 5,
 oM 39 0,
 oM 40 4,
 oM 41 5,
 oQ 42 (.call 3 162 [(.t 39),(.t 40),(.t 41)]),
 oM 43 0,
 oM 44 4,
 oM 45 5,
 oP 46 (.bin .add (.t 45) (.c (.int .i64 1))),
 oQ 47 (.call 3 162 [(.t 43),(.t 44),(.t 46)]),
 oP 48 (.bin .sub (.t 42) (.t 47)),
 oD 49 1 37 38,
 ⟨none,.store 1 (.t 49) (.t 48),none,none,[]⟩])))
 (.region 0 [oP 50 (.bin .add (.t 31) (.c (.int .i64 1))),
 oM 31 50]))))))))))
 (.region 0 [oP 51 (.bin .add (.t 14) (.c (.int .i64 1))),
 oM 14 51])))))))
 (.seq (.region 0 [oM 52 3,
 oM 2 52])
 (.ret))))⟩
def f155 : AFn:=⟨24,[.cell true 441 0],
 .seq (.region 0 [oQ 0 (.alloc [.int .i64 0,.int .i64 0,.int .i64 0,.int .i64 0,.int .i64 0,.int .i64 0,.int .i64 0,.int .i64 0,.int .i64 0,.int .i64 0,.int .i64 0,.int .i64 0,.int .i64 0,.int .i64 0,.int .i64 0,.int .i64 0,.int .i64 0,.int .i64 0,.int .i64 0,.int .i64 0,.int .i64 0,.int .i64 0,.int .i64 0,.int .i64 0,.int .i64 0,.int .i64 0,.int .i64 0,.int .i64 0,.int .i64 0,.int .i64 0,.int .i64 0,.int .i64 0,.int .i64 0,.int .i64 0,.int .i64 0,.int .i64 0,.int .i64 0,.int .i64 0,.int .i64 0,.int .i64 0,.int .i64 0,.int .i64 0,.int .i64 0,.int .i64 0,.int .i64 0,.int .i64 0,.int .i64 0,.int .i64 0,.int .i64 0,.int .i64 0,.int .i64 0,.int .i64 0,.int .i64 0,.int .i64 0,.int .i64 0,.int .i64 0,.int .i64 0,.int .i64 0,.int .i64 0,.int .i64 0,.int .i64 0,.int .i64 0,.int .i64 0,.int .i64 0,.int .i64 0,.int .i64 0,.int .i64 0,.int .i64 0,.int .i64 0,.int .i64 0,.int .i64 0,.int .i64 0,.int .i64 0,.int .i64 0,.int .i64 0,.int .i64 0,.int .i64 0,.int .i64 0,.int .i64 0,.int .i64 0,.int .i64 0,.int .i64 0,.int .i64 0,.int .i64 0,.int .i64 0,.int .i64 0,.int .i64 0,.int .i64 0,.int .i64 0,.int .i64 0,.int .i64 0,.int .i64 0,.int .i64 0,.int .i64 0,.int .i64 0,.int .i64 0,.int .i64 0,.int .i64 0,.int .i64 0,.int .i64 0,.int .i64 0,.int .i64 0,.int .i64 0,.int .i64 0,.int .i64 0,.int .i64 0,.int .i64 0,.int .i64 0,.int .i64 0,.int .i64 0,.int .i64 0,.int .i64 0,.int .i64 0,.int .i64 0,.int .i64 0,.int .i64 0,.int .i64 0,.int .i64 0,.int .i64 0,.int .i64 0,.int .i64 0,.int .i64 0,.int .i64 0,.int .i64 0,.int .i64 0,.int .i64 0,.int .i64 0,.int .i64 0,.int .i64 0,.int .i64 0,.int .i64 0,.int .i64 0,.int .i64 0,.int .i64 0,.int .i64 0,.int .i64 0,.int .i64 0,.int .i64 0,.int .i64 0,.int .i64 0,.int .i64 0,.int .i64 0,.int .i64 0,.int .i64 0,.int .i64 0,.int .i64 0,.int .i64 0,.int .i64 0,.int .i64 0,.int .i64 0,.int .i64 0,.int .i64 0,.int .i64 0,.int .i64 0,.int .i64 0,.int .i64 0,.int .i64 0,.int .i64 0,.int .i64 0,.int .i64 0,.int .i64 0,.int .i64 0,.int .i64 0,.int .i64 0,.int .i64 0,.int .i64 0,.int .i64 0,.int .i64 0,.int .i64 0,.int .i64 0,.int .i64 0,.int .i64 0,.int .i64 0,.int .i64 0,.int .i64 0,.int .i64 0,.int .i64 0,.int .i64 0,.int .i64 0,.int .i64 0,.int .i64 0,.int .i64 0,.int .i64 0,.int .i64 0,.int .i64 0,.int .i64 0,.int .i64 0,.int .i64 0,.int .i64 0,.int .i64 0,.int .i64 0,.int .i64 0,.int .i64 0,.int .i64 0,.int .i64 0,.int .i64 0,.int .i64 0,.int .i64 0,.int .i64 0,.int .i64 0,.int .i64 0,.int .i64 0,.int .i64 0,.int .i64 0,.int .i64 0,.int .i64 0,.int .i64 0,.int .i64 0,.int .i64 0,.int .i64 0,.int .i64 0,.int .i64 0,.int .i64 0,.int .i64 0,.int .i64 0,.int .i64 0,.int .i64 0,.int .i64 0,.int .i64 0,.int .i64 0,.int .i64 0,.int .i64 0,.int .i64 0,.int .i64 0,.int .i64 0,.int .i64 0,.int .i64 0,.int .i64 0,.int .i64 0,.int .i64 0,.int .i64 0,.int .i64 0,.int .i64 0,.int .i64 0,.int .i64 0,.int .i64 0,.int .i64 0,.int .i64 0,.int .i64 0,.int .i64 0,.int .i64 0,.int .i64 0,.int .i64 0,.int .i64 0,.int .i64 0,.int .i64 0,.int .i64 0,.int .i64 0,.int .i64 0,.int .i64 0,.int .i64 0,.int .i64 0,.int .i64 0,.int .i64 0,.int .i64 0,.int .i64 0,.int .i64 0,.int .i64 0,.int .i64 0,.int .i64 0,.int .i64 0,.int .i64 0,.int .i64 0,.int .i64 0,.int .i64 0,.int .i64 0,.int .i64 0,.int .i64 0,.int .i64 0,.int .i64 0,.int .i64 0,.int .i64 0,.int .i64 0,.int .i64 0,.int .i64 0,.int .i64 0,.int .i64 0,.int .i64 0,.int .i64 0,.int .i64 0,.int .i64 0,.int .i64 0,.int .i64 0,.int .i64 0,.int .i64 0,.int .i64 0,.int .i64 0,.int .i64 0,.int .i64 0,.int .i64 0,.int .i64 0,.int .i64 0,.int .i64 0,.int .i64 0,.int .i64 0,.int .i64 0,.int .i64 0,.int .i64 0,.int .i64 0,.int .i64 0,.int .i64 0,.int .i64 0,.int .i64 0,.int .i64 0,.int .i64 0,.int .i64 0,.int .i64 0,.int .i64 0,.int .i64 0,.int .i64 0,.int .i64 0,.int .i64 0,.int .i64 0,.int .i64 0,.int .i64 0,.int .i64 0,.int .i64 0,.int .i64 0,.int .i64 0,.int .i64 0,.int .i64 0,.int .i64 0,.int .i64 0,.int .i64 0,.int .i64 0,.int .i64 0,.int .i64 0,.int .i64 0,.int .i64 0,.int .i64 0,.int .i64 0,.int .i64 0,.int .i64 0,.int .i64 0,.int .i64 0,.int .i64 0,.int .i64 0,.int .i64 0,.int .i64 0,.int .i64 0,.int .i64 0,.int .i64 0,.int .i64 0,.int .i64 0,.int .i64 0,.int .i64 0,.int .i64 0,.int .i64 0,.int .i64 0,.int .i64 0,.int .i64 0,.int .i64 0,.int .i64 0,.int .i64 0,.int .i64 0,.int .i64 0,.int .i64 0,.int .i64 0,.int .i64 0,.int .i64 0,.int .i64 0,.int .i64 0,.int .i64 0,.int .i64 0,.int .i64 0,.int .i64 0,.int .i64 0,.int .i64 0,.int .i64 0,.int .i64 0,.int .i64 0,.int .i64 0,.int .i64 0,.int .i64 0,.int .i64 0,.int .i64 0,.int .i64 0,.int .i64 0,.int .i64 0,.int .i64 0,.int .i64 0,.int .i64 0,.int .i64 0,.int .i64 0,.int .i64 0,.int .i64 0,.int .i64 0,.int .i64 0,.int .i64 0,.int .i64 0,.int .i64 0,.int .i64 0,.int .i64 0,.int .i64 0,.int .i64 0,.int .i64 0,.int .i64 0,.int .i64 0,.int .i64 0,.int .i64 0,.int .i64 0,.int .i64 0,.int .i64 0,.int .i64 0,.int .i64 0,.int .i64 0,.int .i64 0,.int .i64 0,.int .i64 0,.int .i64 0,.int .i64 0,.int .i64 0,.int .i64 0,.int .i64 0,.int .i64 0,.int .i64 0,.int .i64 0,.int .i64 0,.int .i64 0,.int .i64 0,.int .i64 0,.int .i64 0,.int .i64 0,.int .i64 0,.int .i64 0,.int .i64 0,.int .i64 0,.int .i64 0,.int .i64 0,.int .i64 0,.int .i64 0,.int .i64 0,.int .i64 0,.int .i64 0,.int .i64 0,.int .i64 0,.int .i64 0,.int .i64 0,.int .i64 0,.int .i64 0,.int .i64 0])])
 (.seq (.region 0 [oQ 1 (.alloc [.int .i64 0,.int .i64 0,.int .i64 0,.int .i64 0,.int .i64 0,.int .i64 0,.int .i64 0,.int .i64 0,.int .i64 0,.int .i64 0,.int .i64 0,.int .i64 0,.int .i64 0,.int .i64 0,.int .i64 0,.int .i64 0,.int .i64 0,.int .i64 0,.int .i64 0,.int .i64 0,.int .i64 0,.int .i64 0,.int .i64 0,.int .i64 0,.int .i64 0,.int .i64 0,.int .i64 0,.int .i64 0,.int .i64 0,.int .i64 0,.int .i64 0,.int .i64 0,.int .i64 0,.int .i64 0,.int .i64 0,.int .i64 0,.int .i64 0,.int .i64 0,.int .i64 0,.int .i64 0,.int .i64 0,.int .i64 0,.int .i64 0,.int .i64 0,.int .i64 0,.int .i64 0,.int .i64 0,.int .i64 0,.int .i64 0,.int .i64 0,.int .i64 0,.int .i64 0,.int .i64 0,.int .i64 0,.int .i64 0,.int .i64 0,.int .i64 0,.int .i64 0,.int .i64 0,.int .i64 0,.int .i64 0,.int .i64 0,.int .i64 0,.int .i64 0,.int .i64 0,.int .i64 0,.int .i64 0,.int .i64 0,.int .i64 0,.int .i64 0,.int .i64 0,.int .i64 0,.int .i64 0,.int .i64 0,.int .i64 0,.int .i64 0,.int .i64 0,.int .i64 0,.int .i64 0,.int .i64 0,.int .i64 0,.int .i64 0,.int .i64 0,.int .i64 0,.int .i64 0,.int .i64 0,.int .i64 0,.int .i64 0,.int .i64 0,.int .i64 0,.int .i64 0,.int .i64 0,.int .i64 0,.int .i64 0,.int .i64 0,.int .i64 0,.int .i64 0,.int .i64 0,.int .i64 0,.int .i64 0,.int .i64 0,.int .i64 0,.int .i64 0,.int .i64 0,.int .i64 0,.int .i64 0,.int .i64 0,.int .i64 0,.int .i64 0,.int .i64 0,.int .i64 0,.int .i64 0,.int .i64 0,.int .i64 0,.int .i64 0,.int .i64 0,.int .i64 0,.int .i64 0,.int .i64 0,.int .i64 0,.int .i64 0,.int .i64 0,.int .i64 0,.int .i64 0,.int .i64 0,.int .i64 0,.int .i64 0,.int .i64 0,.int .i64 0,.int .i64 0,.int .i64 0,.int .i64 0,.int .i64 0,.int .i64 0,.int .i64 0,.int .i64 0,.int .i64 0,.int .i64 0,.int .i64 0,.int .i64 0,.int .i64 0,.int .i64 0,.int .i64 0,.int .i64 0,.int .i64 0,.int .i64 0,.int .i64 0,.int .i64 0,.int .i64 0,.int .i64 0,.int .i64 0,.int .i64 0,.int .i64 0,.int .i64 0,.int .i64 0,.int .i64 0,.int .i64 0,.int .i64 0,.int .i64 0,.int .i64 0,.int .i64 0,.int .i64 0,.int .i64 0,.int .i64 0,.int .i64 0,.int .i64 0,.int .i64 0,.int .i64 0,.int .i64 0,.int .i64 0,.int .i64 0,.int .i64 0,.int .i64 0,.int .i64 0,.int .i64 0,.int .i64 0,.int .i64 0,.int .i64 0,.int .i64 0,.int .i64 0,.int .i64 0,.int .i64 0,.int .i64 0,.int .i64 0,.int .i64 0,.int .i64 0,.int .i64 0,.int .i64 0,.int .i64 0,.int .i64 0,.int .i64 0,.int .i64 0,.int .i64 0,.int .i64 0,.int .i64 0,.int .i64 0,.int .i64 0,.int .i64 0,.int .i64 0,.int .i64 0,.int .i64 0,.int .i64 0,.int .i64 0,.int .i64 0,.int .i64 0,.int .i64 0,.int .i64 0,.int .i64 0,.int .i64 0,.int .i64 0,.int .i64 0,.int .i64 0,.int .i64 0,.int .i64 0,.int .i64 0,.int .i64 0,.int .i64 0,.int .i64 0,.int .i64 0,.int .i64 0,.int .i64 0,.int .i64 0,.int .i64 0,.int .i64 0,.int .i64 0,.int .i64 0,.int .i64 0,.int .i64 0,.int .i64 0,.int .i64 0,.int .i64 0,.int .i64 0,.int .i64 0,.int .i64 0,.int .i64 0,.int .i64 0,.int .i64 0,.int .i64 0,.int .i64 0,.int .i64 0,.int .i64 0,.int .i64 0,.int .i64 0,.int .i64 0,.int .i64 0,.int .i64 0,.int .i64 0,.int .i64 0,.int .i64 0,.int .i64 0,.int .i64 0,.int .i64 0,.int .i64 0,.int .i64 0,.int .i64 0,.int .i64 0,.int .i64 0,.int .i64 0,.int .i64 0,.int .i64 0,.int .i64 0,.int .i64 0,.int .i64 0,.int .i64 0,.int .i64 0,.int .i64 0,.int .i64 0,.int .i64 0,.int .i64 0,.int .i64 0,.int .i64 0,.int .i64 0,.int .i64 0,.int .i64 0,.int .i64 0,.int .i64 0,.int .i64 0,.int .i64 0,.int .i64 0,.int .i64 0,.int .i64 0,.int .i64 0,.int .i64 0,.int .i64 0,.int .i64 0,.int .i64 0,.int .i64 0,.int .i64 0,.int .i64 0,.int .i64 0,.int .i64 0,.int .i64 0,.int .i64 0,.int .i64 0,.int .i64 0,.int .i64 0,.int .i64 0,.int .i64 0,.int .i64 0,.int .i64 0,.int .i64 0,.int .i64 0,.int .i64 0,.int .i64 0,.int .i64 0,.int .i64 0,.int .i64 0,.int .i64 0,.int .i64 0,.int .i64 0,.int .i64 0,.int .i64 0,.int .i64 0,.int .i64 0,.int .i64 0,.int .i64 0,.int .i64 0,.int .i64 0,.int .i64 0,.int .i64 0,.int .i64 0,.int .i64 0,.int .i64 0,.int .i64 0,.int .i64 0,.int .i64 0,.int .i64 0,.int .i64 0,.int .i64 0,.int .i64 0,.int .i64 0,.int .i64 0,.int .i64 0,.int .i64 0,.int .i64 0,.int .i64 0,.int .i64 0,.int .i64 0,.int .i64 0,.int .i64 0,.int .i64 0,.int .i64 0,.int .i64 0,.int .i64 0,.int .i64 0,.int .i64 0,.int .i64 0,.int .i64 0,.int .i64 0,.int .i64 0,.int .i64 0,.int .i64 0,.int .i64 0,.int .i64 0,.int .i64 0,.int .i64 0,.int .i64 0,.int .i64 0,.int .i64 0,.int .i64 0,.int .i64 0,.int .i64 0,.int .i64 0,.int .i64 0,.int .i64 0,.int .i64 0,.int .i64 0,.int .i64 0,.int .i64 0,.int .i64 0,.int .i64 0,.int .i64 0,.int .i64 0,.int .i64 0,.int .i64 0,.int .i64 0,.int .i64 0,.int .i64 0,.int .i64 0,.int .i64 0,.int .i64 0,.int .i64 0,.int .i64 0,.int .i64 0,.int .i64 0,.int .i64 0,.int .i64 0,.int .i64 0,.int .i64 0,.int .i64 0,.int .i64 0,.int .i64 0,.int .i64 0,.int .i64 0,.int .i64 0,.int .i64 0,.int .i64 0,.int .i64 0,.int .i64 0,.int .i64 0,.int .i64 0,.int .i64 0,.int .i64 0,.int .i64 0,.int .i64 0,.int .i64 0,.int .i64 0,.int .i64 0,.int .i64 0,.int .i64 0,.int .i64 0,.int .i64 0,.int .i64 0,.int .i64 0,.int .i64 0,.int .i64 0,.int .i64 0,.int .i64 0,.int .i64 0,.int .i64 0,.int .i64 0,.int .i64 0,.int .i64 0,.int .i64 0,.int .i64 0,.int .i64 0,.int .i64 0,.int .i64 0,.int .i64 0,.int .i64 0,.int .i64 0,.int .i64 0,.int .i64 0,.int .i64 0,.int .i64 0,.int .i64 0,.int .i64 0,.int .i64 0,.int .i64 0,.int .i64 0,.int .i64 0])])
 (.seq (.seq (.region 0 [oC 4 0])
 (.block 0 (.loop (.seq (.region 0 [oP 5 (.bin .lss (.t 4) (.c (.int .i64 21)))])
 (.seq (.cond (.t 5) (.skip)
 (.exit 0))
 (.seq (.block 1 (.seq (.region 0 [oM 6 4,
 oM 2 6])
 (.seq (.region 0 [oC 7 0])
 (.block 2 (.loop (.seq (.region 0 [oP 8 (.bin .lss (.t 7) (.c (.int .i64 21)))])
 (.seq (.cond (.t 8) (.skip)
 (.exit 2))
 (.seq (.block 3 (.seq (.region 0 [oM 9 7,
 oM 3 9])
 (.seq (.region 0 [oM 10 2,
 oM 11 3,
 oP 12 (.bin .neq (.t 10) (.t 11)),
 oM 13 12,
 oN 14 13 true 2,
 oG 15 13 true (.bin .neq (.t 14) (.c (.int .i64 0))),
 oP 16 (.pick (.t 13) (.t 15) (.c (.bool false)))])
 (.cond (.t 16) (.region 0 [oM 17 2,
 oM 18 3,
 oP 19 (.idxArr 21 21 (.t 1) (.t 17)),
 oP 20 (.idxArr 21 1 (.t 19) (.t 18)),
 ⟨none,.store 1 (.t 20) (.c (.int .i64 40)),none,none,[]⟩])
 (.skip)))))
 (.region 0 [oP 21 (.bin .add (.t 7) (.c (.int .i64 1))),
 oM 7 21])))))))))
 (.region 0 [oP 22 (.bin .add (.t 4) (.c (.int .i64 1))),
 oM 4 22])))))))
 (.seq (.region 0 [oL 23 true 441 1,
 ⟨none,.store 441 (.t 0) (.t 23),none,none,[]⟩])
 (.ret))))⟩
def f156 : AFn:=⟨12,[.cell false 1 2],
 .seq (.region 0 [oQ 1 (.box (.t 0)),
 oQ 2 (.alloc [.bool false])])
 (.seq (.seq (.region 0 [oL 4 false 1 1,
 oP 5 (.mkFn 163 [(.t 4)] [])])
 (.block 0 (.rangeFunc (.t 5) [6] (.region 0 [oQ 3 (.alloc [.int .i64 0,.int .i64 0]),
 ⟨none,.store 2 (.t 3) (.t 6),none,none,[]⟩])
 (.block 1 (.seq (.region 0 [oL 7 false 1 1,
 oL 8 true 2 3,
 oP 9 (.build [.int .i64 0,.int .i64 0] [(1,1,(.c (.int .i64 40)))]),
 oQ 10 (.call 0 164 [(.t 7),(.t 8),(.t 9)]),
 oP 11 (.un .not (.t 10))])
 (.cond (.t 11) (.seq (.region 0 [⟨none,.store 1 (.t 2) (.c (.bool false)),none,none,[]⟩])
 (.ret))
 (.skip)))))))
 (.seq (.region 0 [⟨none,.store 1 (.t 2) (.c (.bool true)),none,none,[]⟩])
 (.ret)))⟩
def f157 : AFn:=⟨48,[.tmp 2],
 .seq (.region 0 [oP 2 (.move (.c (.bool false)))])
 (.seq (.seq (.region 0 [oM 7 0,
 oP 8 (.nilCheck (.t 7)),
 oF 9 0 8,
 oF 10 2 9,
 oL 11 false 1 10,
 oP 12 (.lenS (.t 11)),
 oC 13 0])
 (.block 0 (.loop (.seq (.region 0 [oP 14 (.bin .lss (.t 13) (.t 12))])
 (.seq (.cond (.t 14) (.skip)
 (.exit 0))
 (.seq (.block 1 (.seq (.region 0 [oM 15 13,
 oD 16 1 11 13,
 oL 17 false 1 16,
 oM 3 15,
 oM 4 17])
 (.seq (.region 0 [oM 18 0,
 oP 19 (.nilCheck (.t 18)),
 oF 20 0 19,
 oF 21 0 20,
 oL 22 false 1 21,
 oC 23 0])
 (.block 2 (.loop (.seq (.region 0 [oP 24 (.bin .lss (.t 23) (.t 22))])
 (.seq (.cond (.t 24) (.skip)
 (.exit 2))
 (.seq (.block 3 (.seq (.region 0 [oM 25 23,
 oM 5 25])
 (.seq (.region 0 [oP 26 (.build [.int .i64 0,.int .i64 0] []),
 oQ 6 (.alloc [.int .i64 0,.int .i64 0]),
 ⟨none,.store 2 (.t 6) (.t 26),none,none,[]⟩])
 (.seq (.seq (.region 0 [oM 27 4,
 oM 28 5,
 oQ 29 (.call 1 125 [(.t 27),(.t 28)])])
 (.cond (.t 29) (.region 0 [oF 30 1 6,
 ⟨none,.store 1 (.t 30) (.c (.int .i64 40)),none,none,[]⟩])
 (.skip)))
 (.seq (.region 0 [oM 31 0,
 oP 32 (.nilCheck (.t 31)),
 oF 33 4 32,
 oM 34 0,
 oM 35 3,
 oP 36 (.bin .add (.t 35) (.c (.int .i64 1))),
 oM 37 5,
 oQ 38 (.call 3 145 [(.t 34),(.t 36),(.t 37)]),
 oM 39 0,
 oM 40 3,
 oM 41 5,
 oQ 42 (.call 3 145 [(.t 39),(.t 40),(.t 41)]),
 oL 43 true 2 6,
 oQ 44 (.call 0 165 [(.t 33),(.t 38),(.t 42),(.t 43)]),
 oP 45 (.un .not (.t 44))])
 (.cond (.t 45) (.seq (.region 0 [oP 2 (.move (.c (.bool false)))])
 (.ret))
 (.skip)))))))
 (.region 0 [oP 46 (.bin .add (.t 23) (.c (.int .i64 1))),
 oM 23 46])))))))))
 (.region 0 [oP 47 (.bin .add (.t 13) (.c (.int .i64 1))),
 oM 13 47])))))))
 (.seq (.region 0 [oP 2 (.move (.c (.bool true)))])
 (.ret)))⟩
def f158 : AFn:=⟨31,[.tmp 2],
 .seq (.region 0 [oP 2 (.move (.c (.bool false)))])
 (.seq (.seq (.region 0 [oM 6 0,
 oP 7 (.nilCheck (.t 6)),
 oF 8 0 7,
 oF 9 3 8,
 oL 10 false 1 9,
 oP 11 (.lenS (.t 10)),
 oC 12 0])
 (.block 0 (.loop (.seq (.region 0 [oP 13 (.bin .lss (.t 12) (.t 11))])
 (.seq (.cond (.t 13) (.skip)
 (.exit 0))
 (.seq (.block 1 (.seq (.region 0 [oD 14 4 10 12,
 oL 15 true 4 14,
 oQ 4 (.alloc [.int .i64 0,.int .i64 0,.int .i64 0,.int .i64 0]),
 ⟨none,.store 4 (.t 4) (.t 15),none,none,[]⟩])
 (.seq (.region 0 [oF 16 0 4,
 oL 17 false 1 16,
 oF 18 1 4,
 oL 19 false 1 18,
 oP 20 (.build [.int .i64 0,.int .i64 0] [(0,1,(.t 17)),(1,1,(.t 19))]),
 oQ 5 (.alloc [.int .i64 0,.int .i64 0]),
 ⟨none,.store 2 (.t 5) (.t 20),none,none,[]⟩])
 (.seq (.region 0 [oM 21 0,
 oL 22 true 2 5,
 oF 23 2 4,
 oL 24 false 1 23,
 oF 25 3 4,
 oL 26 false 1 25,
 oP 27 (.build [.int .i64 0,.int .i64 0] [(0,1,(.t 24)),(1,1,(.t 26))]),
 oQ 28 (.call 0 164 [(.t 21),(.t 22),(.t 27)]),
 oP 29 (.un .not (.t 28))])
 (.cond (.t 29) (.seq (.region 0 [oP 2 (.move (.c (.bool false)))])
 (.ret))
 (.skip))))))
 (.region 0 [oP 30 (.bin .add (.t 12) (.c (.int .i64 1))),
 oM 12 30])))))))
 (.seq (.region 0 [oP 2 (.move (.c (.bool true)))])
 (.ret)))⟩
def f159 : AFn:=⟨134,[],
 .seq (.region 0 [oP 8 (.move (.c (.bool true)))])
 (.seq (.region 0 [oP 9 (.move (.c (.bool true)))])
 (.block 0 (.loop (.block 1 (.seq (.region 0 [oM 19 2,
 oM 20 1,
 oP 21 (.bin .sub (.t 19) (.t 20)),
 oM 10 21])
 (.seq (.seq (.region 0 [oM 22 10,
 oP 23 (.bin .leq (.t 22) (.c (.int .i64 12)))])
 (.cond (.t 23) (.seq (.region 0 [oM 24 0,
 oM 25 1,
 oM 26 2,
 oQ 27 (.call 0 166 [(.t 24),(.t 25),(.t 26)])])
 (.ret))
 (.skip)))
 (.seq (.seq (.region 0 [oM 28 3,
 oP 29 (.bin .eql (.t 28) (.c (.int .i64 0)))])
 (.cond (.t 29) (.seq (.region 0 [oM 30 0,
 oM 31 1,
 oM 32 2,
 oQ 33 (.call 1 167 [(.t 30),(.t 31),(.t 32)])])
 (.ret))
 (.skip)))
 (.seq (.seq (.region 0 [oM 34 8,
 oP 35 (.un .not (.t 34))])
 (.cond (.t 35) (.seq (.region 0 [oM 36 0,
 oM 37 1,
 oM 38 2,
 oQ 39 (.call 1 168 [(.t 36),(.t 37),(.t 38)])])
 (.region 0 [oM 40 3,
 oP 41 (.bin .sub (.t 40) (.c (.int .i64 1))),
 oM 3 41]))
 (.skip)))
 (.seq (.region 0 [oM 43 0,
 oM 44 1,
 oM 45 2,
 oQ 46 (.call 1 169 [(.t 43),(.t 44),(.t 45)]),
 oM 42 46,
 oE 47 42 0,
 oE 48 42 1,
 oM 11 47,
 oM 12 48])
 (.seq (.seq (.region 0 [oM 49 12,
 oP 50 (.bin .eql (.t 49) (.c (.int .i64 2)))])
 (.cond (.t 50) (.seq (.region 0 [oM 51 0,
 oM 52 1,
 oM 53 2,
 oQ 54 (.call 1 170 [(.t 51),(.t 52),(.t 53)])])
 (.seq (.region 0 [oM 55 2,
 oP 56 (.bin .sub (.t 55) (.c (.int .i64 1))),
 oM 57 11,
 oM 58 1,
 oP 59 (.bin .sub (.t 57) (.t 58)),
 oP 60 (.bin .sub (.t 56) (.t 59)),
 oM 11 60])
 (.region 0 [oC 12 1])))
 (.skip)))
 (.seq (.seq (.region 0 [oM 61 8,
 oM 62 61,
 oN 63 62 true 9,
 oP 64 (.pick (.t 62) (.t 63) (.c (.bool false))),
 oM 65 64,
 oN 66 65 true 12,
 oG 67 65 true (.bin .eql (.t 66) (.c (.int .i64 1))),
 oP 68 (.pick (.t 65) (.t 67) (.c (.bool false)))])
 (.cond (.t 68) (.seq (.region 0 [oM 69 0,
 oM 70 1,
 oM 71 2,
 oQ 72 (.call 1 171 [(.t 69),(.t 70),(.t 71)])])
 (.cond (.t 72) (.ret)
 (.skip)))
 (.skip)))
 (.seq (.seq (.region 0 [oM 73 1,
 oP 74 (.bin .gtr (.t 73) (.c (.int .i64 0))),
 oM 75 74,
 oN 76 75 true 0,
 oN 77 75 true 1,
 oG 78 75 true (.bin .sub (.t 77) (.c (.int .i64 1))),
 oG 79 75 true (.idxSl 1 (.t 76) (.t 78)),
 ⟨(some 80),.load false 1 (.t 79),(some (75,true)),none,[]⟩,
 oN 81 75 true 0,
 oN 82 75 true 11,
 oG 83 75 true (.idxSl 1 (.t 81) (.t 82)),
 ⟨(some 84),.load false 1 (.t 83),(some (75,true)),none,[]⟩,
 ⟨(some 85),.call 1 172 [(.t 80),(.t 84)],(some (75,true)),none,[]⟩,
 oG 86 75 true (.un .not (.t 85)),
 oP 87 (.pick (.t 75) (.t 86) (.c (.bool false)))])
 (.cond (.t 87) (.seq (.region 0 [oM 88 0,
 oM 89 1,
 oM 90 2,
 oM 91 11,
 oQ 92 (.call 1 173 [(.t 88),(.t 89),(.t 90),(.t 91)]),
 oM 13 92])
 (.seq (.region 0 [oM 93 13,
 oM 1 93])
 (.exit 1)))
 (.skip)))
 (.seq (.region 0 [oM 95 0,
 oM 96 1,
 oM 97 2,
 oM 98 11,
 oQ 99 (.call 1 174 [(.t 95),(.t 96),(.t 97),(.t 98)]),
 oM 94 99,
 oE 100 94 0,
 oE 101 94 1,
 oM 14 100,
 oM 15 101])
 (.seq (.region 0 [oM 102 15,
 oM 9 102])
 (.seq (.region 0 [oM 103 14,
 oM 104 1,
 oP 105 (.bin .sub (.t 103) (.t 104)),
 oM 106 2,
 oM 107 14,
 oP 108 (.bin .sub (.t 106) (.t 107)),
 oM 16 105,
 oM 17 108])
 (.seq (.region 0 [oM 109 10,
 oP 110 (.bin .quo (.t 109) (.c (.int .i64 8))),
 oM 18 110])
 (.seq (.region 0 [oM 111 16,
 oM 112 17,
 oP 113 (.bin .lss (.t 111) (.t 112))])
 (.cond (.t 113) (.seq (.region 0 [oM 114 16,
 oM 115 18,
 oP 116 (.bin .geq (.t 114) (.t 115)),
 oM 8 116])
 (.seq (.region 0 [oM 117 0,
 oM 118 1,
 oM 119 14,
 oM 120 3,
 oQ 121 (.call 0 159 [(.t 117),(.t 118),(.t 119),(.t 120)])])
 (.region 0 [oM 122 14,
 oP 123 (.bin .add (.t 122) (.c (.int .i64 1))),
 oM 1 123])))
 (.seq (.region 0 [oM 124 17,
 oM 125 18,
 oP 126 (.bin .geq (.t 124) (.t 125)),
 oM 8 126])
 (.seq (.region 0 [oM 127 0,
 oM 128 14,
 oP 129 (.bin .add (.t 128) (.c (.int .i64 1))),
 oM 130 2,
 oM 131 3,
 oQ 132 (.call 0 159 [(.t 127),(.t 129),(.t 130),(.t 131)])])
 (.region 0 [oM 133 14,
 oM 2 133])))))))))))))))))))))⟩
def f160 : AFn:=⟨8,[.tmp 2],
 .seq (.region 0 [oC 2 0])
 (.seq (.cond (.c (.bool false)) (.seq (.region 0 [oM 3 0,
 oP 4 (.conv .u32 (.t 3)),
 oQ 5 (.call 1 175 [(.t 4)]),
 oM 2 5])
 (.ret))
 (.skip))
 (.seq (.region 0 [oM 6 0,
 oQ 7 (.call 1 176 [(.t 6)]),
 oM 2 7])
 (.ret)))⟩
def f161 : AFn:=⟨24,[.tmp 4],
 .seq (.region 0 [oP 4 (.move (.c (.bool false)))])
 (.seq (.region 0 [oP 5 (.move (.c (.int .i64 (-1))))])
 (.seq (.seq (.region 0 [oM 8 0,
 oP 9 (.lenS (.t 8)),
 oC 10 0])
 (.block 0 (.loop (.seq (.region 0 [oP 11 (.bin .lss (.t 10) (.t 9))])
 (.seq (.cond (.t 11) (.skip)
 (.exit 0))
 (.seq (.block 1 (.seq (.region 0 [oD 12 1 8 10,
 oL 13 false 1 12,
 oM 7 13])
 (.seq (.seq (.region 0 [oM 14 7,
 oM 15 5,
 oP 16 (.bin .leq (.t 14) (.t 15)),
 oM 17 16,
 oN 18 17 false 7,
 oN 19 17 false 1,
 oG 20 17 false (.bin .geq (.t 18) (.t 19)),
 oP 21 (.pick (.t 17) (.c (.bool true)) (.t 20))])
 (.cond (.t 21) (.seq (.region 0 [oP 4 (.move (.c (.bool false)))])
 (.ret))
 (.skip)))
 (.region 0 [oM 22 7,
 oM 5 22]))))
 (.region 0 [oP 23 (.bin .add (.t 10) (.c (.int .i64 1))),
 oM 10 23])))))))
 (.seq (.region 0 [oP 4 (.move (.c (.bool true)))])
 (.ret))))⟩
def f162 : AFn:=⟨16,[.tmp 6],
 .seq (.region 0 [oC 6 0])
 (.seq (.region 0 [oM 7 0,
 oP 8 (.nilCheck (.t 7)),
 oF 9 4 8,
 oM 10 0,
 oM 11 1,
 oM 12 2,
 oQ 13 (.call 3 145 [(.t 10),(.t 11),(.t 12)]),
 oQ 14 (.call 3 144 [(.t 9),(.t 13),(.c (.int .i64 0))]),
 oP 15 (.field false 0 1 (.t 14)),
 oM 6 15])
 (.ret))⟩
def f163 : AFn:=⟨30,[],
 .seq (.region 0 [oM 6 0,
 oP 7 (.nilCheck (.t 6)),
 oF 8 0 7,
 oF 9 1 8,
 oL 10 false 1 9,
 oC 11 0])
 (.block 0 (.loop (.seq (.region 0 [oP 12 (.bin .lss (.t 11) (.t 10))])
 (.seq (.cond (.t 12) (.skip)
 (.exit 0))
 (.seq (.block 1 (.seq (.region 0 [oM 13 11,
 oM 4 13])
 (.seq (.region 0 [oM 14 0,
 oP 15 (.nilCheck (.t 14)),
 oF 16 0 15,
 oF 17 0 16,
 oL 18 false 1 17,
 oC 19 0])
 (.block 2 (.loop (.seq (.region 0 [oP 20 (.bin .lss (.t 19) (.t 18))])
 (.seq (.cond (.t 20) (.skip)
 (.exit 2))
 (.seq (.block 3 (.seq (.region 0 [oM 21 19,
 oM 5 21])
 (.seq (.region 0 [oM 22 1,
 oM 23 4,
 oM 24 5,
 oP 25 (.build [.int .i64 0,.int .i64 0] [(0,1,(.t 23)),(1,1,(.t 24))]),
 oQ 26 (.callv false (.t 22) [(.t 25)]),
 oP 27 (.un .not (.t 26))])
 (.cond (.t 27) (.ret)
 (.skip)))))
 (.region 0 [oP 28 (.bin .add (.t 19) (.c (.int .i64 1))),
 oM 19 28])))))))))
 (.region 0 [oP 29 (.bin .add (.t 11) (.c (.int .i64 1))),
 oM 11 29]))))))⟩
def f164 : AFn:=⟨25,[.tmp 6],
 .seq (.region 0 [oQ 4 (.box (.t 1)),
 oQ 5 (.box (.t 2)),
 oP 6 (.move (.c (.bool false)))])
 (.seq (.region 0 [oM 7 0,
 oP 8 (.nilCheck (.t 7)),
 oF 9 4 8,
 oM 10 0,
 oF 11 0 4,
 oL 12 false 1 11,
 oF 13 1 4,
 oL 14 false 1 13,
 oQ 15 (.call 3 145 [(.t 10),(.t 12),(.t 14)]),
 oM 16 0,
 oF 17 0 4,
 oL 18 false 1 17,
 oF 19 1 4,
 oL 20 false 1 19,
 oP 21 (.bin .add (.t 20) (.c (.int .i64 1))),
 oQ 22 (.call 3 145 [(.t 16),(.t 18),(.t 21)]),
 oL 23 true 2 5,
 oQ 24 (.call 0 165 [(.t 9),(.t 15),(.t 22),(.t 23)]),
 oM 6 24])
 (.ret))⟩
def f165 : AFn:=⟨24,[.tmp 8],
 .seq (.region 0 [oQ 7 (.box (.t 3)),
 oP 8 (.move (.c (.bool false)))])
 (.seq (.region 0 [oM 9 0,
 oM 10 1,
 oM 11 2,
 oF 12 1 7,
 oL 13 false 1 12,
 oQ 14 (.call 0 177 [(.t 9),(.t 10),(.t 11),(.t 13)]),
 oM 15 14,
 oN 16 15 true 0,
 oN 17 15 true 2,
 oN 18 15 true 1,
 oG 19 15 true (.fieldAddr 0 (.t 7)),
 ⟨(some 20),.load false 1 (.t 19),(some (15,true)),none,[]⟩,
 oG 21 15 true (.un .neg (.t 20)),
 ⟨(some 22),.call 0 177 [(.t 16),(.t 17),(.t 18),(.t 21)],(some (15,true)),none,[]⟩,
 oP 23 (.pick (.t 15) (.t 22) (.c (.bool false))),
 oM 8 23])
 (.ret))⟩
def f166 : AFn:=⟨49,[],
 .seq (.region 0 [oM 8 1,
 oP 9 (.bin .add (.t 8) (.c (.int .i64 1))),
 oM 6 9])
 (.block 0 (.loop (.seq (.seq (.region 0 [oM 10 6,
 oM 11 2,
 oP 12 (.bin .lss (.t 10) (.t 11))])
 (.cond (.t 12) (.skip)
 (.exit 0)))
 (.seq (.block 1 (.seq (.region 0 [oM 15 6,
 oM 7 15])
 (.block 2 (.loop (.seq (.seq (.region 0 [oM 16 7,
 oM 17 1,
 oP 18 (.bin .gtr (.t 16) (.t 17)),
 oM 19 18,
 oN 20 19 true 0,
 oN 21 19 true 7,
 oG 22 19 true (.idxSl 1 (.t 20) (.t 21)),
 ⟨(some 23),.load false 1 (.t 22),(some (19,true)),none,[]⟩,
 oN 24 19 true 0,
 oN 25 19 true 7,
 oG 26 19 true (.bin .sub (.t 25) (.c (.int .i64 1))),
 oG 27 19 true (.idxSl 1 (.t 24) (.t 26)),
 ⟨(some 28),.load false 1 (.t 27),(some (19,true)),none,[]⟩,
 ⟨(some 29),.call 1 172 [(.t 23),(.t 28)],(some (19,true)),none,[]⟩,
 oP 30 (.pick (.t 19) (.t 29) (.c (.bool false)))])
 (.cond (.t 30) (.skip)
 (.exit 2)))
 (.seq (.block 3 (.region 0 [oM 33 0,
 oM 34 7,
 oM 35 0,
 oM 36 7,
 oP 37 (.bin .sub (.t 36) (.c (.int .i64 1))),
 oM 38 0,
 oM 39 7,
 oP 40 (.bin .sub (.t 39) (.c (.int .i64 1))),
 oD 41 1 38 40,
 oL 42 false 1 41,
 oM 43 0,
 oM 44 7,
 oD 45 1 43 44,
 oL 46 false 1 45,
 oD 47 1 33 34,
 ⟨none,.store 1 (.t 47) (.t 42),none,none,[]⟩,
 oD 48 1 35 37,
 ⟨none,.store 1 (.t 48) (.t 46),none,none,[]⟩]))
 (.region 0 [oM 31 7,
 oP 32 (.bin .sub (.t 31) (.c (.int .i64 1))),
 oM 7 32])))))))
 (.region 0 [oM 13 6,
 oP 14 (.bin .add (.t 13) (.c (.int .i64 1))),
 oM 6 14])))))⟩
def f172 : AFn:=⟨17,[.tmp 4],
 .seq (.region 0 [oP 4 (.move (.c (.bool false)))])
 (.seq (.region 0 [oM 5 0,
 oQ 6 (.call 1 183 [(.t 5)]),
 oM 7 6,
 oN 8 7 true 1,
 ⟨(some 9),.call 1 183 [(.t 8)],(some (7,true)),none,[]⟩,
 oG 10 7 true (.un .not (.t 9)),
 oP 11 (.pick (.t 7) (.t 10) (.c (.bool false))),
 oM 12 11,
 oN 13 12 false 0,
 oN 14 12 false 1,
 oG 15 12 false (.bin .lss (.t 13) (.t 14)),
 oP 16 (.pick (.t 12) (.c (.bool true)) (.t 15)),
 oM 4 16])
 (.ret))⟩
def f176 : AFn:=⟨25,[.tmp 2],
 .seq (.region 0 [oC 2 0])
 (.seq (.seq (.region 0 [oM 3 0,
 oP 4 (.bin .geq (.t 3) (.c (.int .u64 4294967296)))])
 (.cond (.t 4) (.seq (.region 0 [oM 5 0,
 oP 6 (.bin .shr (.t 5) (.c (.int .u64 32))),
 oM 0 6])
 (.region 0 [oC 2 32]))
 (.skip)))
 (.seq (.seq (.region 0 [oM 7 0,
 oP 8 (.bin .geq (.t 7) (.c (.int .u64 65536)))])
 (.cond (.t 8) (.seq (.region 0 [oM 9 0,
 oP 10 (.bin .shr (.t 9) (.c (.int .u64 16))),
 oM 0 10])
 (.region 0 [oM 11 2,
 oP 12 (.bin .add (.t 11) (.c (.int .i64 16))),
 oM 2 12]))
 (.skip)))
 (.seq (.seq (.region 0 [oM 13 0,
 oP 14 (.bin .geq (.t 13) (.c (.int .u64 256)))])
 (.cond (.t 14) (.seq (.region 0 [oM 15 0,
 oP 16 (.bin .shr (.t 15) (.c (.int .u64 8))),
 oM 0 16])
 (.region 0 [oM 17 2,
 oP 18 (.bin .add (.t 17) (.c (.int .i64 8))),
 oM 2 18]))
 (.skip)))
 (.seq (.region 0 [oM 19 2,
 oM 20 0,
 oP 21 (.conv .u8 (.t 20)),
 ⟨(some 22),.p (.idxStr (.c (.str ⟨#[0,1,2,2,3,3,3,3,4,4,4,4,4,4,4,4,5,5,5,5,5,5,5,5,5,5,5,5,5,5,5,5,6,6,6,6,6,6,6,6,6,6,6,6,6,6,6,6,6,6,6,6,6,6,6,6,6,6,6,6,6,6,6,6,7,7,7,7,7,7,7,7,7,7,7,7,7,7,7,7,7,7,7,7,7,7,7,7,7,7,7,7,7,7,7,7,7,7,7,7,7,7,7,7,7,7,7,7,7,7,7,7,7,7,7,7,7,7,7,7,7,7,7,7,7,7,7,7,8,8,8,8,8,8,8,8,8,8,8,8,8,8,8,8,8,8,8,8,8,8,8,8,8,8,8,8,8,8,8,8,8,8,8,8,8,8,8,8,8,8,8,8,8,8,8,8,8,8,8,8,8,8,8,8,8,8,8,8,8,8,8,8,8,8,8,8,8,8,8,8,8,8,8,8,8,8,8,8,8,8,8,8,8,8,8,8,8,8,8,8,8,8,8,8,8,8,8,8,8,8,8,8,8,8,8,8,8,8,8,8,8,8,8,8,8,8,8,8,8,8,8,8,8,8,8,8]⟩)) (.t 21)),none,none,[]⟩,
 oP 23 (.conv .i64 (.t 22)),
 oP 24 (.bin .add (.t 19) (.t 23)),
 oM 2 24])
 (.ret)))))⟩
def f177 : AFn:=⟨69,[.tmp 8],
 .seq (.region 0 [oP 8 (.move (.c (.bool false)))])
 (.seq (.seq (.region 0 [oM 11 0,
 oM 12 2,
 oM 13 1,
 oP 14 (.nilCheck (.t 11)),
 oP 15 (.idxArr 21 21 (.t 14) (.t 12)),
 oP 16 (.idxArr 21 1 (.t 15) (.t 13)),
 oL 17 false 1 16,
 oM 18 3,
 oP 19 (.bin .add (.t 17) (.t 18)),
 oP 20 (.bin .lss (.t 19) (.c (.int .i64 0)))])
 (.cond (.t 20) (.seq (.region 0 [oP 8 (.move (.c (.bool false)))])
 (.ret))
 (.skip)))
 (.seq (.seq (.region 0 [oM 21 0,
 oM 22 1,
 oM 23 2,
 oP 24 (.nilCheck (.t 21)),
 oP 25 (.idxArr 21 21 (.t 24) (.t 22)),
 oP 26 (.idxArr 21 1 (.t 25) (.t 23)),
 oL 27 false 1 26,
 oM 28 3,
 oP 29 (.bin .leq (.t 27) (.t 28))])
 (.cond (.t 29) (.seq (.region 0 [oP 8 (.move (.c (.bool true)))])
 (.ret))
 (.skip)))
 (.seq (.seq (.region 0 [oC 30 0])
 (.block 0 (.loop (.seq (.region 0 [oP 31 (.bin .lss (.t 30) (.c (.int .i64 21)))])
 (.seq (.cond (.t 31) (.skip)
 (.exit 0))
 (.seq (.block 1 (.seq (.region 0 [oM 32 30,
 oM 9 32])
 (.seq (.region 0 [oC 33 0])
 (.block 2 (.loop (.seq (.region 0 [oP 34 (.bin .lss (.t 33) (.c (.int .i64 21)))])
 (.seq (.cond (.t 34) (.skip)
 (.exit 2))
 (.seq (.block 3 (.seq (.region 0 [oM 35 33,
 oM 10 35])
 (.region 0 [oM 36 0,
 oM 37 9,
 oM 38 10,
 oM 39 0,
 oM 40 9,
 oM 41 10,
 oP 42 (.nilCheck (.t 39)),
 oP 43 (.idxArr 21 21 (.t 42) (.t 40)),
 oP 44 (.idxArr 21 1 (.t 43) (.t 41)),
 oL 45 false 1 44,
 oM 46 0,
 oM 47 9,
 oM 48 1,
 oP 49 (.nilCheck (.t 46)),
 oP 50 (.idxArr 21 21 (.t 49) (.t 47)),
 oP 51 (.idxArr 21 1 (.t 50) (.t 48)),
 oL 52 false 1 51,
 oM 53 3,
 oP 54 (.bin .add (.t 52) (.t 53)),
 oM 55 0,
 oM 56 2,
 oM 57 10,
 oP 58 (.nilCheck (.t 55)),
 oP 59 (.idxArr 21 21 (.t 58) (.t 56)),
 oP 60 (.idxArr 21 1 (.t 59) (.t 57)),
 oL 61 false 1 60,
 oP 62 (.bin .add (.t 54) (.t 61)),
 oP 63 (.minmax false (.t 45) [(.t 62)]),
 oP 64 (.nilCheck (.t 36)),
 oP 65 (.idxArr 21 21 (.t 64) (.t 37)),
 oP 66 (.idxArr 21 1 (.t 65) (.t 38)),
 ⟨none,.store 1 (.t 66) (.t 63),none,none,[]⟩])))
 (.region 0 [oP 67 (.bin .add (.t 33) (.c (.int .i64 1))),
 oM 33 67])))))))))
 (.region 0 [oP 68 (.bin .add (.t 30) (.c (.int .i64 1))),
 oM 30 68])))))))
 (.seq (.region 0 [oP 8 (.move (.c (.bool true)))])
 (.ret)))))⟩
def f183 : AFn:=⟨6,[.tmp 2],
 .seq (.region 0 [oP 2 (.move (.c (.bool false)))])
 (.seq (.region 0 [oM 3 0,
 oM 4 0,
 oP 5 (.bin .neq (.t 3) (.t 4)),
 oM 2 5])
 (.ret))⟩
end Go.Proofs.YtfknojncfbahpaaGreat.T
