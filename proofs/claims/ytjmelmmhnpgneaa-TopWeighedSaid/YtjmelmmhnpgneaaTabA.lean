/-
The code of functions of the seat, as the abstract machine has it (printed by a tool of ours off the dump).
-/
import Derived.Test.YtjmelmmhnpgneaaAmX
namespace Go.Proofs.Ytjmelmmhnpgneaa.T
open Go Go.Am
abbrev oP (n : Nat) (p : POp) : AOper := ⟨some n, .p p, none, none, []⟩
abbrev oQ (n : Nat) (p : AOp) : AOper := ⟨some n, p, none, none, []⟩
abbrev oG (n m : Nat) (b : Bool) (p : POp) : AOper := ⟨some n, .p p, some (m, b), none, []⟩
/-- gosem.cut.init -/
def f2 : AFn := ⟨1, [],
 .region 0 [oQ 0 (.call 1 1 [])]⟩
/-- almadraba/almadrabatop.TopWeighed -/
def f3 : AFn := ⟨155, [.tmp 6],
 .seq (.region 0 [oQ 3 (.box (.t 0)),
 oQ 4 (.box (.t 1)),
 oQ 5 (.box (.t 2)),
 oP 6 (.move (.c (.bool false)))])
 (.seq (.seq (.region 0 [oQ 16 (.load true 4 (.t 3)),
 oQ 17 (.call 1 4 [(.t 16)]),
 oP 18 (.move (.t 17)),
 ⟨(some 19), .load true 4 (.t 3), (some (18, false)), none, []⟩,
 ⟨(some 20), .call 1 5 [(.t 19)], (some (18, false)), none, []⟩,
 oG 21 18 false (.bin .neq (.t 20) (.c (.int .i64 0))),
 oP 22 (.pick (.t 18) (.c (.bool true)) (.t 21)),
 oP 23 (.move (.t 22)),
 ⟨(some 24), .load true 4 (.t 4), (some (23, false)), none, []⟩,
 ⟨(some 25), .call 1 6 [(.t 24)], (some (23, false)), none, []⟩,
 oP 26 (.pick (.t 23) (.c (.bool true)) (.t 25)),
 oP 27 (.move (.t 26)),
 ⟨(some 28), .load true 4 (.t 4), (some (27, false)), none, []⟩,
 ⟨(some 29), .call 1 7 [(.t 28)], (some (27, false)), none, []⟩,
 oG 30 27 false (.bin .neq (.t 29) (.c (.int .i64 0))),
 oP 31 (.pick (.t 27) (.c (.bool true)) (.t 30)),
 oP 32 (.move (.t 31)),
 oG 33 32 false (.fieldAddr 0 (.t 5)),
 ⟨(some 34), .load false 1 (.t 33), (some (32, false)), none, []⟩,
 oG 35 32 false (.lenS (.t 34)),
 oG 36 32 false (.bin .gtr (.t 35) (.c (.int .i64 40))),
 oP 37 (.pick (.t 32) (.c (.bool true)) (.t 36)),
 oP 38 (.move (.t 37)),
 oG 39 38 false (.fieldAddr 2 (.t 5)),
 ⟨(some 40), .load false 1 (.t 39), (some (38, false)), none, []⟩,
 oG 41 38 false (.lenS (.t 40)),
 oG 42 38 false (.bin .gtr (.t 41) (.c (.int .i64 40))),
 oP 43 (.pick (.t 38) (.c (.bool true)) (.t 42)),
 oP 44 (.move (.t 43)),
 oG 45 44 false (.fieldAddr 1 (.t 5)),
 ⟨(some 46), .load false 1 (.t 45), (some (44, false)), none, []⟩,
 ⟨(some 47), .call 1 8 [(.t 46), (.c (.int .i64 0)), (.c (.int .i64 50))], (some (44, false)), none, []⟩,
 oG 48 44 false (.un .not (.t 47)),
 oP 49 (.pick (.t 44) (.c (.bool true)) (.t 48)),
 oP 50 (.move (.t 49)),
 ⟨(some 51), .load true 4 (.t 3), (some (50, false)), none, []⟩,
 oG 52 50 false (.fieldAddr 0 (.t 5)),
 ⟨(some 53), .load false 1 (.t 52), (some (50, false)), none, []⟩,
 ⟨(some 54), .call 1 9 [(.t 51), (.t 53)], (some (50, false)), none, []⟩,
 oG 55 50 false (.un .not (.t 54)),
 oP 56 (.pick (.t 50) (.c (.bool true)) (.t 55))])
 (.cond (.t 56) (.seq (.region 0 [oQ 57 (.call 1 10 []),
 oP 6 (.move (.t 57))])
 (.ret))
 (.skip)))
 (.seq (.region 0 [oQ 59 (.load true 4 (.t 3)),
 oQ 60 (.call 1 11 [(.t 59)]),
 oP 58 (.move (.t 60)),
 oP 61 (.extract (.t 58) 0),
 oP 62 (.extract (.t 58) 1),
 oQ 7 (.alloc [.int .i64 0, .int .i64 0]),
 ⟨none, .store 2 (.t 7) (.t 61), none, none, []⟩,
 oP 8 (.move (.t 62))])
 (.seq (.region 0 [oP 63 (.fieldAddr 0 (.t 5)),
 oQ 64 (.load false 1 (.t 63)),
 oP 65 (.fieldAddr 1 (.t 3)),
 oQ 66 (.load false 1 (.t 65)),
 oP 67 (.bin .sub (.t 66) (.c (.int .i64 1))),
 oP 68 (.idxSl 1 (.t 64) (.t 67)),
 oQ 69 (.load false 1 (.t 68)),
 oP 70 (.fieldAddr 0 (.t 3)),
 oQ 71 (.load false 1 (.t 70)),
 oP 72 (.bin .sub (.t 71) (.c (.int .i64 1))),
 oP 73 (.idxSl 1 (.t 69) (.t 72)),
 oQ 74 (.load false 1 (.t 73)),
 oP 9 (.move (.t 74))])
 (.seq (.seq (.region 0 [oP 75 (.move (.t 8)),
 oP 76 (.un .not (.t 75)),
 oP 77 (.move (.t 76)),
 oG 78 77 false (.move (.t 9)),
 oG 79 77 false (.fieldAddr 0 (.t 7)),
 ⟨(some 80), .load false 1 (.t 79), (some (77, false)), none, []⟩,
 oG 81 77 false (.bin .lss (.t 78) (.t 80)),
 oP 82 (.pick (.t 77) (.c (.bool true)) (.t 81)),
 oP 83 (.move (.t 82)),
 oG 84 83 false (.move (.t 9)),
 oG 85 83 false (.fieldAddr 1 (.t 7)),
 ⟨(some 86), .load false 1 (.t 85), (some (83, false)), none, []⟩,
 oG 87 83 false (.bin .gtr (.t 84) (.t 86)),
 oP 88 (.pick (.t 83) (.c (.bool true)) (.t 87))])
 (.cond (.t 88) (.seq (.region 0 [oP 6 (.move (.c (.bool false)))])
 (.ret))
 (.skip)))
 (.seq (.region 0 [oQ 89 (.load true 4 (.t 4)),
 oQ 90 (.load true 2 (.t 7)),
 oP 91 (.fieldAddr 1 (.t 5)),
 oQ 92 (.load false 1 (.t 91)),
 oQ 93 (.call 1 12 [(.t 89), (.t 90), (.t 92)]),
 oQ 10 (.alloc [.int .i64 0, .int .i64 0, .nils, .nils]),
 ⟨none, .store 4 (.t 10) (.t 93), none, none, []⟩])
 (.seq (.region 0 [oQ 94 (.load true 4 (.t 4)),
 oP 95 (.move (.t 9)),
 oP 96 (.move (.t 9)),
 oP 97 (.build [.int .i64 0, .int .i64 0] [(0, 1, (.t 95)), (1, 1, (.t 96))]),
 oP 98 (.fieldAddr 1 (.t 5)),
 oQ 99 (.load false 1 (.t 98)),
 oQ 100 (.call 1 12 [(.t 94), (.t 97), (.t 99)]),
 oQ 11 (.alloc [.int .i64 0, .int .i64 0, .nils, .nils]),
 ⟨none, .store 4 (.t 11) (.t 100), none, none, []⟩])
 (.seq (.seq (.region 0 [oQ 101 (.load true 4 (.t 11)),
 oQ 102 (.load true 4 (.t 10)),
 oP 103 (.fieldAddr 2 (.t 5)),
 oQ 104 (.load false 1 (.t 103)),
 oQ 105 (.call 1 13 [(.t 101), (.t 102), (.t 104)]),
 oP 106 (.un .not (.t 105))])
 (.cond (.t 106) (.seq (.region 0 [oP 6 (.move (.c (.bool false)))])
 (.ret))
 (.skip)))
 (.seq (.seq (.region 0 [oQ 107 (.load true 4 (.t 3)),
 oP 108 (.fieldAddr 3 (.t 5)),
 oQ 109 (.load true 4 (.t 108)),
 oQ 110 (.call 1 14 [(.t 107), (.t 109)]),
 oP 111 (.un .not (.t 110))])
 (.cond (.t 111) (.seq (.region 0 [oQ 112 (.call 1 10 []),
 oP 6 (.move (.t 112))])
 (.ret))
 (.skip)))
 (.seq (.region 0 [oQ 113 (.load true 4 (.t 3)),
 oP 114 (.fieldAddr 3 (.t 5)),
 oQ 115 (.load true 4 (.t 114)),
 oQ 116 (.call 1 15 [(.t 113), (.t 115)]),
 oQ 12 (.alloc [.int .i64 0, .int .i64 0, .nils, .nils]),
 ⟨none, .store 4 (.t 12) (.t 116), none, none, []⟩])
 (.seq (.seq (.region 0 [oQ 117 (.load true 4 (.t 12)),
 oQ 118 (.call 1 5 [(.t 117)]),
 oP 119 (.bin .neq (.t 118) (.c (.int .i64 0))),
 oP 120 (.move (.t 119)),
 ⟨(some 121), .load true 4 (.t 12), (some (120, false)), none, []⟩,
 oG 122 120 false (.fieldAddr 0 (.t 5)),
 ⟨(some 123), .load false 1 (.t 122), (some (120, false)), none, []⟩,
 ⟨(some 124), .call 1 9 [(.t 121), (.t 123)], (some (120, false)), none, []⟩,
 oG 125 120 false (.un .not (.t 124)),
 oP 126 (.pick (.t 120) (.c (.bool true)) (.t 125))])
 (.cond (.t 126) (.seq (.region 0 [oQ 127 (.call 1 10 []),
 oP 6 (.move (.t 127))])
 (.ret))
 (.skip)))
 (.seq (.region 0 [oQ 129 (.load true 4 (.t 12)),
 oQ 130 (.call 1 11 [(.t 129)]),
 oP 128 (.move (.t 130)),
 oP 131 (.extract (.t 128) 0),
 oP 132 (.extract (.t 128) 1),
 oQ 13 (.alloc [.int .i64 0, .int .i64 0]),
 ⟨none, .store 2 (.t 13) (.t 131), none, none, []⟩,
 oP 14 (.move (.t 132))])
 (.seq (.seq (.region 0 [oP 133 (.move (.t 14)),
 oP 134 (.un .not (.t 133))])
 (.cond (.t 134) (.seq (.region 0 [oP 6 (.move (.c (.bool false)))])
 (.ret))
 (.skip)))
 (.seq (.region 0 [oQ 135 (.load true 4 (.t 4)),
 oQ 136 (.load true 2 (.t 13)),
 oP 137 (.fieldAddr 1 (.t 5)),
 oQ 138 (.load false 1 (.t 137)),
 oQ 139 (.call 1 12 [(.t 135), (.t 136), (.t 138)]),
 oQ 15 (.alloc [.int .i64 0, .int .i64 0, .nils, .nils]),
 ⟨none, .store 4 (.t 15) (.t 139), none, none, []⟩])
 (.seq (.region 0 [oQ 140 (.load true 4 (.t 15)),
 oQ 141 (.load true 4 (.t 10)),
 oP 142 (.fieldAddr 2 (.t 5)),
 oQ 143 (.load false 1 (.t 142)),
 oQ 144 (.call 1 13 [(.t 140), (.t 141), (.t 143)]),
 oP 145 (.move (.t 144)),
 ⟨(some 146), .load true 4 (.t 11), (some (145, true)), none, []⟩,
 ⟨(some 147), .load true 4 (.t 15), (some (145, true)), none, []⟩,
 oG 148 145 true (.fieldAddr 2 (.t 5)),
 ⟨(some 149), .load false 1 (.t 148), (some (145, true)), none, []⟩,
 ⟨(some 150), .call 1 13 [(.t 146), (.t 147), (.t 149)], (some (145, true)), none, []⟩,
 oP 151 (.pick (.t 145) (.t 150) (.c (.bool false))),
 oP 152 (.move (.t 151)),
 ⟨(some 153), .call 1 10 [], (some (152, true)), none, []⟩,
 oP 154 (.pick (.t 152) (.t 153) (.c (.bool false))),
 oP 6 (.move (.t 154))])
 (.ret)))))))))))))))⟩
/-- almadraba/almadrabalaw01.Far -/
def f4 : AFn := ⟨20, [.tmp 2],
 .seq (.region 0 [oQ 1 (.box (.t 0)),
 oP 2 (.move (.c (.bool false)))])
 (.seq (.region 0 [oQ 3 (.load true 4 (.t 1)),
 oQ 4 (.call 1 16 [(.t 3)]),
 oP 5 (.move (.t 4)),
 oG 6 5 false (.fieldAddr 0 (.t 1)),
 ⟨(some 7), .load false 1 (.t 6), (some (5, false)), none, []⟩,
 oG 8 5 false (.bin .gtr (.t 7) (.c (.int .i64 3))),
 oG 9 5 false (.move (.t 8)),
 oG 10 9 false (.fieldAddr 1 (.t 1)),
 ⟨(some 11), .load false 1 (.t 10), (some (9, false)), none, []⟩,
 oG 12 9 false (.bin .gtr (.t 11) (.c (.int .i64 3))),
 oG 13 5 false (.pick (.t 9) (.c (.bool true)) (.t 12)),
 oG 14 5 false (.move (.t 13)),
 ⟨(some 15), .load true 4 (.t 1), (some (14, true)), none, []⟩,
 ⟨(some 16), .call 1 5 [(.t 15)], (some (14, true)), none, []⟩,
 oG 17 14 true (.bin .eql (.t 16) (.c (.int .i64 0))),
 oG 18 5 false (.pick (.t 14) (.t 17) (.c (.bool false))),
 oP 19 (.pick (.t 5) (.c (.bool true)) (.t 18)),
 oP 2 (.move (.t 19))])
 (.ret))⟩
/-- almadraba/almadrabaref01.Check -/
def f5 : AFn := ⟨62, [.tmp 2],
 .seq (.region 0 [oQ 1 (.box (.t 0)),
 oP 2 (.move (.c (.int .i64 0)))])
 (.seq (.seq (.region 0 [oP 5 (.fieldAddr 0 (.t 1)),
 oQ 6 (.load false 1 (.t 5)),
 oQ 7 (.call 1 8 [(.t 6), (.c (.int .i64 1)), (.c (.int .i64 4))]),
 oP 8 (.un .not (.t 7)),
 oP 9 (.move (.t 8)),
 oG 10 9 false (.fieldAddr 1 (.t 1)),
 ⟨(some 11), .load false 1 (.t 10), (some (9, false)), none, []⟩,
 ⟨(some 12), .call 1 8 [(.t 11), (.c (.int .i64 1)), (.c (.int .i64 5))], (some (9, false)), none, []⟩,
 oG 13 9 false (.un .not (.t 12)),
 oP 14 (.pick (.t 9) (.c (.bool true)) (.t 13)),
 oP 15 (.move (.t 14)),
 oG 16 15 false (.fieldAddr 2 (.t 1)),
 ⟨(some 17), .load false 1 (.t 16), (some (15, false)), none, []⟩,
 oG 18 15 false (.lenS (.t 17)),
 oG 19 15 false (.fieldAddr 1 (.t 1)),
 ⟨(some 20), .load false 1 (.t 19), (some (15, false)), none, []⟩,
 oG 21 15 false (.bin .sub (.t 20) (.c (.int .i64 1))),
 oG 22 15 false (.bin .neq (.t 18) (.t 21)),
 oP 23 (.pick (.t 15) (.c (.bool true)) (.t 22)),
 oP 24 (.move (.t 23)),
 oG 25 24 false (.fieldAddr 3 (.t 1)),
 ⟨(some 26), .load false 1 (.t 25), (some (24, false)), none, []⟩,
 oG 27 24 false (.lenS (.t 26)),
 oG 28 24 false (.bin .gtr (.t 27) (.c (.int .i64 8))),
 oP 29 (.pick (.t 24) (.c (.bool true)) (.t 28))])
 (.cond (.t 29) (.seq (.region 0 [oP 2 (.move (.c (.int .i64 10)))])
 (.ret))
 (.skip)))
 (.seq (.seq (.region 0 [oP 3 (.move (.c (.int .i64 0)))])
 (.block 0 (.loop (.seq (.seq (.region 0 [oP 30 (.move (.t 3)),
 oP 31 (.fieldAddr 2 (.t 1)),
 oQ 32 (.load false 1 (.t 31)),
 oP 33 (.lenS (.t 32)),
 oP 34 (.bin .lss (.t 30) (.t 33))])
 (.cond (.t 34) (.skip)
 (.exit 0)))
 (.seq (.block 1 (.seq (.region 0 [oP 37 (.fieldAddr 2 (.t 1)),
 oQ 38 (.load false 1 (.t 37)),
 oP 39 (.move (.t 3)),
 oP 40 (.idxSl 1 (.t 38) (.t 39)),
 oQ 41 (.load false 1 (.t 40)),
 oP 42 (.fieldAddr 0 (.t 1)),
 oQ 43 (.load false 1 (.t 42)),
 oP 44 (.bin .sub (.t 43) (.c (.int .i64 1))),
 oQ 45 (.call 1 17 [(.t 41), (.c (.int .i64 0)), (.t 44)]),
 oP 46 (.un .not (.t 45))])
 (.cond (.t 46) (.seq (.region 0 [oP 2 (.move (.c (.int .i64 10)))])
 (.ret))
 (.skip))))
 (.region 0 [oP 35 (.move (.t 3)),
 oP 36 (.bin .add (.t 35) (.c (.int .i64 1))),
 oP 3 (.move (.t 36))]))))))
 (.seq (.seq (.region 0 [oP 4 (.move (.c (.int .i64 0)))])
 (.block 2 (.loop (.seq (.seq (.region 0 [oP 47 (.move (.t 4)),
 oP 48 (.fieldAddr 3 (.t 1)),
 oQ 49 (.load false 1 (.t 48)),
 oP 50 (.lenS (.t 49)),
 oP 51 (.bin .lss (.t 47) (.t 50))])
 (.cond (.t 51) (.skip)
 (.exit 2)))
 (.seq (.block 3 (.seq (.region 0 [oQ 54 (.load true 4 (.t 1)),
 oP 55 (.fieldAddr 3 (.t 1)),
 oQ 56 (.load false 1 (.t 55)),
 oP 57 (.move (.t 4)),
 oP 58 (.idxSl 4 (.t 56) (.t 57)),
 oQ 59 (.load true 4 (.t 58)),
 oQ 60 (.call 1 14 [(.t 54), (.t 59)]),
 oP 61 (.un .not (.t 60))])
 (.cond (.t 61) (.seq (.region 0 [oP 2 (.move (.c (.int .i64 10)))])
 (.ret))
 (.skip))))
 (.region 0 [oP 52 (.move (.t 4)),
 oP 53 (.bin .add (.t 52) (.c (.int .i64 1))),
 oP 4 (.move (.t 53))]))))))
 (.seq (.region 0 [oP 2 (.move (.c (.int .i64 0)))])
 (.ret)))))⟩
/-- almadraba/almadrabalaw05.Far -/
def f6 : AFn := ⟨13, [.tmp 2],
 .seq (.region 0 [oQ 1 (.box (.t 0)),
 oP 2 (.move (.c (.bool false)))])
 (.seq (.region 0 [oP 3 (.fieldAddr 2 (.t 1)),
 oQ 4 (.load false 1 (.t 3)),
 oP 5 (.lenS (.t 4)),
 oP 6 (.bin .gtr (.t 5) (.c (.int .i64 40))),
 oP 7 (.move (.t 6)),
 oG 8 7 false (.fieldAddr 3 (.t 1)),
 ⟨(some 9), .load false 1 (.t 8), (some (7, false)), none, []⟩,
 oG 10 7 false (.lenS (.t 9)),
 oG 11 7 false (.bin .gtr (.t 10) (.c (.int .i64 40))),
 oP 12 (.pick (.t 7) (.c (.bool true)) (.t 11)),
 oP 2 (.move (.t 12))])
 (.ret))⟩
/-- almadraba/almadrabaref05.Check -/
def f7 : AFn := ⟨82, [.tmp 2],
 .seq (.region 0 [oQ 1 (.box (.t 0)),
 oP 2 (.move (.c (.int .i64 0)))])
 (.seq (.seq (.region 0 [oP 8 (.fieldAddr 0 (.t 1)),
 oQ 9 (.load true 2 (.t 8)),
 oQ 10 (.call 1 18 [(.t 9), (.c (.int .i64 2000))]),
 oP 11 (.un .not (.t 10)),
 oP 12 (.move (.t 11)),
 oG 13 12 false (.fieldAddr 2 (.t 1)),
 ⟨(some 14), .load false 1 (.t 13), (some (12, false)), none, []⟩,
 oG 15 12 false (.lenS (.t 14)),
 oG 16 12 false (.bin .gtr (.t 15) (.c (.int .i64 4))),
 oP 17 (.pick (.t 12) (.c (.bool true)) (.t 16)),
 oP 18 (.move (.t 17)),
 oG 19 18 false (.fieldAddr 3 (.t 1)),
 ⟨(some 20), .load false 1 (.t 19), (some (18, false)), none, []⟩,
 oG 21 18 false (.lenS (.t 20)),
 oG 22 18 false (.bin .gtr (.t 21) (.c (.int .i64 6))),
 oP 23 (.pick (.t 18) (.c (.bool true)) (.t 22))])
 (.cond (.t 23) (.seq (.region 0 [oP 2 (.move (.c (.int .i64 50)))])
 (.ret))
 (.skip)))
 (.seq (.region 0 [oP 3 (.move (.c (.int .i64 0))),
 oP 4 (.move (.c (.int .i64 0)))])
 (.seq (.seq (.region 0 [oP 5 (.move (.c (.int .i64 0)))])
 (.block 0 (.loop (.seq (.seq (.region 0 [oP 24 (.move (.t 5)),
 oP 25 (.fieldAddr 2 (.t 1)),
 oQ 26 (.load false 1 (.t 25)),
 oP 27 (.lenS (.t 26)),
 oP 28 (.bin .lss (.t 24) (.t 27))])
 (.cond (.t 28) (.skip)
 (.exit 0)))
 (.seq (.block 1 (.seq (.seq (.region 0 [oP 31 (.fieldAddr 2 (.t 1)),
 oQ 32 (.load false 1 (.t 31)),
 oP 33 (.move (.t 5)),
 oP 34 (.idxSl 2 (.t 32) (.t 33)),
 oQ 35 (.load true 2 (.t 34)),
 oQ 36 (.call 1 18 [(.t 35), (.c (.int .i64 12))]),
 oP 37 (.un .not (.t 36))])
 (.cond (.t 37) (.seq (.region 0 [oP 2 (.move (.c (.int .i64 50)))])
 (.ret))
 (.skip)))
 (.region 0 [oP 38 (.move (.t 3)),
 oP 39 (.fieldAddr 2 (.t 1)),
 oQ 40 (.load false 1 (.t 39)),
 oP 41 (.move (.t 5)),
 oP 42 (.idxSl 2 (.t 40) (.t 41)),
 oP 43 (.fieldAddr 0 (.t 42)),
 oQ 44 (.load false 1 (.t 43)),
 oP 45 (.bin .add (.t 38) (.t 44)),
 oP 46 (.move (.t 4)),
 oP 47 (.fieldAddr 2 (.t 1)),
 oQ 48 (.load false 1 (.t 47)),
 oP 49 (.move (.t 5)),
 oP 50 (.idxSl 2 (.t 48) (.t 49)),
 oP 51 (.fieldAddr 1 (.t 50)),
 oQ 52 (.load false 1 (.t 51)),
 oP 53 (.bin .add (.t 46) (.t 52)),
 oP 3 (.move (.t 45)),
 oP 4 (.move (.t 53))])))
 (.region 0 [oP 29 (.move (.t 5)),
 oP 30 (.bin .add (.t 29) (.c (.int .i64 1))),
 oP 5 (.move (.t 30))]))))))
 (.seq (.seq (.region 0 [oP 6 (.move (.c (.int .i64 0)))])
 (.block 2 (.loop (.seq (.seq (.region 0 [oP 54 (.move (.t 6)),
 oP 55 (.fieldAddr 3 (.t 1)),
 oQ 56 (.load false 1 (.t 55)),
 oP 57 (.lenS (.t 56)),
 oP 58 (.bin .lss (.t 54) (.t 57))])
 (.cond (.t 58) (.skip)
 (.exit 2)))
 (.seq (.block 3 (.seq (.region 0 [oP 61 (.fieldAddr 3 (.t 1)),
 oQ 62 (.load false 1 (.t 61)),
 oP 63 (.move (.t 6)),
 oP 64 (.idxSl 2 (.t 62) (.t 63)),
 oQ 65 (.load true 2 (.t 64)),
 oQ 7 (.alloc [.int .i64 0, .int .i64 0]),
 ⟨none, .store 2 (.t 7) (.t 65), none, none, []⟩])
 (.seq (.region 0 [oP 66 (.fieldAddr 0 (.t 7)),
 oQ 67 (.load false 1 (.t 66)),
 oQ 68 (.call 1 19 [(.t 67), (.c (.int .i64 0)), (.c (.int .i64 999))]),
 oP 69 (.un .not (.t 68)),
 oP 70 (.move (.t 69)),
 oG 71 70 false (.fieldAddr 1 (.t 7)),
 ⟨(some 72), .load false 1 (.t 71), (some (70, false)), none, []⟩,
 ⟨(some 73), .call 1 19 [(.t 72), (.c (.int .i64 0)), (.c (.int .i64 99))], (some (70, false)), none, []⟩,
 oG 74 70 false (.un .not (.t 73)),
 oP 75 (.pick (.t 70) (.c (.bool true)) (.t 74))])
 (.cond (.t 75) (.seq (.region 0 [oP 2 (.move (.c (.int .i64 50)))])
 (.ret))
 (.skip)))))
 (.region 0 [oP 59 (.move (.t 6)),
 oP 60 (.bin .add (.t 59) (.c (.int .i64 1))),
 oP 6 (.move (.t 60))]))))))
 (.seq (.seq (.region 0 [oP 76 (.move (.t 3)),
 oP 77 (.bin .gtr (.t 76) (.c (.int .i64 12))),
 oP 78 (.move (.t 77)),
 oG 79 78 false (.move (.t 4)),
 oG 80 78 false (.bin .lss (.t 79) (.c (.int .i64 12))),
 oP 81 (.pick (.t 78) (.c (.bool true)) (.t 80))])
 (.cond (.t 81) (.seq (.region 0 [oP 2 (.move (.c (.int .i64 50)))])
 (.ret))
 (.skip)))
 (.seq (.region 0 [oP 2 (.move (.c (.int .i64 0)))])
 (.ret)))))))⟩
/-- almadraba/almadrabaref01.Within -/
def f8 : AFn := ⟨15, [.tmp 6],
 .seq (.region 0 [oP 6 (.move (.c (.bool false)))])
 (.seq (.region 0 [oP 7 (.move (.t 1)),
 oP 8 (.move (.t 0)),
 oP 9 (.bin .leq (.t 7) (.t 8)),
 oP 10 (.move (.t 9)),
 oG 11 10 true (.move (.t 0)),
 oG 12 10 true (.move (.t 2)),
 oG 13 10 true (.bin .leq (.t 11) (.t 12)),
 oP 14 (.pick (.t 10) (.t 13) (.c (.bool false))),
 oP 6 (.move (.t 14))])
 (.ret))⟩
/-- almadraba/almadrabaref01.IsTruth -/
def f9 : AFn := ⟨122, [.tmp 4],
 .seq (.region 0 [oQ 2 (.box (.t 0)),
 oP 4 (.move (.c (.bool false)))])
 (.seq (.seq (.region 0 [oP 11 (.move (.t 1)),
 oP 12 (.lenS (.t 11)),
 oP 13 (.fieldAddr 1 (.t 2)),
 oQ 14 (.load false 1 (.t 13)),
 oP 15 (.bin .neq (.t 12) (.t 14))])
 (.cond (.t 15) (.seq (.region 0 [oP 4 (.move (.c (.bool false)))])
 (.ret))
 (.skip)))
 (.seq (.seq (.region 0 [oP 5 (.move (.c (.int .i64 0)))])
 (.block 0 (.loop (.seq (.seq (.region 0 [oP 16 (.move (.t 5)),
 oP 17 (.move (.t 1)),
 oP 18 (.lenS (.t 17)),
 oP 19 (.bin .lss (.t 16) (.t 18))])
 (.cond (.t 19) (.skip)
 (.exit 0)))
 (.seq (.block 1 (.seq (.seq (.region 0 [oP 22 (.move (.t 1)),
 oP 23 (.move (.t 5)),
 oP 24 (.idxSl 1 (.t 22) (.t 23)),
 oQ 25 (.load false 1 (.t 24)),
 oP 26 (.lenS (.t 25)),
 oP 27 (.fieldAddr 0 (.t 2)),
 oQ 28 (.load false 1 (.t 27)),
 oP 29 (.bin .neq (.t 26) (.t 28))])
 (.cond (.t 29) (.seq (.region 0 [oP 4 (.move (.c (.bool false)))])
 (.ret))
 (.skip)))
 (.seq (.seq (.region 0 [oP 6 (.move (.c (.int .i64 0)))])
 (.block 2 (.loop (.seq (.seq (.region 0 [oP 30 (.move (.t 6)),
 oP 31 (.move (.t 1)),
 oP 32 (.move (.t 5)),
 oP 33 (.idxSl 1 (.t 31) (.t 32)),
 oQ 34 (.load false 1 (.t 33)),
 oP 35 (.lenS (.t 34)),
 oP 36 (.bin .lss (.t 30) (.t 35))])
 (.cond (.t 36) (.skip)
 (.exit 2)))
 (.seq (.block 3 (.seq (.region 0 [oP 39 (.move (.t 1)),
 oP 40 (.move (.t 5)),
 oP 41 (.idxSl 1 (.t 39) (.t 40)),
 oQ 42 (.load false 1 (.t 41)),
 oP 43 (.move (.t 6)),
 oP 44 (.idxSl 1 (.t 42) (.t 43)),
 oQ 45 (.load false 1 (.t 44)),
 oQ 46 (.call 1 8 [(.t 45), (.c (.int .i64 0)), (.c (.int .i64 40))]),
 oP 47 (.un .not (.t 46))])
 (.cond (.t 47) (.seq (.region 0 [oP 4 (.move (.c (.bool false)))])
 (.ret))
 (.skip))))
 (.region 0 [oP 37 (.move (.t 6)),
 oP 38 (.bin .add (.t 37) (.c (.int .i64 1))),
 oP 6 (.move (.t 38))]))))))
 (.seq (.seq (.region 0 [oP 48 (.move (.t 1)),
 oP 49 (.move (.t 5)),
 oP 50 (.idxSl 1 (.t 48) (.t 49)),
 oQ 51 (.load false 1 (.t 50)),
 oQ 52 (.call 1 20 [(.t 51), (.c (.int .i64 0))]),
 oP 53 (.bin .gtr (.t 52) (.c (.int .i64 40)))])
 (.cond (.t 53) (.seq (.region 0 [oP 4 (.move (.c (.bool false)))])
 (.ret))
 (.skip)))
 (.seq (.region 0 [oP 7 (.move (.c (.int .i64 0)))])
 (.block 4 (.loop (.seq (.seq (.region 0 [oP 54 (.move (.t 7)),
 oP 55 (.fieldAddr 0 (.t 2)),
 oQ 56 (.load false 1 (.t 55)),
 oP 57 (.bin .lss (.t 54) (.t 56)),
 oP 58 (.move (.t 57)),
 oG 59 58 true (.move (.t 5)),
 oG 60 58 true (.bin .gtr (.t 59) (.c (.int .i64 0))),
 oP 61 (.pick (.t 58) (.t 60) (.c (.bool false)))])
 (.cond (.t 61) (.skip)
 (.exit 4)))
 (.seq (.block 5 (.seq (.region 0 [oP 64 (.move (.t 1)),
 oP 65 (.move (.t 5)),
 oP 66 (.idxSl 1 (.t 64) (.t 65)),
 oQ 67 (.load false 1 (.t 66)),
 oP 68 (.move (.t 7)),
 oQ 69 (.call 1 20 [(.t 67), (.t 68)]),
 oP 70 (.move (.t 1)),
 oP 71 (.move (.t 5)),
 oP 72 (.bin .sub (.t 71) (.c (.int .i64 1))),
 oP 73 (.idxSl 1 (.t 70) (.t 72)),
 oQ 74 (.load false 1 (.t 73)),
 oP 75 (.move (.t 7)),
 oQ 76 (.call 1 20 [(.t 74), (.t 75)]),
 oP 77 (.bin .sub (.t 69) (.t 76)),
 oP 8 (.move (.t 77))])
 (.seq (.region 0 [oP 78 (.move (.t 8)),
 oP 79 (.bin .lss (.t 78) (.c (.int .i64 0))),
 oP 80 (.move (.t 79)),
 oG 81 80 false (.move (.t 8)),
 oG 82 80 false (.bin .gtr (.t 81) (.c (.int .i64 0))),
 oG 83 80 false (.move (.t 82)),
 oG 84 83 true (.fieldAddr 2 (.t 2)),
 ⟨(some 85), .load false 1 (.t 84), (some (83, true)), none, []⟩,
 oG 86 83 true (.move (.t 5)),
 oG 87 83 true (.bin .sub (.t 86) (.c (.int .i64 1))),
 oG 88 83 true (.idxSl 1 (.t 85) (.t 87)),
 ⟨(some 89), .load false 1 (.t 88), (some (83, true)), none, []⟩,
 oG 90 83 true (.move (.t 7)),
 ⟨(some 91), .call 1 21 [(.t 89), (.t 90)], (some (83, true)), none, []⟩,
 oG 92 83 true (.un .not (.t 91)),
 oG 93 80 false (.pick (.t 83) (.t 92) (.c (.bool false))),
 oP 94 (.pick (.t 80) (.c (.bool true)) (.t 93))])
 (.cond (.t 94) (.seq (.region 0 [oP 4 (.move (.c (.bool false)))])
 (.ret))
 (.skip)))))
 (.region 0 [oP 62 (.move (.t 7)),
 oP 63 (.bin .add (.t 62) (.c (.int .i64 1))),
 oP 7 (.move (.t 63))]))))))))))
 (.region 0 [oP 20 (.move (.t 5)),
 oP 21 (.bin .add (.t 20) (.c (.int .i64 1))),
 oP 5 (.move (.t 21))]))))))
 (.seq (.seq (.region 0 [oP 9 (.move (.c (.int .i64 0)))])
 (.block 6 (.loop (.seq (.seq (.region 0 [oP 95 (.move (.t 9)),
 oP 96 (.fieldAddr 3 (.t 2)),
 oQ 97 (.load false 1 (.t 96)),
 oP 98 (.lenS (.t 97)),
 oP 99 (.bin .lss (.t 95) (.t 98))])
 (.cond (.t 99) (.skip)
 (.exit 6)))
 (.seq (.block 7 (.seq (.region 0 [oP 102 (.fieldAddr 3 (.t 2)),
 oQ 103 (.load false 1 (.t 102)),
 oP 104 (.move (.t 9)),
 oP 105 (.idxSl 4 (.t 103) (.t 104)),
 oQ 106 (.load true 4 (.t 105)),
 oQ 10 (.alloc [.int .i64 0, .int .i64 0, .int .i64 0, .int .i64 0]),
 ⟨none, .store 4 (.t 10) (.t 106), none, none, []⟩])
 (.seq (.region 0 [oP 107 (.move (.t 1)),
 oP 108 (.fieldAddr 0 (.t 10)),
 oQ 109 (.load false 1 (.t 108)),
 oP 110 (.idxSl 1 (.t 107) (.t 109)),
 oQ 111 (.load false 1 (.t 110)),
 oP 112 (.fieldAddr 1 (.t 10)),
 oQ 113 (.load false 1 (.t 112)),
 oP 114 (.idxSl 1 (.t 111) (.t 113)),
 oQ 115 (.load false 1 (.t 114)),
 oP 116 (.fieldAddr 2 (.t 10)),
 oQ 117 (.load false 1 (.t 116)),
 oP 118 (.fieldAddr 3 (.t 10)),
 oQ 119 (.load false 1 (.t 118)),
 oQ 120 (.call 1 8 [(.t 115), (.t 117), (.t 119)]),
 oP 121 (.un .not (.t 120))])
 (.cond (.t 121) (.seq (.region 0 [oP 4 (.move (.c (.bool false)))])
 (.ret))
 (.skip)))))
 (.region 0 [oP 100 (.move (.t 9)),
 oP 101 (.bin .add (.t 100) (.c (.int .i64 1))),
 oP 9 (.move (.t 101))]))))))
 (.seq (.region 0 [oP 4 (.move (.c (.bool true)))])
 (.ret)))))⟩
/-- almadraba/almadrabatop.weighed -/
def f10 : AFn := ⟨42, [.tmp 0],
 .seq (.region 0 [oP 0 (.move (.c (.bool false)))])
 (.seq (.region 0 [oQ 10 (.call 1 22 []),
 oP 9 (.move (.t 10)),
 oP 11 (.extract (.t 9) 0),
 oP 12 (.extract (.t 9) 1),
 oQ 1 (.alloc [.int .i64 0, .int .i64 0, .nils, .nils]),
 oQ 2 (.alloc [.int .i64 0, .int .i64 0, .nils, .nils]),
 ⟨none, .store 4 (.t 1) (.t 11), none, none, []⟩,
 ⟨none, .store 4 (.t 2) (.t 12), none, none, []⟩])
 (.seq (.region 0 [oQ 14 (.call 1 23 []),
 oP 13 (.move (.t 14)),
 oP 15 (.extract (.t 13) 0),
 oP 16 (.extract (.t 13) 1),
 oQ 3 (.alloc [.int .i64 0, .int .i64 0, .nils, .nils]),
 oQ 4 (.alloc [.int .i64 0, .int .i64 0, .nils, .nils]),
 ⟨none, .store 4 (.t 3) (.t 15), none, none, []⟩,
 ⟨none, .store 4 (.t 4) (.t 16), none, none, []⟩])
 (.seq (.region 0 [oQ 18 (.load true 4 (.t 1)),
 oQ 19 (.call 1 24 [(.t 18), (.c (.int .i64 2)), (.c (.int .i64 1))]),
 oP 17 (.move (.t 19)),
 oP 20 (.extract (.t 17) 0),
 oP 21 (.extract (.t 17) 1),
 oQ 5 (.alloc [.int .i64 0, .int .i64 0]),
 ⟨none, .store 2 (.t 5) (.t 20), none, none, []⟩,
 oP 6 (.move (.t 21))])
 (.seq (.region 0 [oQ 23 (.load true 4 (.t 3)),
 oQ 24 (.call 1 25 [(.t 23)]),
 oP 22 (.move (.t 24)),
 oP 25 (.extract (.t 22) 0),
 oP 26 (.extract (.t 22) 1),
 oP 7 (.move (.t 25)),
 oP 8 (.move (.t 26))])
 (.seq (.region 0 [oP 27 (.move (.t 6)),
 oP 28 (.bin .eql (.t 27) (.c (.int .i64 0))),
 oP 29 (.move (.t 28)),
 oG 30 29 true (.move (.t 8)),
 oG 31 29 true (.bin .eql (.t 30) (.c (.int .i64 0))),
 oP 32 (.pick (.t 29) (.t 31) (.c (.bool false))),
 oP 33 (.move (.t 32)),
 ⟨(some 34), .load true 2 (.t 5), (some (33, true)), none, []⟩,
 oG 35 33 true (.build [.int .i64 0, .int .i64 0] [(0, 1, (.c (.int .i64 4))), (1, 1, (.c (.int .i64 10)))]),
 oG 36 33 true (.eqS false [true, true] (.t 34) (.t 35)),
 oP 37 (.pick (.t 33) (.t 36) (.c (.bool false))),
 oP 38 (.move (.t 37)),
 oG 39 38 true (.move (.t 7)),
 oG 40 38 true (.bin .eql (.t 39) (.c (.int .i64 20))),
 oP 41 (.pick (.t 38) (.t 40) (.c (.bool false))),
 oP 0 (.move (.t 41))])
 (.ret))))))⟩
/-- almadraba/almadrabatop.lastFish -/
def f11 : AFn := ⟨37, [.cell true 2 2, .tmp 3],
 .seq (.region 0 [oQ 1 (.box (.t 0)),
 oQ 2 (.alloc [.int .i64 0, .int .i64 0]),
 oP 3 (.move (.c (.bool false)))])
 (.seq (.region 0 [oQ 7 (.load true 4 (.t 1)),
 oP 8 (.fieldAddr 1 (.t 1)),
 oQ 9 (.load false 1 (.t 8)),
 oP 10 (.bin .sub (.t 9) (.c (.int .i64 1))),
 oP 11 (.fieldAddr 0 (.t 1)),
 oQ 12 (.load false 1 (.t 11)),
 oP 13 (.bin .sub (.t 12) (.c (.int .i64 1))),
 oQ 14 (.call 1 24 [(.t 7), (.t 10), (.t 13)]),
 oP 6 (.move (.t 14)),
 oP 15 (.extract (.t 6) 0),
 oP 16 (.extract (.t 6) 1),
 oQ 4 (.alloc [.int .i64 0, .int .i64 0]),
 ⟨none, .store 2 (.t 4) (.t 15), none, none, []⟩,
 oP 5 (.move (.t 16))])
 (.seq (.region 0 [oQ 17 (.load true 2 (.t 4)),
 oP 18 (.move (.t 5)),
 oP 19 (.bin .eql (.t 18) (.c (.int .i64 0))),
 oP 20 (.move (.t 19)),
 oG 21 20 true (.fieldAddr 0 (.t 4)),
 ⟨(some 22), .load false 1 (.t 21), (some (20, true)), none, []⟩,
 oG 23 20 true (.bin .geq (.t 22) (.c (.int .i64 0))),
 oP 24 (.pick (.t 20) (.t 23) (.c (.bool false))),
 oP 25 (.move (.t 24)),
 oG 26 25 true (.fieldAddr 0 (.t 4)),
 ⟨(some 27), .load false 1 (.t 26), (some (25, true)), none, []⟩,
 oG 28 25 true (.fieldAddr 1 (.t 4)),
 ⟨(some 29), .load false 1 (.t 28), (some (25, true)), none, []⟩,
 oG 30 25 true (.bin .leq (.t 27) (.t 29)),
 oP 31 (.pick (.t 25) (.t 30) (.c (.bool false))),
 oP 32 (.move (.t 31)),
 oG 33 32 true (.fieldAddr 1 (.t 4)),
 ⟨(some 34), .loadR false 1 (.t 33) 4, (some (32, true)), none, []⟩,
 oG 35 32 true (.bin .leq (.t 34) (.c (.int .i64 40))),
 oP 36 (.pick (.t 32) (.t 35) (.c (.bool false))),
 ⟨none, .storeR 2 (.t 2) (.t 17) [4], none, none, []⟩,
 oP 3 (.move (.t 36))])
 (.ret)))⟩
/-- almadraba/almadrabatop.withCatch -/
def f12 : AFn := ⟨21, [.cell true 4 6],
 .seq (.region 0 [oQ 3 (.box (.t 0)),
 oQ 4 (.box (.t 1)),
 oQ 6 (.alloc [.int .i64 0, .int .i64 0, .nils, .nils])])
 (.seq (.region 0 [oQ 8 (.load true 4 (.t 3)),
 oQ 9 (.call 1 26 [(.t 8)]),
 oQ 7 (.alloc [.int .i64 0, .int .i64 0, .nils, .nils]),
 ⟨none, .store 4 (.t 7) (.t 9), none, none, []⟩])
 (.seq (.region 0 [oP 10 (.fieldAddr 0 (.t 4)),
 oQ 11 (.load false 1 (.t 10)),
 oP 12 (.move (.t 2)),
 oP 13 (.bin .mul (.t 11) (.t 12)),
 oP 14 (.fieldAddr 1 (.t 4)),
 oQ 15 (.load false 1 (.t 14)),
 oP 16 (.move (.t 2)),
 oP 17 (.bin .mul (.t 15) (.t 16)),
 oP 18 (.build [.int .i64 0, .int .i64 0] [(0, 1, (.t 13)), (1, 1, (.t 17))]),
 oP 19 (.fieldAddr 0 (.t 7)),
 ⟨none, .store 2 (.t 19) (.t 18), none, none, []⟩])
 (.seq (.region 0 [oQ 20 (.load true 4 (.t 7)),
 ⟨none, .store 4 (.t 6) (.t 20), none, none, []⟩])
 (.ret))))⟩
/-- almadraba/almadrabatop.surer -/
def f13 : AFn := ⟨87, [.tmp 6],
 .seq (.region 0 [oQ 3 (.box (.t 0)),
 oQ 4 (.box (.t 1)),
 oP 6 (.move (.c (.bool false)))])
 (.seq (.seq (.region 0 [oQ 15 (.load true 4 (.t 3)),
 oP 16 (.move (.t 2)),
 oQ 17 (.call 1 27 [(.t 15), (.t 16)])])
 (.cond (.t 17) (.seq (.region 2 [⟨(some 19), .load true 4 (.t 4), none, none, [0, 1]⟩,
 ⟨(some 20), .buildSlice 1 0 [.int .i64 0] [], none, (some 0), []⟩,
 oP 21 (.move (.t 2)),
 ⟨(some 22), .append true 1 8 (.t 20) (.t 21), none, (some 1), []⟩,
 oQ 23 (.call 1 28 [(.t 19), (.t 22)]),
 oP 18 (.move (.t 23)),
 oP 24 (.extract (.t 18) 0),
 oP 25 (.extract (.t 18) 1),
 oP 7 (.move (.t 24)),
 oP 8 (.move (.t 25))])
 (.seq (.region 2 [⟨(some 27), .load true 4 (.t 3), none, none, [0, 1]⟩,
 ⟨(some 28), .buildSlice 1 0 [.int .i64 0] [], none, (some 0), []⟩,
 oP 29 (.move (.t 2)),
 ⟨(some 30), .append true 1 8 (.t 28) (.t 29), none, (some 1), []⟩,
 oQ 31 (.call 1 28 [(.t 27), (.t 30)]),
 oP 26 (.move (.t 31)),
 oP 32 (.extract (.t 26) 0),
 oP 33 (.extract (.t 26) 1),
 oP 9 (.move (.t 32)),
 oP 10 (.move (.t 33))])
 (.seq (.region 0 [oP 34 (.move (.t 8)),
 oP 35 (.bin .neq (.t 34) (.c (.int .i64 0))),
 oP 36 (.move (.t 35)),
 oG 37 36 false (.move (.t 10)),
 oG 38 36 false (.bin .neq (.t 37) (.c (.int .i64 0))),
 oP 39 (.pick (.t 36) (.c (.bool true)) (.t 38)),
 oP 40 (.move (.t 39)),
 oG 41 40 false (.move (.t 7)),
 ⟨(some 42), .call 1 8 [(.t 41), (.c (.int .i64 1)), (.c (.int .i64 3))], (some (40, false)), none, []⟩,
 oG 43 40 false (.un .not (.t 42)),
 oP 44 (.pick (.t 40) (.c (.bool true)) (.t 43)),
 oP 45 (.move (.t 44)),
 oG 46 45 false (.move (.t 7)),
 oG 47 45 false (.bin .neq (.t 46) (.c (.int .i64 3))),
 oG 48 45 false (.move (.t 47)),
 oG 49 48 true (.move (.t 9)),
 oG 50 48 true (.move (.t 7)),
 oG 51 48 true (.bin .neq (.t 49) (.t 50)),
 oG 52 45 false (.pick (.t 48) (.t 51) (.c (.bool false))),
 oP 53 (.pick (.t 45) (.c (.bool true)) (.t 52))])
 (.cond (.t 53) (.seq (.region 0 [oP 6 (.move (.c (.bool false)))])
 (.ret))
 (.skip)))))
 (.skip)))
 (.seq (.region 0 [oQ 55 (.load true 4 (.t 4)),
 oQ 56 (.call 1 25 [(.t 55)]),
 oP 54 (.move (.t 56)),
 oP 57 (.extract (.t 54) 0),
 oP 58 (.extract (.t 54) 1),
 oP 11 (.move (.t 57)),
 oP 12 (.move (.t 58))])
 (.seq (.region 0 [oQ 60 (.load true 4 (.t 3)),
 oQ 61 (.call 1 25 [(.t 60)]),
 oP 59 (.move (.t 61)),
 oP 62 (.extract (.t 59) 0),
 oP 63 (.extract (.t 59) 1),
 oP 13 (.move (.t 62)),
 oP 14 (.move (.t 63))])
 (.seq (.region 0 [oP 64 (.move (.t 12)),
 oP 65 (.bin .eql (.t 64) (.c (.int .i64 0))),
 oP 66 (.move (.t 65)),
 oG 67 66 false (.move (.t 12)),
 oG 68 66 false (.bin .eql (.t 67) (.c (.int .i64 3))),
 oP 69 (.pick (.t 66) (.c (.bool true)) (.t 68)),
 oP 70 (.move (.t 69)),
 oG 71 70 true (.move (.t 12)),
 oG 72 70 true (.bin .neq (.t 71) (.c (.int .i64 0))),
 oG 73 70 true (.move (.t 72)),
 oG 74 73 false (.move (.t 14)),
 oG 75 73 false (.bin .eql (.t 74) (.c (.int .i64 0))),
 oG 76 73 false (.move (.t 75)),
 oG 77 76 true (.move (.t 13)),
 oG 78 76 true (.bin .geq (.t 77) (.c (.int .i64 0))),
 oG 79 73 false (.pick (.t 76) (.t 78) (.c (.bool false))),
 oG 80 73 false (.move (.t 79)),
 oG 81 80 true (.move (.t 13)),
 oG 82 80 true (.move (.t 11)),
 oG 83 80 true (.bin .leq (.t 81) (.t 82)),
 oG 84 73 false (.pick (.t 80) (.t 83) (.c (.bool false))),
 oG 85 70 true (.pick (.t 73) (.c (.bool true)) (.t 84)),
 oP 86 (.pick (.t 70) (.t 85) (.c (.bool false))),
 oP 6 (.move (.t 86))])
 (.ret)))))⟩
/-- almadraba/almadrabaref01.IsWord -/
def f14 : AFn := ⟨27, [.tmp 4],
 .seq (.region 0 [oQ 2 (.box (.t 0)),
 oQ 3 (.box (.t 1)),
 oP 4 (.move (.c (.bool false)))])
 (.seq (.region 0 [oQ 5 (.load true 4 (.t 2)),
 oP 6 (.fieldAddr 0 (.t 3)),
 oQ 7 (.load false 1 (.t 6)),
 oQ 8 (.call 1 29 [(.t 5), (.t 7)]),
 oP 9 (.move (.t 8)),
 ⟨(some 10), .load true 4 (.t 2), (some (9, true)), none, []⟩,
 oG 11 9 true (.fieldAddr 1 (.t 3)),
 ⟨(some 12), .load false 1 (.t 11), (some (9, true)), none, []⟩,
 ⟨(some 13), .call 1 30 [(.t 10), (.t 12)], (some (9, true)), none, []⟩,
 oP 14 (.pick (.t 9) (.t 13) (.c (.bool false))),
 oP 15 (.move (.t 14)),
 oG 16 15 true (.fieldAddr 3 (.t 3)),
 ⟨(some 17), .load false 1 (.t 16), (some (15, true)), none, []⟩,
 ⟨(some 18), .call 1 8 [(.t 17), (.c (.int .i64 0)), (.c (.int .i64 40))], (some (15, true)), none, []⟩,
 oP 19 (.pick (.t 15) (.t 18) (.c (.bool false))),
 oP 20 (.move (.t 19)),
 oG 21 20 true (.fieldAddr 2 (.t 3)),
 ⟨(some 22), .load false 1 (.t 21), (some (20, true)), none, []⟩,
 oG 23 20 true (.fieldAddr 3 (.t 3)),
 ⟨(some 24), .load false 1 (.t 23), (some (20, true)), none, []⟩,
 ⟨(some 25), .call 1 8 [(.t 22), (.c (.int .i64 0)), (.t 24)], (some (20, true)), none, []⟩,
 oP 26 (.pick (.t 20) (.t 25) (.c (.bool false))),
 oP 4 (.move (.t 26))])
 (.ret))⟩
/-- almadraba/almadrabaref01.Told -/
def f15 : AFn := ⟨15, [.cell true 4 4],
 .seq (.region 0 [oQ 2 (.box (.t 0)),
 oQ 3 (.box (.t 1)),
 oQ 4 (.alloc [.int .i64 0, .int .i64 0, .nils, .nils])])
 (.seq (.region 0 [oQ 6 (.load true 4 (.t 2)),
 oQ 7 (.call 2 31 [(.t 6)]),
 oQ 5 (.alloc [.int .i64 0, .int .i64 0, .nils, .nils]),
 ⟨none, .store 4 (.t 5) (.t 7), none, none, []⟩])
 (.seq (.region 0 [oP 8 (.fieldAddr 3 (.t 5)),
 oQ 9 (.load false 1 (.t 8)),
 oQ 10 (.load true 4 (.t 3)),
 oQ 11 (.litS 4 1 [.int .i64 0, .int .i64 0, .int .i64 0, .int .i64 0] [(0, (.t 10))]),
 oQ 12 (.append false 4 32 (.t 9) (.t 11)),
 oP 13 (.fieldAddr 3 (.t 5)),
 ⟨none, .store 1 (.t 13) (.t 12), none, none, []⟩])
 (.seq (.region 0 [oQ 14 (.load true 4 (.t 5)),
 ⟨none, .store 4 (.t 4) (.t 14), none, none, []⟩])
 (.ret))))⟩
/-- almadraba/almadrabalaw01.Huge -/
def f16 : AFn := ⟨12, [.tmp 2],
 .seq (.region 0 [oQ 1 (.box (.t 0)),
 oP 2 (.move (.c (.bool false)))])
 (.seq (.region 0 [oP 3 (.fieldAddr 2 (.t 1)),
 oQ 4 (.load false 1 (.t 3)),
 oQ 5 (.call 1 32 [(.t 4)]),
 oP 6 (.move (.t 5)),
 oG 7 6 false (.fieldAddr 3 (.t 1)),
 ⟨(some 8), .load false 1 (.t 7), (some (6, false)), none, []⟩,
 oG 9 6 false (.lenS (.t 8)),
 oG 10 6 false (.bin .gtr (.t 9) (.c (.int .i64 40))),
 oP 11 (.pick (.t 6) (.c (.bool true)) (.t 10)),
 oP 2 (.move (.t 11))])
 (.ret))⟩
/-- almadraba/almadrabaref01.Rising -/
def f17 : AFn := ⟨38, [.tmp 6],
 .seq (.region 0 [oP 6 (.move (.c (.bool false)))])
 (.seq (.seq (.region 0 [oP 7 (.move (.c (.int .i64 0)))])
 (.block 0 (.loop (.seq (.seq (.region 0 [oP 8 (.move (.t 7)),
 oP 9 (.move (.t 0)),
 oP 10 (.lenS (.t 9)),
 oP 11 (.bin .lss (.t 8) (.t 10))])
 (.cond (.t 11) (.skip)
 (.exit 0)))
 (.seq (.block 1 (.seq (.region 0 [oP 14 (.move (.t 0)),
 oP 15 (.move (.t 7)),
 oP 16 (.idxSl 1 (.t 14) (.t 15)),
 oQ 17 (.load false 1 (.t 16)),
 oP 18 (.move (.t 1)),
 oP 19 (.move (.t 2)),
 oQ 20 (.call 1 8 [(.t 17), (.t 18), (.t 19)]),
 oP 21 (.un .not (.t 20)),
 oP 22 (.move (.t 21)),
 oG 23 22 false (.move (.t 7)),
 oG 24 22 false (.bin .gtr (.t 23) (.c (.int .i64 0))),
 oG 25 22 false (.move (.t 24)),
 oG 26 25 true (.move (.t 0)),
 oG 27 25 true (.move (.t 7)),
 oG 28 25 true (.idxSl 1 (.t 26) (.t 27)),
 ⟨(some 29), .load false 1 (.t 28), (some (25, true)), none, []⟩,
 oG 30 25 true (.move (.t 0)),
 oG 31 25 true (.move (.t 7)),
 oG 32 25 true (.bin .sub (.t 31) (.c (.int .i64 1))),
 oG 33 25 true (.idxSl 1 (.t 30) (.t 32)),
 ⟨(some 34), .load false 1 (.t 33), (some (25, true)), none, []⟩,
 oG 35 25 true (.bin .leq (.t 29) (.t 34)),
 oG 36 22 false (.pick (.t 25) (.t 35) (.c (.bool false))),
 oP 37 (.pick (.t 22) (.c (.bool true)) (.t 36))])
 (.cond (.t 37) (.seq (.region 0 [oP 6 (.move (.c (.bool false)))])
 (.ret))
 (.skip))))
 (.region 0 [oP 12 (.move (.t 7)),
 oP 13 (.bin .add (.t 12) (.c (.int .i64 1))),
 oP 7 (.move (.t 13))]))))))
 (.seq (.region 0 [oP 6 (.move (.c (.bool true)))])
 (.ret)))⟩
/-- almadraba/almadrabaref05.isSpan -/
def f18 : AFn := ⟨16, [.tmp 4],
 .seq (.region 0 [oQ 2 (.box (.t 0)),
 oP 4 (.move (.c (.bool false)))])
 (.seq (.region 0 [oP 5 (.fieldAddr 1 (.t 2)),
 oQ 6 (.load false 1 (.t 5)),
 oP 7 (.move (.t 1)),
 oQ 8 (.call 1 19 [(.t 6), (.c (.int .i64 0)), (.t 7)]),
 oP 9 (.move (.t 8)),
 oG 10 9 true (.fieldAddr 0 (.t 2)),
 ⟨(some 11), .load false 1 (.t 10), (some (9, true)), none, []⟩,
 oG 12 9 true (.fieldAddr 1 (.t 2)),
 ⟨(some 13), .load false 1 (.t 12), (some (9, true)), none, []⟩,
 ⟨(some 14), .call 1 19 [(.t 11), (.c (.int .i64 0)), (.t 13)], (some (9, true)), none, []⟩,
 oP 15 (.pick (.t 9) (.t 14) (.c (.bool false))),
 oP 4 (.move (.t 15))])
 (.ret))⟩
/-- almadraba/almadrabaref05.within -/
def f19 : AFn := ⟨11, [.tmp 6],
 .seq (.region 0 [oP 6 (.move (.c (.bool false)))])
 (.seq (.region 0 [oP 7 (.move (.t 0)),
 oP 8 (.move (.t 1)),
 oP 9 (.move (.t 2)),
 oQ 10 (.call 1 8 [(.t 7), (.t 8), (.t 9)]),
 oP 6 (.move (.t 10))])
 (.ret))⟩
/-- almadraba/almadrabaref01.Behind -/
def f20 : AFn := ⟨9, [.tmp 4],
 .seq (.region 0 [oP 4 (.move (.c (.int .i64 0)))])
 (.seq (.region 0 [oP 5 (.move (.t 0)),
 oP 6 (.move (.t 1)),
 oP 7 (.slice 1 (.t 5) (some (.t 6)) none),
 oQ 8 (.call 1 33 [(.t 7)]),
 oP 4 (.move (.t 8))])
 (.ret))⟩
/-- almadraba/almadrabaref01.In -/
def f21 : AFn := ⟨18, [.tmp 4],
 .seq (.region 0 [oP 4 (.move (.c (.bool false)))])
 (.seq (.seq (.region 0 [oP 5 (.move (.c (.int .i64 0)))])
 (.block 0 (.loop (.seq (.seq (.region 0 [oP 6 (.move (.t 5)),
 oP 7 (.move (.t 0)),
 oP 8 (.lenS (.t 7)),
 oP 9 (.bin .lss (.t 6) (.t 8))])
 (.cond (.t 9) (.skip)
 (.exit 0)))
 (.seq (.block 1 (.seq (.region 0 [oP 12 (.move (.t 0)),
 oP 13 (.move (.t 5)),
 oP 14 (.idxSl 1 (.t 12) (.t 13)),
 oQ 15 (.load false 1 (.t 14)),
 oP 16 (.move (.t 1)),
 oP 17 (.bin .eql (.t 15) (.t 16))])
 (.cond (.t 17) (.seq (.region 0 [oP 4 (.move (.c (.bool true)))])
 (.ret))
 (.skip))))
 (.region 0 [oP 10 (.move (.t 5)),
 oP 11 (.bin .add (.t 10) (.c (.int .i64 1))),
 oP 5 (.move (.t 11))]))))))
 (.seq (.region 0 [oP 4 (.move (.c (.bool false)))])
 (.ret)))⟩
/-- almadraba/almadrabalaw01.Example -/
def f22 : AFn := ⟨15, [.cell true 4 0, .cell true 4 1],
 .seq (.region 0 [oQ 0 (.alloc [.int .i64 0, .int .i64 0, .nils, .nils]),
 oQ 1 (.alloc [.int .i64 0, .int .i64 0, .nils, .nils])])
 (.seq (.region 0 [oQ 2 (.litS 1 2 [.int .i64 0] [(0, (.c (.int .i64 0))), (1, (.c (.int .i64 1)))]),
 oQ 3 (.litS 1 1 [.int .i64 0] [(0, (.c (.int .i64 1)))]),
 oQ 4 (.litS 1 2 [.nils] [(0, (.t 2)), (1, (.t 3))]),
 oQ 5 (.call 1 34 [(.c (.int .i64 0)), (.c (.int .i64 0)), (.c (.int .i64 5)), (.c (.int .i64 6))]),
 oQ 6 (.call 1 34 [(.c (.int .i64 0)), (.c (.int .i64 1)), (.c (.int .i64 0)), (.c (.int .i64 0))]),
 oQ 7 (.call 1 34 [(.c (.int .i64 1)), (.c (.int .i64 0)), (.c (.int .i64 3)), (.c (.int .i64 8))]),
 oQ 8 (.call 1 34 [(.c (.int .i64 2)), (.c (.int .i64 1)), (.c (.int .i64 4)), (.c (.int .i64 10))]),
 oQ 9 (.litS 4 4 [.int .i64 0, .int .i64 0, .int .i64 0, .int .i64 0] [(0, (.t 5)), (1, (.t 6)), (2, (.t 7)), (3, (.t 8))]),
 oP 10 (.build [.int .i64 0, .int .i64 0, .nils, .nils] [(0, 1, (.c (.int .i64 2))), (1, 1, (.c (.int .i64 3))), (2, 1, (.t 4)), (3, 1, (.t 9))]),
 ⟨none, .store 4 (.t 0) (.t 10), none, none, []⟩])
 (.seq (.region 0 [oQ 11 (.load true 4 (.t 0)),
 oQ 12 (.load true 4 (.t 0)),
 oQ 13 (.call 1 34 [(.c (.int .i64 1)), (.c (.int .i64 1)), (.c (.int .i64 12)), (.c (.int .i64 20))]),
 oQ 14 (.call 1 15 [(.t 12), (.t 13)]),
 ⟨none, .store 4 (.t 0) (.t 11), none, none, []⟩,
 ⟨none, .store 4 (.t 1) (.t 14), none, none, []⟩])
 (.ret)))⟩
/-- almadraba/almadrabalaw05.Example -/
def f23 : AFn := ⟨27, [.cell true 4 0, .cell true 4 1],
 .seq (.region 0 [oQ 0 (.alloc [.int .i64 0, .int .i64 0, .nils, .nils]),
 oQ 1 (.alloc [.int .i64 0, .int .i64 0, .nils, .nils])])
 (.seq (.region 0 [oP 2 (.build [.int .i64 0, .int .i64 0] [(0, 1, (.c (.int .i64 100))), (1, 1, (.c (.int .i64 120)))]),
 oP 3 (.build [.int .i64 0, .int .i64 0] [(0, 1, (.c (.int .i64 2))), (1, 1, (.c (.int .i64 6)))]),
 oP 4 (.build [.int .i64 0, .int .i64 0] [(0, 1, (.c (.int .i64 3))), (1, 1, (.c (.int .i64 5)))]),
 oP 5 (.build [.int .i64 0, .int .i64 0] [(0, 1, (.c (.int .i64 4))), (1, 1, (.c (.int .i64 6)))]),
 oQ 6 (.litS 2 3 [.int .i64 0, .int .i64 0] [(0, (.t 3)), (1, (.t 4)), (2, (.t 5))]),
 oP 7 (.build [.int .i64 0, .int .i64 0] [(0, 1, (.c (.int .i64 50))), (1, 1, (.c (.int .i64 4)))]),
 oP 8 (.build [.int .i64 0, .int .i64 0] [(0, 1, (.c (.int .i64 60))), (1, 1, (.c (.int .i64 7)))]),
 oP 9 (.build [.int .i64 0, .int .i64 0] [(0, 1, (.c (.int .i64 45))), (1, 1, (.c (.int .i64 2)))]),
 oP 10 (.build [.int .i64 0, .int .i64 0] [(0, 1, (.c (.int .i64 70))), (1, 1, (.c (.int .i64 9)))]),
 oQ 11 (.litS 2 4 [.int .i64 0, .int .i64 0] [(0, (.t 7)), (1, (.t 8)), (2, (.t 9)), (3, (.t 10))]),
 oP 12 (.build [.int .i64 0, .int .i64 0, .nils, .nils] [(0, 2, (.t 2)), (2, 1, (.t 6)), (3, 1, (.t 11))]),
 ⟨none, .store 4 (.t 0) (.t 12), none, none, []⟩])
 (.seq (.region 0 [oQ 13 (.load true 4 (.t 0)),
 oQ 14 (.call 1 26 [(.t 13)]),
 ⟨none, .store 4 (.t 1) (.t 14), none, none, []⟩])
 (.seq (.region 0 [oP 15 (.fieldAddr 3 (.t 0)),
 oQ 16 (.load false 1 (.t 15)),
 oP 17 (.idxSl 2 (.t 16) (.c (.int .i64 0))),
 oQ 18 (.load true 2 (.t 17)),
 oP 19 (.fieldAddr 3 (.t 0)),
 oQ 20 (.load false 1 (.t 19)),
 oP 21 (.idxSl 2 (.t 20) (.c (.int .i64 2))),
 oQ 22 (.load true 2 (.t 21)),
 oQ 23 (.litS 2 2 [.int .i64 0, .int .i64 0] [(0, (.t 18)), (1, (.t 22))]),
 oP 24 (.fieldAddr 3 (.t 1)),
 ⟨none, .store 1 (.t 24) (.t 23), none, none, []⟩])
 (.seq (.region 0 [oQ 25 (.load true 4 (.t 0)),
 oQ 26 (.loadR true 4 (.t 1) 1),
 ⟨none, .storeR 4 (.t 0) (.t 25) [1], none, none, []⟩,
 ⟨none, .store 4 (.t 1) (.t 26), none, none, []⟩])
 (.ret)))))⟩
/-- almadraba/counts.Fish -/
def f24 : AFn := ⟨28, [.cell true 2 6, .tmp 7],
 .seq (.region 0 [oQ 3 (.box (.t 0)),
 oQ 6 (.alloc [.int .i64 0, .int .i64 0]),
 oP 7 (.move (.c (.int .i64 0)))])
 (.seq (.region 0 [oQ 11 (.load true 4 (.t 3)),
 oQ 12 (.load true 4 (.t 3)),
 oP 13 (.move (.t 1)),
 oP 14 (.move (.t 2)),
 oQ 15 (.call 1 36 [(.t 12), (.t 13), (.t 14)]),
 oQ 16 (.call 2 35 [(.t 11), (.t 15)]),
 oP 10 (.move (.t 16)),
 oP 17 (.extract (.t 10) 0),
 oP 18 (.extract (.t 10) 1),
 oP 8 (.move (.t 17)),
 oP 9 (.move (.t 18))])
 (.seq (.seq (.region 0 [oP 19 (.move (.t 9)),
 oP 20 (.bin .neq (.t 19) (.c (.int .i64 0)))])
 (.cond (.t 20) (.seq (.region 0 [oP 21 (.build [.int .i64 0, .int .i64 0] []),
 oP 22 (.move (.t 9)),
 ⟨none, .store 2 (.t 6) (.t 21), none, none, []⟩,
 oP 7 (.move (.t 22))])
 (.ret))
 (.skip)))
 (.seq (.region 0 [oP 23 (.move (.t 8)),
 oP 24 (.move (.t 1)),
 oP 25 (.move (.t 2)),
 oP 26 (.build [.int .i64 0, .int .i64 0] [(0, 1, (.t 24)), (1, 1, (.t 25))]),
 oQ 27 (.call 3 37 [(.t 23), (.t 26)]),
 ⟨none, .store 2 (.t 6) (.t 27), none, none, []⟩,
 oP 7 (.move (.c (.int .i64 0)))])
 (.ret))))⟩
/-- almadraba/lifts.Cheap -/
def f25 : AFn := ⟨15, [.tmp 2, .tmp 3],
 .seq (.region 0 [oQ 1 (.box (.t 0)),
 oP 2 (.move (.c (.int .i64 0))),
 oP 3 (.move (.c (.int .i64 0)))])
 (.seq (.region 0 [oQ 8 (.load true 4 (.t 1)),
 oQ 9 (.call 1 38 [(.t 8)]),
 oP 7 (.move (.t 9)),
 oP 10 (.extract (.t 7) 0),
 oP 11 (.extract (.t 7) 1),
 oP 12 (.extract (.t 7) 2),
 oP 4 (.move (.t 10)),
 oP 5 (.move (.t 11)),
 oP 6 (.move (.t 12))])
 (.seq (.region 0 [oP 13 (.move (.t 5)),
 oP 14 (.move (.t 6)),
 oP 2 (.move (.t 13)),
 oP 3 (.move (.t 14))])
 (.ret)))⟩
/-- almadraba/almadrabaref05.Copy -/
def f26 : AFn := ⟨14, [.cell true 4 2],
 .seq (.region 0 [oQ 1 (.box (.t 0)),
 oQ 2 (.alloc [.int .i64 0, .int .i64 0, .nils, .nils])])
 (.seq (.region 4 [oP 3 (.fieldAddr 0 (.t 1)),
 ⟨(some 4), .load true 2 (.t 3), none, none, [0, 1, 2, 3]⟩,
 ⟨(some 5), .buildSlice 2 0 [.int .i64 0, .int .i64 0] [], none, (some 0), []⟩,
 oP 6 (.fieldAddr 2 (.t 1)),
 ⟨(some 7), .load false 1 (.t 6), none, none, [0, 1, 2, 3]⟩,
 ⟨(some 8), .append true 2 16 (.t 5) (.t 7), none, (some 1), [2, 3]⟩,
 ⟨(some 9), .buildSlice 2 0 [.int .i64 0, .int .i64 0] [], none, (some 2), []⟩,
 oP 10 (.fieldAddr 3 (.t 1)),
 ⟨(some 11), .load false 1 (.t 10), none, none, [0, 1, 2, 3]⟩,
 ⟨(some 12), .append true 2 16 (.t 9) (.t 11), none, (some 3), []⟩,
 oP 13 (.build [.int .i64 0, .int .i64 0, .nils, .nils] [(0, 2, (.t 4)), (2, 1, (.t 8)), (3, 1, (.t 12))]),
 ⟨none, .store 4 (.t 2) (.t 13), none, none, []⟩])
 (.ret))⟩
/-- almadraba/almadrabaref05.IsCrew -/
def f27 : AFn := ⟨37, [.tmp 4],
 .seq (.region 0 [oQ 2 (.box (.t 0)),
 oP 4 (.move (.c (.bool false)))])
 (.seq (.seq (.region 0 [oP 6 (.move (.t 1)),
 oP 7 (.lenS (.t 6)),
 oP 8 (.fieldAddr 2 (.t 2)),
 oQ 9 (.load false 1 (.t 8)),
 oP 10 (.lenS (.t 9)),
 oP 11 (.bin .neq (.t 7) (.t 10))])
 (.cond (.t 11) (.seq (.region 0 [oP 4 (.move (.c (.bool false)))])
 (.ret))
 (.skip)))
 (.seq (.seq (.region 0 [oP 5 (.move (.c (.int .i64 0)))])
 (.block 0 (.loop (.seq (.seq (.region 0 [oP 12 (.move (.t 5)),
 oP 13 (.move (.t 1)),
 oP 14 (.lenS (.t 13)),
 oP 15 (.bin .lss (.t 12) (.t 14))])
 (.cond (.t 15) (.skip)
 (.exit 0)))
 (.seq (.block 1 (.seq (.region 2 [⟨(some 18), .load true 4 (.t 2), none, none, [0, 1]⟩,
 oP 19 (.move (.t 1)),
 oP 20 (.move (.t 5)),
 oP 21 (.idxSl 1 (.t 19) (.t 20)),
 ⟨(some 22), .load false 1 (.t 21), none, none, [0, 1]⟩,
 ⟨(some 23), .call 1 39 [(.t 18), (.t 22)], none, none, [0, 1]⟩,
 oP 24 (.un .not (.t 23)),
 oP 25 (.move (.t 24)),
 ⟨(some 26), .buildSlice 1 0 [.int .i64 0] [], (some (25, false)), (some 0), []⟩,
 oG 27 25 false (.move (.t 1)),
 oG 28 25 false (.move (.t 5)),
 oG 29 25 false (.slice 1 (.t 27) none (some (.t 28))),
 ⟨(some 30), .append true 1 8 (.t 26) (.t 29), (some (25, false)), (some 1), []⟩,
 oG 31 25 false (.move (.t 1)),
 oG 32 25 false (.move (.t 5)),
 oG 33 25 false (.idxSl 1 (.t 31) (.t 32)),
 ⟨(some 34), .load false 1 (.t 33), (some (25, false)), none, [0, 1]⟩,
 ⟨(some 35), .call 1 21 [(.t 30), (.t 34)], (some (25, false)), none, []⟩,
 oP 36 (.pick (.t 25) (.c (.bool true)) (.t 35))])
 (.cond (.t 36) (.seq (.region 0 [oP 4 (.move (.c (.bool false)))])
 (.ret))
 (.skip))))
 (.region 0 [oP 16 (.move (.t 5)),
 oP 17 (.bin .add (.t 16) (.c (.int .i64 1))),
 oP 5 (.move (.t 17))]))))))
 (.seq (.region 0 [oP 4 (.move (.c (.bool true)))])
 (.ret))))⟩
/-- almadraba/lifts.Safe -/
def f28 : AFn := ⟨25, [.tmp 4, .tmp 5],
 .seq (.region 0 [oQ 2 (.box (.t 0)),
 oP 4 (.move (.c (.int .i64 0))),
 oP 5 (.move (.c (.int .i64 0)))])
 (.seq (.seq (.region 0 [oQ 8 (.load true 4 (.t 2)),
 oP 9 (.move (.t 1)),
 oQ 10 (.call 1 40 [(.t 8), (.t 9)]),
 oP 6 (.move (.t 10))])
 (.seq (.region 0 [oP 11 (.move (.t 6)),
 oP 12 (.bin .neq (.t 11) (.c (.int .i64 0)))])
 (.cond (.t 12) (.seq (.region 0 [oP 13 (.move (.t 6)),
 oP 4 (.move (.c (.int .i64 0))),
 oP 5 (.move (.t 13))])
 (.ret))
 (.skip))))
 (.seq (.region 0 [oQ 14 (.load true 4 (.t 2)),
 oP 15 (.build [.int .i64 0, .int .i64 0, .nils, .nils] [(0, 4, (.t 14))]),
 oQ 7 (.alloc [.int .i64 0, .int .i64 0, .nils, .nils]),
 ⟨none, .store 4 (.t 7) (.t 15), none, none, []⟩])
 (.seq (.block 0 (.seq (.region 0 [oQ 17 (.load true 4 (.t 7)),
 oP 18 (.move (.t 1)),
 oQ 19 (.call 1 41 [(.t 17), (.t 18)]),
 oP 16 (.move (.t 19))])
 (.cond (.t 16) (.seq (.region 0 [oP 4 (.move (.c (.int .i64 1))),
 oP 5 (.move (.c (.int .i64 0)))])
 (.ret))
 (.seq (.region 0 [oQ 21 (.load true 4 (.t 7)),
 oP 22 (.move (.t 1)),
 oQ 23 (.call 1 42 [(.t 21), (.t 22)]),
 oP 24 (.un .not (.t 23)),
 oP 20 (.move (.t 24))])
 (.cond (.t 20) (.seq (.region 0 [oP 4 (.move (.c (.int .i64 2))),
 oP 5 (.move (.c (.int .i64 0)))])
 (.ret))
 (.skip))))))
 (.seq (.region 0 [oP 4 (.move (.c (.int .i64 3))),
 oP 5 (.move (.c (.int .i64 0)))])
 (.ret)))))⟩
/-- almadraba/almadrabaref01.IsTime -/
def f29 : AFn := ⟨10, [.tmp 4],
 .seq (.region 0 [oQ 2 (.box (.t 0)),
 oP 4 (.move (.c (.bool false)))])
 (.seq (.region 0 [oP 5 (.move (.t 1)),
 oP 6 (.fieldAddr 1 (.t 2)),
 oQ 7 (.load false 1 (.t 6)),
 oP 8 (.bin .sub (.t 7) (.c (.int .i64 1))),
 oQ 9 (.call 1 8 [(.t 5), (.c (.int .i64 0)), (.t 8)]),
 oP 4 (.move (.t 9))])
 (.ret))⟩
/-- almadraba/almadrabaref01.IsChamber -/
def f30 : AFn := ⟨10, [.tmp 4],
 .seq (.region 0 [oQ 2 (.box (.t 0)),
 oP 4 (.move (.c (.bool false)))])
 (.seq (.region 0 [oP 5 (.move (.t 1)),
 oP 6 (.fieldAddr 0 (.t 2)),
 oQ 7 (.load false 1 (.t 6)),
 oP 8 (.bin .sub (.t 7) (.c (.int .i64 1))),
 oQ 9 (.call 1 8 [(.t 5), (.c (.int .i64 0)), (.t 8)]),
 oP 4 (.move (.t 9))])
 (.ret))⟩
/-- almadraba/almadrabaref01.Copy -/
def f31 : AFn := ⟨34, [.cell true 4 2],
 .seq (.region 0 [oQ 1 (.box (.t 0)),
 oQ 2 (.alloc [.int .i64 0, .int .i64 0, .nils, .nils])])
 (.seq (.region 3 [oP 5 (.fieldAddr 0 (.t 1)),
 ⟨(some 6), .load false 1 (.t 5), none, none, [0, 1, 2]⟩,
 oP 7 (.fieldAddr 1 (.t 1)),
 ⟨(some 8), .load false 1 (.t 7), none, none, [0, 1, 2]⟩,
 ⟨(some 9), .buildSlice 4 0 [.int .i64 0, .int .i64 0, .int .i64 0, .int .i64 0] [], none, (some 0), []⟩,
 oP 10 (.fieldAddr 3 (.t 1)),
 ⟨(some 11), .load false 1 (.t 10), none, none, [0, 1, 2]⟩,
 ⟨(some 12), .append true 4 32 (.t 9) (.t 11), none, (some 1), [2]⟩,
 oP 13 (.build [.int .i64 0, .int .i64 0, .nils, .nils] [(0, 1, (.t 6)), (1, 1, (.t 8)), (3, 1, (.t 12))]),
 ⟨(some 3), .alloc [.int .i64 0, .int .i64 0, .nils, .nils], none, (some 2), []⟩,
 ⟨none, .store 4 (.t 3) (.t 13), none, (some 2), []⟩])
 (.seq (.seq (.region 0 [oP 4 (.move (.c (.int .i64 0)))])
 (.block 0 (.loop (.seq (.seq (.region 0 [oP 14 (.move (.t 4)),
 oP 15 (.fieldAddr 2 (.t 1)),
 oQ 16 (.load false 1 (.t 15)),
 oP 17 (.lenS (.t 16)),
 oP 18 (.bin .lss (.t 14) (.t 17))])
 (.cond (.t 18) (.skip)
 (.exit 0)))
 (.seq (.block 1 (.region 4 [oP 21 (.fieldAddr 2 (.t 3)),
 ⟨(some 22), .load false 1 (.t 21), none, none, [0, 1, 2, 3]⟩,
 ⟨(some 23), .buildSlice 1 0 [.int .i64 0] [], none, (some 0), []⟩,
 oP 24 (.fieldAddr 2 (.t 1)),
 ⟨(some 25), .load false 1 (.t 24), none, none, [0, 1, 2, 3]⟩,
 oP 26 (.move (.t 4)),
 oP 27 (.idxSl 1 (.t 25) (.t 26)),
 ⟨(some 28), .load false 1 (.t 27), none, none, [0, 1, 2, 3]⟩,
 ⟨(some 29), .append true 1 8 (.t 23) (.t 28), none, (some 1), [2, 3]⟩,
 ⟨(some 30), .buildSlice 1 1 [.nils] [(0, (.t 29))], none, (some 2), []⟩,
 ⟨(some 31), .append false 1 24 (.t 22) (.t 30), none, (some 3), []⟩,
 oP 32 (.fieldAddr 2 (.t 3)),
 ⟨none, .store 1 (.t 32) (.t 31), none, none, []⟩]))
 (.region 0 [oP 19 (.move (.t 4)),
 oP 20 (.bin .add (.t 19) (.c (.int .i64 1))),
 oP 4 (.move (.t 20))]))))))
 (.seq (.region 0 [oQ 33 (.load true 4 (.t 3)),
 ⟨none, .store 4 (.t 2) (.t 33), none, none, []⟩])
 (.ret))))⟩
/-- almadraba/almadrabalaw01.huge -/
def f32 : AFn := ⟨19, [.tmp 2],
 .seq (.region 0 [oP 2 (.move (.c (.bool false)))])
 (.seq (.seq (.region 0 [oP 4 (.move (.t 0)),
 oP 5 (.lenS (.t 4)),
 oP 6 (.bin .gtr (.t 5) (.c (.int .i64 40)))])
 (.cond (.t 6) (.seq (.region 0 [oP 2 (.move (.c (.bool true)))])
 (.ret))
 (.skip)))
 (.seq (.seq (.region 0 [oP 3 (.move (.c (.int .i64 0)))])
 (.block 0 (.loop (.seq (.seq (.region 0 [oP 7 (.move (.t 3)),
 oP 8 (.move (.t 0)),
 oP 9 (.lenS (.t 8)),
 oP 10 (.bin .lss (.t 7) (.t 9))])
 (.cond (.t 10) (.skip)
 (.exit 0)))
 (.seq (.block 1 (.seq (.region 0 [oP 13 (.move (.t 0)),
 oP 14 (.move (.t 3)),
 oP 15 (.idxSl 1 (.t 13) (.t 14)),
 oQ 16 (.load false 1 (.t 15)),
 oP 17 (.lenS (.t 16)),
 oP 18 (.bin .gtr (.t 17) (.c (.int .i64 40)))])
 (.cond (.t 18) (.seq (.region 0 [oP 2 (.move (.c (.bool true)))])
 (.ret))
 (.skip))))
 (.region 0 [oP 11 (.move (.t 3)),
 oP 12 (.bin .add (.t 11) (.c (.int .i64 1))),
 oP 3 (.move (.t 12))]))))))
 (.seq (.region 0 [oP 2 (.move (.c (.bool false)))])
 (.ret))))⟩
/-- almadraba/almadrabaref01.Sum -/
def f33 : AFn := ⟨18, [.tmp 2],
 .seq (.region 0 [oP 2 (.move (.c (.int .i64 0)))])
 (.seq (.region 0 [oP 3 (.move (.c (.int .i64 0)))])
 (.seq (.seq (.region 0 [oP 4 (.move (.c (.int .i64 0)))])
 (.block 0 (.loop (.seq (.seq (.region 0 [oP 5 (.move (.t 4)),
 oP 6 (.move (.t 0)),
 oP 7 (.lenS (.t 6)),
 oP 8 (.bin .lss (.t 5) (.t 7))])
 (.cond (.t 8) (.skip)
 (.exit 0)))
 (.seq (.block 1 (.region 0 [oP 11 (.move (.t 3)),
 oP 12 (.move (.t 0)),
 oP 13 (.move (.t 4)),
 oP 14 (.idxSl 1 (.t 12) (.t 13)),
 oQ 15 (.load false 1 (.t 14)),
 oP 16 (.bin .add (.t 11) (.t 15)),
 oP 3 (.move (.t 16))]))
 (.region 0 [oP 9 (.move (.t 4)),
 oP 10 (.bin .add (.t 9) (.c (.int .i64 1))),
 oP 4 (.move (.t 10))]))))))
 (.seq (.region 0 [oP 17 (.move (.t 3)),
 oP 2 (.move (.t 17))])
 (.ret))))⟩
/-- almadraba/almadrabalaw01.word -/
def f34 : AFn := ⟨14, [.cell true 4 8],
 .seq (.region 0 [oQ 8 (.alloc [.int .i64 0, .int .i64 0, .int .i64 0, .int .i64 0])])
 (.seq (.region 0 [oP 9 (.move (.t 0)),
 oP 10 (.move (.t 1)),
 oP 11 (.move (.t 2)),
 oP 12 (.move (.t 3)),
 oP 13 (.build [.int .i64 0, .int .i64 0, .int .i64 0, .int .i64 0] [(0, 1, (.t 9)), (1, 1, (.t 10)), (2, 1, (.t 11)), (3, 1, (.t 12))]),
 ⟨none, .store 4 (.t 8) (.t 13), none, none, []⟩])
 (.ret))⟩
/-- almadraba/counts.start -/
def f35 : AFn := ⟨24, [.tmp 4, .tmp 5],
 .seq (.region 0 [oQ 2 (.box (.t 0)),
 oP 4 (.move (.c (.nilp))),
 oP 5 (.move (.c (.int .i64 0)))])
 (.seq (.seq (.region 0 [oQ 9 (.load true 4 (.t 2)),
 oQ 10 (.call 1 43 [(.t 9)]),
 oP 6 (.move (.t 10))])
 (.seq (.region 0 [oP 11 (.move (.t 6)),
 oP 12 (.bin .neq (.t 11) (.c (.int .i64 0)))])
 (.cond (.t 12) (.seq (.region 0 [oP 13 (.move (.t 6)),
 oP 4 (.move (.c (.nilp))),
 oP 5 (.move (.t 13))])
 (.ret))
 (.skip))))
 (.seq (.seq (.region 0 [oP 14 (.move (.t 1)),
 oP 15 (.un .not (.t 14))])
 (.cond (.t 15) (.seq (.region 0 [oP 4 (.move (.c (.nilp))),
 oP 5 (.move (.c (.int .i64 1)))])
 (.ret))
 (.skip)))
 (.seq (.region 0 [oQ 17 (.load true 4 (.t 2)),
 oQ 18 (.call 2 44 [(.t 17)]),
 oP 16 (.move (.t 18)),
 oP 19 (.extract (.t 16) 0),
 oP 20 (.extract (.t 16) 1),
 oP 7 (.move (.t 19)),
 oP 8 (.move (.t 20))])
 (.seq (.seq (.region 0 [oP 21 (.move (.t 8)),
 oP 22 (.un .not (.t 21))])
 (.cond (.t 22) (.seq (.region 0 [oP 4 (.move (.c (.nilp))),
 oP 5 (.move (.c (.int .i64 3)))])
 (.ret))
 (.skip)))
 (.seq (.region 0 [oP 23 (.move (.t 7)),
 oP 4 (.move (.t 23)),
 oP 5 (.move (.c (.int .i64 0)))])
 (.ret))))))⟩
/-- almadraba/counts.isPlace -/
def f36 : AFn := ⟨20, [.tmp 6],
 .seq (.region 0 [oQ 3 (.box (.t 0)),
 oP 6 (.move (.c (.bool false)))])
 (.seq (.region 0 [oQ 7 (.load true 4 (.t 3)),
 oP 8 (.move (.t 1)),
 oQ 9 (.call 1 45 [(.t 7), (.t 8)]),
 oP 10 (.move (.t 9)),
 oG 11 10 true (.move (.t 2)),
 oG 12 10 true (.bin .leq (.c (.int .i64 0)) (.t 11)),
 oP 13 (.pick (.t 10) (.t 12) (.c (.bool false))),
 oP 14 (.move (.t 13)),
 oG 15 14 true (.move (.t 2)),
 oG 16 14 true (.fieldAddr 0 (.t 3)),
 ⟨(some 17), .load false 1 (.t 16), (some (14, true)), none, []⟩,
 oG 18 14 true (.bin .lss (.t 15) (.t 17)),
 oP 19 (.pick (.t 14) (.t 18) (.c (.bool false))),
 oP 6 (.move (.t 19))])
 (.ret))⟩
/-- (*almadraba/counts.trap).fish -/
def f37 : AFn := ⟨22, [.cell true 2 4],
 .seq (.region 0 [oQ 3 (.box (.t 1)),
 oQ 4 (.alloc [.int .i64 0, .int .i64 0])])
 (.seq (.region 0 [oP 5 (.move (.t 0)),
 oP 6 (.nilCheck (.t 5)),
 oP 7 (.fieldAddr 4 (.t 6)),
 oP 8 (.move (.t 0)),
 oP 9 (.fieldAddr 0 (.t 3)),
 oQ 10 (.load false 1 (.t 9)),
 oP 11 (.fieldAddr 1 (.t 3)),
 oQ 12 (.load false 1 (.t 11)),
 oQ 13 (.call 3 47 [(.t 8), (.t 10), (.t 12)]),
 oP 14 (.move (.t 0)),
 oP 15 (.fieldAddr 0 (.t 3)),
 oQ 16 (.load false 1 (.t 15)),
 oP 17 (.fieldAddr 1 (.t 3)),
 oQ 18 (.load false 1 (.t 17)),
 oP 19 (.bin .add (.t 18) (.c (.int .i64 1))),
 oQ 20 (.call 3 47 [(.t 14), (.t 16), (.t 19)]),
 oQ 21 (.call 3 46 [(.t 7), (.t 13), (.t 20)]),
 ⟨none, .store 2 (.t 4) (.t 21), none, none, []⟩])
 (.ret))⟩
/-- almadraba/lifts.cheapest -/
def f38 : AFn := ⟨23, [.tmp 2, .tmp 3, .tmp 4],
 .seq (.region 0 [oQ 1 (.box (.t 0)),
 oP 2 (.move (.c (.nils))),
 oP 3 (.move (.c (.int .i64 0))),
 oP 4 (.move (.c (.int .i64 0)))])
 (.seq (.seq (.region 0 [oQ 8 (.load true 4 (.t 1)),
 oQ 9 (.call 1 48 [(.t 8)]),
 oP 5 (.move (.t 9))])
 (.seq (.region 0 [oP 10 (.move (.t 5)),
 oP 11 (.bin .neq (.t 10) (.c (.int .i64 0)))])
 (.cond (.t 11) (.seq (.region 0 [oP 12 (.move (.t 5)),
 oP 2 (.move (.c (.nils))),
 oP 3 (.move (.c (.int .i64 0))),
 oP 4 (.move (.t 12))])
 (.ret))
 (.skip))))
 (.seq (.region 0 [oQ 14 (.load true 4 (.t 1)),
 oP 15 (.build [.int .i64 0, .int .i64 0, .nils, .nils] [(0, 4, (.t 14))]),
 oQ 16 (.call 1 49 [(.t 15)]),
 oP 13 (.move (.t 16)),
 oP 17 (.extract (.t 13) 0),
 oP 18 (.extract (.t 13) 1),
 oP 6 (.move (.t 17)),
 oP 7 (.move (.t 18))])
 (.seq (.seq (.region 0 [oP 19 (.move (.t 6)),
 oP 20 (.isNil (.t 19) (.c (.nils)))])
 (.cond (.t 20) (.seq (.region 0 [oP 2 (.move (.c (.nils))),
 oP 3 (.move (.c (.int .i64 0))),
 oP 4 (.move (.c (.int .i64 3)))])
 (.ret))
 (.skip)))
 (.seq (.region 0 [oP 21 (.move (.t 6)),
 oP 22 (.move (.t 7)),
 oP 2 (.move (.t 21)),
 oP 3 (.move (.t 22)),
 oP 4 (.move (.c (.int .i64 0)))])
 (.ret)))))⟩
/-- almadraba/almadrabaref05.IsBoat -/
def f39 : AFn := ⟨11, [.tmp 4],
 .seq (.region 0 [oQ 2 (.box (.t 0)),
 oP 4 (.move (.c (.bool false)))])
 (.seq (.region 0 [oP 5 (.move (.t 1)),
 oP 6 (.fieldAddr 3 (.t 2)),
 oQ 7 (.load false 1 (.t 6)),
 oP 8 (.lenS (.t 7)),
 oP 9 (.bin .sub (.t 8) (.c (.int .i64 1))),
 oQ 10 (.call 1 19 [(.t 5), (.c (.int .i64 0)), (.t 9)]),
 oP 4 (.move (.t 10))])
 (.ret))⟩
/-- almadraba/lifts.fitCrew -/
def f40 : AFn := ⟨17, [.tmp 4],
 .seq (.region 0 [oQ 2 (.box (.t 0)),
 oP 4 (.move (.c (.int .i64 0)))])
 (.seq (.region 0 [oQ 6 (.load true 4 (.t 2)),
 oQ 7 (.call 1 48 [(.t 6)]),
 oP 5 (.move (.t 7))])
 (.seq (.seq (.region 0 [oP 8 (.move (.t 5)),
 oP 9 (.bin .eql (.t 8) (.c (.int .i64 0))),
 oP 10 (.move (.t 9)),
 ⟨(some 11), .load true 4 (.t 2), (some (10, true)), none, []⟩,
 oG 12 10 true (.move (.t 1)),
 ⟨(some 13), .call 1 50 [(.t 11), (.t 12)], (some (10, true)), none, []⟩,
 oG 14 10 true (.un .not (.t 13)),
 oP 15 (.pick (.t 10) (.t 14) (.c (.bool false)))])
 (.cond (.t 15) (.seq (.region 0 [oP 4 (.move (.c (.int .i64 1)))])
 (.ret))
 (.skip)))
 (.seq (.region 0 [oP 16 (.move (.t 5)),
 oP 4 (.move (.t 16))])
 (.ret))))⟩
/-- (almadraba/lifts.sea).holds -/
def f41 : AFn := ⟨13, [.tmp 4],
 .seq (.region 0 [oQ 2 (.box (.t 0)),
 oP 4 (.move (.c (.bool false)))])
 (.seq (.region 0 [oQ 5 (.load true 4 (.t 2)),
 oP 6 (.move (.t 1)),
 oQ 7 (.call 1 51 [(.t 5), (.t 6)]),
 oP 8 (.fieldAddr 0 (.t 2)),
 oP 9 (.fieldAddr 0 (.t 8)),
 oP 10 (.fieldAddr 1 (.t 9)),
 oQ 11 (.load false 1 (.t 10)),
 oP 12 (.bin .geq (.t 7) (.t 11)),
 oP 4 (.move (.t 12))])
 (.ret))⟩
end Go.Proofs.Ytjmelmmhnpgneaa.T
