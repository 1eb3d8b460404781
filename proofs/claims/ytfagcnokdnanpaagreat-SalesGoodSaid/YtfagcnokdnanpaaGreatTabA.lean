/-
The code of functions of the seat, as the abstract machine has it (printed by a tool of ours off the dump).
-/
import Derived.Test.YtfagcnokdnanpaaGreatAmX
namespace Go.Proofs.YtfagcnokdnanpaaGreat.T
open Go Go.Am
abbrev oP (n : Nat) (p : POp) : AOper := ⟨some n, .p p, none, none, []⟩
abbrev oQ (n : Nat) (p : AOp) : AOper := ⟨some n, p, none, none, []⟩
abbrev oG (n m : Nat) (b : Bool) (p : POp) : AOper := ⟨some n, .p p, some (m, b), none, []⟩
/-- almadraba/almadrabalaw09.SalesGood -/
def f9 : AFn := ⟨86, [.tmp 4],
 .seq (.region 0 [oQ 2 (.box (.t 0)),
 oP 4 (.move (.c (.bool false)))])
 (.seq (.seq (.region 0 [oQ 15 (.load true 8 (.t 2)),
 oQ 16 (.call 1 37 [(.t 15)]),
 oP 17 (.move (.t 16)),
 oG 18 17 false (.move (.t 1)),
 oG 19 17 false (.lenS (.t 18)),
 oG 20 17 false (.bin .gtr (.t 19) (.c (.int .i64 40))),
 oP 21 (.pick (.t 17) (.c (.bool true)) (.t 20))])
 (.cond (.t 21) (.seq (.region 0 [oQ 22 (.call 1 15 []),
 oP 4 (.move (.t 22))])
 (.ret))
 (.skip)))
 (.seq (.region 0 [oQ 23 (.load true 8 (.t 2)),
 oQ 24 (.call 1 33 [(.t 23)]),
 oQ 25 (.buildSlice 1 0 [.int .i64 0] []),
 oP 26 (.move (.t 1)),
 oQ 27 (.append false 1 8 (.t 25) (.t 26)),
 oQ 5 (.alloc [.nils, .int .i64 0, .nils, .nils, .nils, .int .i64 0, .int .i64 0, .nils]),
 ⟨none, .store 8 (.t 5) (.t 24), none, none, []⟩,
 oP 6 (.move (.t 27))])
 (.seq (.seq (.region 0 [oQ 28 (.load true 8 (.t 5)),
 oQ 29 (.call 1 38 [(.t 28)]),
 oQ 30 (.load true 8 (.t 2)),
 oQ 31 (.call 1 39 [(.t 30)]),
 oP 32 (.bin .neq (.t 29) (.t 31))])
 (.cond (.t 32) (.seq (.region 0 [oP 4 (.move (.c (.bool false)))])
 (.ret))
 (.skip)))
 (.seq (.region 0 [oQ 34 (.load true 8 (.t 5)),
 oQ 35 (.call 1 40 [(.t 34)]),
 oP 33 (.move (.t 35)),
 oP 36 (.extract (.t 33) 0),
 oP 37 (.extract (.t 33) 1),
 oP 7 (.move (.t 36)),
 oP 8 (.move (.t 37))])
 (.seq (.region 0 [oQ 39 (.load true 8 (.t 2)),
 oQ 40 (.call 1 41 [(.t 39)]),
 oP 38 (.move (.t 40)),
 oP 41 (.extract (.t 38) 0),
 oP 42 (.extract (.t 38) 1),
 oP 9 (.move (.t 41)),
 oP 10 (.move (.t 42))])
 (.seq (.region 0 [oQ 44 (.load true 8 (.t 5)),
 oP 45 (.move (.t 6)),
 oQ 46 (.call 1 18 [(.t 44), (.t 45)]),
 oP 43 (.move (.t 46)),
 oP 47 (.extract (.t 43) 0),
 oP 48 (.extract (.t 43) 1),
 oP 11 (.move (.t 47)),
 oP 12 (.move (.t 48))])
 (.seq (.region 0 [oQ 50 (.load true 8 (.t 2)),
 oP 51 (.move (.t 1)),
 oQ 52 (.call 1 42 [(.t 50), (.t 51)]),
 oP 49 (.move (.t 52)),
 oP 53 (.extract (.t 49) 0),
 oP 54 (.extract (.t 49) 1),
 oP 13 (.move (.t 53)),
 oP 14 (.move (.t 54))])
 (.seq (.region 0 [oP 55 (.move (.t 7)),
 oP 56 (.move (.t 9)),
 oQ 57 (.call 1 35 [(.t 55), (.t 56)]),
 oP 58 (.move (.t 57)),
 oG 59 58 true (.move (.t 8)),
 oG 60 58 true (.move (.t 10)),
 oG 61 58 true (.bin .eql (.t 59) (.t 60)),
 oP 62 (.pick (.t 58) (.t 61) (.c (.bool false))),
 oP 63 (.move (.t 62)),
 oG 64 63 true (.move (.t 11)),
 oG 65 63 true (.move (.t 13)),
 oG 66 63 true (.eqB false (.t 64) (.t 65)),
 oP 67 (.pick (.t 63) (.t 66) (.c (.bool false))),
 oP 68 (.move (.t 67)),
 oG 69 68 true (.move (.t 12)),
 oG 70 68 true (.move (.t 14)),
 oG 71 68 true (.bin .eql (.t 69) (.t 70)),
 oP 72 (.pick (.t 68) (.t 71) (.c (.bool false))),
 oP 73 (.move (.t 72)),
 ⟨(some 74), .load true 8 (.t 5), (some (73, true)), none, []⟩,
 ⟨(some 75), .load true 8 (.t 2), (some (73, true)), none, []⟩,
 ⟨(some 76), .call 1 43 [(.t 74), (.t 75)], (some (73, true)), none, []⟩,
 oP 77 (.pick (.t 73) (.t 76) (.c (.bool false))),
 oP 78 (.move (.t 77)),
 oG 79 78 true (.move (.t 6)),
 oG 80 78 true (.move (.t 1)),
 ⟨(some 81), .call 1 35 [(.t 79), (.t 80)], (some (78, true)), none, []⟩,
 oP 82 (.pick (.t 78) (.t 81) (.c (.bool false))),
 oP 83 (.move (.t 82)),
 ⟨(some 84), .call 1 15 [], (some (83, true)), none, []⟩,
 oP 85 (.pick (.t 83) (.t 84) (.c (.bool false))),
 oP 4 (.move (.t 85))])
 (.ret)))))))))⟩
/-- almadraba/almadrabaref09.IsSale -/
def f14 : AFn := ⟨10, [.tmp 4],
 .seq (.region 0 [oQ 2 (.box (.t 0)),
 oP 4 (.move (.c (.bool false)))])
 (.seq (.region 0 [oQ 5 (.load true 8 (.t 2)),
 oP 6 (.move (.t 1)),
 oQ 7 (.load true 8 (.t 2)),
 oQ 8 (.call 1 59 [(.t 7)]),
 oQ 9 (.call 1 58 [(.t 5), (.t 6), (.t 8)]),
 oP 4 (.move (.t 9))])
 (.ret))⟩
/-- almadraba/almadrabalaw09.works -/
def f15 : AFn := ⟨97, [.tmp 0],
 .seq (.region 0 [oP 0 (.move (.c (.bool false)))])
 (.seq (.region 0 [oQ 16 (.call 1 60 []),
 oP 15 (.move (.t 16)),
 oP 17 (.extract (.t 15) 0),
 oP 18 (.extract (.t 15) 1),
 oQ 1 (.alloc [.nils, .int .i64 0, .nils, .nils, .nils, .int .i64 0, .int .i64 0, .nils]),
 oQ 2 (.alloc [.nils, .int .i64 0, .nils, .nils, .nils, .int .i64 0, .int .i64 0, .nils]),
 ⟨none, .store 8 (.t 1) (.t 17), none, none, []⟩,
 ⟨none, .store 8 (.t 2) (.t 18), none, none, []⟩])
 (.seq (.region 0 [oQ 20 (.load true 8 (.t 2)),
 oQ 21 (.call 1 40 [(.t 20)]),
 oP 19 (.move (.t 21)),
 oP 22 (.extract (.t 19) 0),
 oP 23 (.extract (.t 19) 1),
 oP 3 (.move (.t 22)),
 oP 4 (.move (.t 23))])
 (.seq (.region 0 [oQ 25 (.load true 8 (.t 1)),
 oQ 26 (.call 1 44 [(.t 25)]),
 oP 24 (.move (.t 26)),
 oP 27 (.extract (.t 24) 0),
 oP 28 (.extract (.t 24) 1),
 oP 5 (.move (.t 27)),
 oP 6 (.move (.t 28))])
 (.seq (.region 0 [oQ 30 (.load true 8 (.t 1)),
 oQ 31 (.call 1 46 [(.t 30)]),
 oP 29 (.move (.t 31)),
 oP 32 (.extract (.t 29) 0),
 oP 33 (.extract (.t 29) 1),
 oP 7 (.move (.t 32)),
 oP 8 (.move (.t 33))])
 (.seq (.region 0 [oQ 35 (.load true 8 (.t 1)),
 oQ 36 (.call 1 25 [(.t 35), (.c (.int .i64 1))]),
 oP 34 (.move (.t 36)),
 oP 37 (.extract (.t 34) 0),
 oP 38 (.extract (.t 34) 1),
 oP 9 (.move (.t 37)),
 oP 10 (.move (.t 38))])
 (.seq (.region 0 [oQ 40 (.load true 8 (.t 1)),
 oQ 41 (.call 1 49 [(.t 40), (.c (.int .i64 0))]),
 oP 39 (.move (.t 41)),
 oP 42 (.extract (.t 39) 0),
 oP 43 (.extract (.t 39) 1),
 oP 11 (.move (.t 42)),
 oP 12 (.move (.t 43))])
 (.seq (.region 0 [oQ 45 (.load true 8 (.t 1)),
 oQ 46 (.call 1 55 [(.t 45)]),
 oP 44 (.move (.t 46)),
 oP 47 (.extract (.t 44) 0),
 oP 48 (.extract (.t 44) 1),
 oP 13 (.move (.t 47)),
 oP 14 (.move (.t 48))])
 (.seq (.region 0 [oP 49 (.move (.t 4)),
 oP 50 (.bin .eql (.t 49) (.c (.int .i64 0))),
 oP 51 (.move (.t 50)),
 oG 52 51 true (.move (.t 6)),
 oG 53 51 true (.bin .eql (.t 52) (.c (.int .i64 0))),
 oP 54 (.pick (.t 51) (.t 53) (.c (.bool false))),
 oP 55 (.move (.t 54)),
 oG 56 55 true (.move (.t 8)),
 oG 57 55 true (.bin .eql (.t 56) (.c (.int .i64 0))),
 oP 58 (.pick (.t 55) (.t 57) (.c (.bool false))),
 oP 59 (.move (.t 58)),
 oG 60 59 true (.move (.t 10)),
 oG 61 59 true (.bin .eql (.t 60) (.c (.int .i64 0))),
 oP 62 (.pick (.t 59) (.t 61) (.c (.bool false))),
 oP 63 (.move (.t 62)),
 oG 64 63 true (.move (.t 12)),
 oG 65 63 true (.bin .eql (.t 64) (.c (.int .i64 0))),
 oP 66 (.pick (.t 63) (.t 65) (.c (.bool false))),
 oP 67 (.move (.t 66)),
 oG 68 67 true (.move (.t 14)),
 oG 69 67 true (.bin .eql (.t 68) (.c (.int .i64 0))),
 oP 70 (.pick (.t 67) (.t 69) (.c (.bool false))),
 oP 71 (.move (.t 70)),
 oG 72 71 true (.move (.t 3)),
 ⟨(some 73), .litS 1 1 [.int .i64 0] [(0, (.c (.int .i64 1)))], (some (71, true)), none, []⟩,
 ⟨(some 74), .call 1 35 [(.t 72), (.t 73)], (some (71, true)), none, []⟩,
 oP 75 (.pick (.t 71) (.t 74) (.c (.bool false))),
 oP 76 (.move (.t 75)),
 oG 77 76 true (.move (.t 5)),
 oG 78 76 true (.bin .eql (.t 77) (.c (.int .i64 45))),
 oP 79 (.pick (.t 76) (.t 78) (.c (.bool false))),
 oP 80 (.move (.t 79)),
 oG 81 80 true (.move (.t 7)),
 ⟨(some 82), .litS 1 1 [.int .i64 0] [(0, (.c (.int .i64 1)))], (some (80, true)), none, []⟩,
 ⟨(some 83), .call 1 35 [(.t 81), (.t 82)], (some (80, true)), none, []⟩,
 oP 84 (.pick (.t 80) (.t 83) (.c (.bool false))),
 oP 85 (.move (.t 84)),
 oG 86 85 true (.move (.t 9)),
 oG 87 85 true (.bin .eql (.t 86) (.c (.int .i64 42))),
 oP 88 (.pick (.t 85) (.t 87) (.c (.bool false))),
 oP 89 (.move (.t 88)),
 oG 90 89 true (.move (.t 11)),
 oG 91 89 true (.bin .eql (.t 90) (.c (.int .i64 33))),
 oP 92 (.pick (.t 89) (.t 91) (.c (.bool false))),
 oP 93 (.move (.t 92)),
 oG 94 93 true (.move (.t 13)),
 oG 95 93 true (.bin .eql (.t 94) (.c (.int .i64 10))),
 oP 96 (.pick (.t 93) (.t 95) (.c (.bool false))),
 oP 0 (.move (.t 96))])
 (.ret)))))))))⟩
/-- almadraba/sales.Good -/
def f18 : AFn := ⟨16, [.tmp 4, .tmp 5],
 .seq (.region 0 [oQ 2 (.box (.t 0)),
 oP 4 (.move (.c (.bool false))),
 oP 5 (.move (.c (.int .i64 0)))])
 (.seq (.seq (.region 0 [oQ 7 (.load true 8 (.t 2)),
 oQ 8 (.call 1 38 [(.t 7)]),
 oP 6 (.move (.t 8))])
 (.seq (.region 0 [oP 9 (.move (.t 6)),
 oP 10 (.bin .neq (.t 9) (.c (.int .i64 0)))])
 (.cond (.t 10) (.seq (.region 0 [oP 11 (.move (.t 6)),
 oP 4 (.move (.c (.bool false))),
 oP 5 (.move (.t 11))])
 (.ret))
 (.skip))))
 (.seq (.region 0 [oQ 12 (.load true 8 (.t 2)),
 oQ 13 (.call 2 61 [(.t 12)]),
 oP 14 (.move (.t 1)),
 oQ 15 (.call 3 62 [(.t 13), (.t 14)]),
 oP 4 (.move (.t 15)),
 oP 5 (.move (.c (.int .i64 0)))])
 (.ret)))⟩
/-- almadraba/almadrabaref01.In -/
def f22 : AFn := ⟨18, [.tmp 4],
 .seq (.region 0 [oP 4 (.move (.c (.bool false)))])
 (.seq (.seq (.region 0 [oP 5 (.move (.c (.int .i64 0)))])
 (.block 0 (.loop (.seq (.seq (.region 0 [oP 6 (.move (.t 5)),
 oP 7 (.move (.t 0)),
 oP 8 (.lenS (.t 7)),
 oP 9 (.bin .lss (.t 6) (.t 8))])
 (.cond (.t 9) (.skip)
 (.exit 0)))
 (.seq (.block 1 (.seq (.region 0 [oP 12 (.move (.t 0)),
 oP 13 (.move (.t 5)),
 oP 14 (.idxSl 1 (.t 12) (.t 13)),
 oQ 15 (.load false 1 (.t 14)),
 oP 16 (.move (.t 1)),
 oP 17 (.bin .eql (.t 15) (.t 16))])
 (.cond (.t 17) (.seq (.region 0 [oP 4 (.move (.c (.bool true)))])
 (.ret))
 (.skip))))
 (.region 0 [oP 10 (.move (.t 5)),
 oP 11 (.bin .add (.t 10) (.c (.int .i64 1))),
 oP 5 (.move (.t 11))]))))))
 (.seq (.region 0 [oP 4 (.move (.c (.bool false)))])
 (.ret)))⟩
/-- almadraba/almadrabaref01.Within -/
def f23 : AFn := ⟨15, [.tmp 6],
 .seq (.region 0 [oP 6 (.move (.c (.bool false)))])
 (.seq (.region 0 [oP 7 (.move (.t 1)),
 oP 8 (.move (.t 0)),
 oP 9 (.bin .leq (.t 7) (.t 8)),
 oP 10 (.move (.t 9)),
 oG 11 10 true (.move (.t 0)),
 oG 12 10 true (.move (.t 2)),
 oG 13 10 true (.bin .leq (.t 11) (.t 12)),
 oP 14 (.pick (.t 10) (.t 13) (.c (.bool false))),
 oP 6 (.move (.t 14))])
 (.ret))⟩
/-- almadraba/sales.Pays -/
def f25 : AFn := ⟨20, [.tmp 4, .tmp 5],
 .seq (.region 0 [oQ 2 (.box (.t 0)),
 oP 4 (.move (.c (.int .i64 0))),
 oP 5 (.move (.c (.int .i64 0)))])
 (.seq (.seq (.region 0 [oQ 7 (.load true 8 (.t 2)),
 oQ 8 (.call 1 38 [(.t 7)]),
 oP 6 (.move (.t 8))])
 (.seq (.region 0 [oP 9 (.move (.t 6)),
 oP 10 (.bin .neq (.t 9) (.c (.int .i64 0)))])
 (.cond (.t 10) (.seq (.region 0 [oP 11 (.move (.t 6)),
 oP 4 (.move (.c (.int .i64 0))),
 oP 5 (.move (.t 11))])
 (.ret))
 (.skip))))
 (.seq (.seq (.region 0 [oQ 12 (.load true 8 (.t 2)),
 oP 13 (.move (.t 1)),
 oQ 14 (.call 1 67 [(.t 12), (.t 13)]),
 oP 15 (.un .not (.t 14))])
 (.cond (.t 15) (.seq (.region 0 [oP 4 (.move (.c (.int .i64 0))),
 oP 5 (.move (.c (.int .i64 1)))])
 (.ret))
 (.skip)))
 (.seq (.region 0 [oQ 16 (.load true 8 (.t 2)),
 oQ 17 (.call 2 61 [(.t 16)]),
 oP 18 (.move (.t 1)),
 oQ 19 (.call 3 66 [(.t 17), (.t 18)]),
 oP 4 (.move (.t 19)),
 oP 5 (.move (.c (.int .i64 0)))])
 (.ret))))⟩
/-- almadraba/almadrabaref09.IsBuyer -/
def f27 : AFn := ⟨10, [.tmp 4],
 .seq (.region 0 [oQ 2 (.box (.t 0)),
 oP 4 (.move (.c (.bool false)))])
 (.seq (.region 0 [oP 5 (.move (.t 1)),
 oP 6 (.fieldAddr 6 (.t 2)),
 oQ 7 (.load false 1 (.t 6)),
 oP 8 (.bin .sub (.t 7) (.c (.int .i64 1))),
 oQ 9 (.call 1 68 [(.t 5), (.c (.int .i64 0)), (.t 8)]),
 oP 4 (.move (.t 9))])
 (.ret))⟩
/-- almadraba/almadrabaref09.Copy -/
def f33 : AFn := ⟨36, [.cell true 8 2],
 .seq (.region 0 [oQ 1 (.box (.t 0)),
 oQ 2 (.alloc [.nils, .int .i64 0, .nils, .nils, .nils, .int .i64 0, .int .i64 0, .nils])])
 (.seq (.region 3 [oP 5 (.fieldAddr 0 (.t 1)),
 ⟨(some 6), .load true 4 (.t 5), none, none, [0, 1, 2]⟩,
 ⟨(some 7), .call 1 72 [(.t 6)], none, none, [0, 1, 2]⟩,
 ⟨(some 8), .buildSlice 1 0 [.int .i64 0] [], none, (some 0), []⟩,
 oP 9 (.fieldAddr 4 (.t 1)),
 ⟨(some 10), .load false 1 (.t 9), none, none, [0, 1, 2]⟩,
 ⟨(some 11), .append true 1 8 (.t 8) (.t 10), none, (some 1), [2]⟩,
 oP 12 (.fieldAddr 5 (.t 1)),
 ⟨(some 13), .load false 1 (.t 12), none, none, [0, 1, 2]⟩,
 oP 14 (.fieldAddr 6 (.t 1)),
 ⟨(some 15), .load false 1 (.t 14), none, none, [0, 1, 2]⟩,
 oP 16 (.build [.nils, .int .i64 0, .nils, .nils, .nils, .int .i64 0, .int .i64 0, .nils] [(0, 4, (.t 7)), (4, 1, (.t 11)), (5, 1, (.t 13)), (6, 1, (.t 15))]),
 ⟨(some 3), .alloc [.nils, .int .i64 0, .nils, .nils, .nils, .int .i64 0, .int .i64 0, .nils], none, (some 2), []⟩,
 ⟨none, .store 8 (.t 3) (.t 16), none, (some 2), []⟩])
 (.seq (.seq (.region 0 [oP 4 (.move (.c (.int .i64 0)))])
 (.block 0 (.loop (.seq (.seq (.region 0 [oP 17 (.move (.t 4)),
 oP 18 (.fieldAddr 7 (.t 1)),
 oQ 19 (.load false 1 (.t 18)),
 oP 20 (.lenS (.t 19)),
 oP 21 (.bin .lss (.t 17) (.t 20))])
 (.cond (.t 21) (.skip)
 (.exit 0)))
 (.seq (.block 1 (.region 1 [oP 24 (.fieldAddr 7 (.t 3)),
 ⟨(some 25), .load false 1 (.t 24), none, none, [0]⟩,
 oP 26 (.fieldAddr 7 (.t 1)),
 ⟨(some 27), .load false 1 (.t 26), none, none, [0]⟩,
 oP 28 (.move (.t 4)),
 oP 29 (.idxSl 3 (.t 27) (.t 28)),
 ⟨(some 30), .load true 3 (.t 29), none, none, [0]⟩,
 ⟨(some 31), .call 1 34 [(.t 30)], none, none, [0]⟩,
 oQ 32 (.litS 3 1 [.int .i64 0, .nils, .int .i64 0] [(0, (.t 31))]),
 ⟨(some 33), .append false 3 40 (.t 25) (.t 32), none, (some 0), []⟩,
 oP 34 (.fieldAddr 7 (.t 3)),
 ⟨none, .store 1 (.t 34) (.t 33), none, none, []⟩]))
 (.region 0 [oP 22 (.move (.t 4)),
 oP 23 (.bin .add (.t 22) (.c (.int .i64 1))),
 oP 4 (.move (.t 23))]))))))
 (.seq (.region 0 [oQ 35 (.load true 8 (.t 3)),
 ⟨none, .store 8 (.t 2) (.t 35), none, none, []⟩])
 (.ret))))⟩
/-- almadraba/almadrabaref09.CopyBid -/
def f34 : AFn := ⟨12, [.cell true 3 2],
 .seq (.region 0 [oQ 1 (.box (.t 0)),
 oQ 2 (.alloc [.int .i64 0, .nils, .int .i64 0])])
 (.seq (.region 2 [oP 3 (.fieldAddr 0 (.t 1)),
 ⟨(some 4), .load false 1 (.t 3), none, none, [0, 1]⟩,
 ⟨(some 5), .buildSlice 1 0 [.int .i64 0] [], none, (some 0), []⟩,
 oP 6 (.fieldAddr 1 (.t 1)),
 ⟨(some 7), .load false 1 (.t 6), none, none, [0, 1]⟩,
 ⟨(some 8), .append true 1 8 (.t 5) (.t 7), none, (some 1), []⟩,
 oP 9 (.fieldAddr 2 (.t 1)),
 ⟨(some 10), .load false 1 (.t 9), none, none, [0, 1]⟩,
 oP 11 (.build [.int .i64 0, .nils, .int .i64 0] [(0, 1, (.t 4)), (1, 1, (.t 8)), (2, 1, (.t 10))]),
 ⟨none, .store 3 (.t 2) (.t 11), none, none, []⟩])
 (.ret))⟩
/-- almadraba/almadrabaref01.SameInts -/
def f35 : AFn := ⟨26, [.tmp 4],
 .seq (.region 0 [oP 4 (.move (.c (.bool false)))])
 (.seq (.seq (.region 0 [oP 6 (.move (.t 0)),
 oP 7 (.lenS (.t 6)),
 oP 8 (.move (.t 1)),
 oP 9 (.lenS (.t 8)),
 oP 10 (.bin .neq (.t 7) (.t 9))])
 (.cond (.t 10) (.seq (.region 0 [oP 4 (.move (.c (.bool false)))])
 (.ret))
 (.skip)))
 (.seq (.seq (.region 0 [oP 5 (.move (.c (.int .i64 0)))])
 (.block 0 (.loop (.seq (.seq (.region 0 [oP 11 (.move (.t 5)),
 oP 12 (.move (.t 0)),
 oP 13 (.lenS (.t 12)),
 oP 14 (.bin .lss (.t 11) (.t 13))])
 (.cond (.t 14) (.skip)
 (.exit 0)))
 (.seq (.block 1 (.seq (.region 0 [oP 17 (.move (.t 0)),
 oP 18 (.move (.t 5)),
 oP 19 (.idxSl 1 (.t 17) (.t 18)),
 oQ 20 (.load false 1 (.t 19)),
 oP 21 (.move (.t 1)),
 oP 22 (.move (.t 5)),
 oP 23 (.idxSl 1 (.t 21) (.t 22)),
 oQ 24 (.load false 1 (.t 23)),
 oP 25 (.bin .neq (.t 20) (.t 24))])
 (.cond (.t 25) (.seq (.region 0 [oP 4 (.move (.c (.bool false)))])
 (.ret))
 (.skip))))
 (.region 0 [oP 15 (.move (.t 5)),
 oP 16 (.bin .add (.t 15) (.c (.int .i64 1))),
 oP 5 (.move (.t 16))]))))))
 (.seq (.region 0 [oP 4 (.move (.c (.bool true)))])
 (.ret))))⟩
/-- almadraba/almadrabalaw09.Huge -/
def f37 : AFn := ⟨34, [.tmp 2],
 .seq (.region 0 [oQ 1 (.box (.t 0)),
 oP 2 (.move (.c (.bool false)))])
 (.seq (.seq (.region 0 [oP 4 (.fieldAddr 0 (.t 1)),
 oQ 5 (.load true 4 (.t 4)),
 oQ 6 (.call 1 73 [(.t 5)]),
 oP 7 (.move (.t 6)),
 oG 8 7 false (.fieldAddr 4 (.t 1)),
 ⟨(some 9), .load false 1 (.t 8), (some (7, false)), none, []⟩,
 oG 10 7 false (.lenS (.t 9)),
 oG 11 7 false (.bin .gtr (.t 10) (.c (.int .i64 40))),
 oP 12 (.pick (.t 7) (.c (.bool true)) (.t 11)),
 oP 13 (.move (.t 12)),
 oG 14 13 false (.fieldAddr 7 (.t 1)),
 ⟨(some 15), .load false 1 (.t 14), (some (13, false)), none, []⟩,
 oG 16 13 false (.lenS (.t 15)),
 oG 17 13 false (.bin .gtr (.t 16) (.c (.int .i64 40))),
 oP 18 (.pick (.t 13) (.c (.bool true)) (.t 17))])
 (.cond (.t 18) (.seq (.region 0 [oP 2 (.move (.c (.bool true)))])
 (.ret))
 (.skip)))
 (.seq (.seq (.region 0 [oP 3 (.move (.c (.int .i64 0)))])
 (.block 0 (.loop (.seq (.seq (.region 0 [oP 19 (.move (.t 3)),
 oP 20 (.fieldAddr 7 (.t 1)),
 oQ 21 (.load false 1 (.t 20)),
 oP 22 (.lenS (.t 21)),
 oP 23 (.bin .lss (.t 19) (.t 22))])
 (.cond (.t 23) (.skip)
 (.exit 0)))
 (.seq (.block 1 (.seq (.region 0 [oP 26 (.fieldAddr 7 (.t 1)),
 oQ 27 (.load false 1 (.t 26)),
 oP 28 (.move (.t 3)),
 oP 29 (.idxSl 3 (.t 27) (.t 28)),
 oP 30 (.fieldAddr 1 (.t 29)),
 oQ 31 (.load false 1 (.t 30)),
 oP 32 (.lenS (.t 31)),
 oP 33 (.bin .gtr (.t 32) (.c (.int .i64 40)))])
 (.cond (.t 33) (.seq (.region 0 [oP 2 (.move (.c (.bool true)))])
 (.ret))
 (.skip))))
 (.region 0 [oP 24 (.move (.t 3)),
 oP 25 (.bin .add (.t 24) (.c (.int .i64 1))),
 oP 3 (.move (.t 25))]))))))
 (.seq (.region 0 [oP 2 (.move (.c (.bool false)))])
 (.ret))))⟩
/-- almadraba/sales.Check -/
def f38 : AFn := ⟨6, [.tmp 2],
 .seq (.region 0 [oQ 1 (.box (.t 0)),
 oP 2 (.move (.c (.int .i64 0)))])
 (.seq (.seq (.region 0 [oQ 3 (.load true 8 (.t 1)),
 oQ 4 (.call 1 74 [(.t 3)]),
 oP 5 (.un .not (.t 4))])
 (.cond (.t 5) (.seq (.region 0 [oP 2 (.move (.c (.int .i64 90)))])
 (.ret))
 (.skip)))
 (.seq (.region 0 [oP 2 (.move (.c (.int .i64 0)))])
 (.ret)))⟩
/-- almadraba/almadrabaref09.Check -/
def f39 : AFn := ⟨73, [.tmp 2],
 .seq (.region 0 [oQ 1 (.box (.t 0)),
 oP 2 (.move (.c (.int .i64 0)))])
 (.seq (.seq (.region 0 [oP 5 (.fieldAddr 0 (.t 1)),
 oQ 6 (.load true 4 (.t 5)),
 oQ 7 (.call 1 75 [(.t 6)]),
 oP 8 (.bin .neq (.t 7) (.c (.int .i64 0))),
 oP 9 (.move (.t 8)),
 oG 10 9 false (.fieldAddr 0 (.t 1)),
 ⟨(some 11), .load true 4 (.t 10), (some (9, false)), none, []⟩,
 oG 12 9 false (.fieldAddr 4 (.t 1)),
 ⟨(some 13), .load false 1 (.t 12), (some (9, false)), none, []⟩,
 ⟨(some 14), .call 1 70 [(.t 11), (.t 13)], (some (9, false)), none, []⟩,
 oG 15 9 false (.un .not (.t 14)),
 oP 16 (.pick (.t 9) (.c (.bool true)) (.t 15))])
 (.cond (.t 16) (.seq (.region 0 [oP 2 (.move (.c (.int .i64 90)))])
 (.ret))
 (.skip)))
 (.seq (.seq (.region 0 [oP 17 (.fieldAddr 5 (.t 1)),
 oQ 18 (.load false 1 (.t 17)),
 oQ 19 (.call 1 68 [(.t 18), (.c (.int .i64 0)), (.c (.int .i64 20))]),
 oP 20 (.un .not (.t 19)),
 oP 21 (.move (.t 20)),
 oG 22 21 false (.fieldAddr 6 (.t 1)),
 ⟨(some 23), .load false 1 (.t 22), (some (21, false)), none, []⟩,
 ⟨(some 24), .call 1 68 [(.t 23), (.c (.int .i64 0)), (.c (.int .i64 4))], (some (21, false)), none, []⟩,
 oG 25 21 false (.un .not (.t 24)),
 oP 26 (.pick (.t 21) (.c (.bool true)) (.t 25)),
 oP 27 (.move (.t 26)),
 oG 28 27 false (.fieldAddr 7 (.t 1)),
 ⟨(some 29), .load false 1 (.t 28), (some (27, false)), none, []⟩,
 oG 30 27 false (.lenS (.t 29)),
 oG 31 27 false (.bin .gtr (.t 30) (.c (.int .i64 8))),
 oP 32 (.pick (.t 27) (.c (.bool true)) (.t 31))])
 (.cond (.t 32) (.seq (.region 0 [oP 2 (.move (.c (.int .i64 90)))])
 (.ret))
 (.skip)))
 (.seq (.seq (.region 0 [oP 3 (.move (.c (.int .i64 0)))])
 (.block 0 (.loop (.seq (.seq (.region 0 [oP 33 (.move (.t 3)),
 oP 34 (.fieldAddr 7 (.t 1)),
 oQ 35 (.load false 1 (.t 34)),
 oP 36 (.lenS (.t 35)),
 oP 37 (.bin .lss (.t 33) (.t 36))])
 (.cond (.t 37) (.skip)
 (.exit 0)))
 (.seq (.block 1 (.seq (.region 0 [oP 40 (.fieldAddr 7 (.t 1)),
 oQ 41 (.load false 1 (.t 40)),
 oP 42 (.move (.t 3)),
 oP 43 (.idxSl 3 (.t 41) (.t 42)),
 oQ 44 (.load true 3 (.t 43)),
 oQ 4 (.alloc [.int .i64 0, .nils, .int .i64 0]),
 ⟨none, .store 3 (.t 4) (.t 44), none, none, []⟩])
 (.seq (.region 0 [oQ 45 (.load true 8 (.t 1)),
 oP 46 (.fieldAddr 0 (.t 4)),
 oQ 47 (.load false 1 (.t 46)),
 oQ 48 (.call 1 27 [(.t 45), (.t 47)]),
 oP 49 (.un .not (.t 48)),
 oP 50 (.move (.t 49)),
 oG 51 50 false (.fieldAddr 1 (.t 4)),
 ⟨(some 52), .load false 1 (.t 51), (some (50, false)), none, []⟩,
 oG 53 50 false (.lenS (.t 52)),
 oG 54 50 false (.bin .eql (.t 53) (.c (.int .i64 0))),
 oP 55 (.pick (.t 50) (.c (.bool true)) (.t 54)),
 oP 56 (.move (.t 55)),
 oG 57 56 false (.fieldAddr 1 (.t 4)),
 ⟨(some 58), .load false 1 (.t 57), (some (56, false)), none, []⟩,
 oG 59 56 false (.fieldAddr 0 (.t 1)),
 oG 60 56 false (.fieldAddr 3 (.t 59)),
 ⟨(some 61), .load false 1 (.t 60), (some (56, false)), none, []⟩,
 oG 62 56 false (.lenS (.t 61)),
 oG 63 56 false (.bin .sub (.t 62) (.c (.int .i64 1))),
 ⟨(some 64), .call 1 76 [(.t 58), (.c (.int .i64 0)), (.t 63)], (some (56, false)), none, []⟩,
 oG 65 56 false (.un .not (.t 64)),
 oP 66 (.pick (.t 56) (.c (.bool true)) (.t 65)),
 oP 67 (.move (.t 66)),
 oG 68 67 false (.fieldAddr 2 (.t 4)),
 ⟨(some 69), .load false 1 (.t 68), (some (67, false)), none, []⟩,
 ⟨(some 70), .call 1 68 [(.t 69), (.c (.int .i64 0)), (.c (.int .i64 99))], (some (67, false)), none, []⟩,
 oG 71 67 false (.un .not (.t 70)),
 oP 72 (.pick (.t 67) (.c (.bool true)) (.t 71))])
 (.cond (.t 72) (.seq (.region 0 [oP 2 (.move (.c (.int .i64 90)))])
 (.ret))
 (.skip)))))
 (.region 0 [oP 38 (.move (.t 3)),
 oP 39 (.bin .add (.t 38) (.c (.int .i64 1))),
 oP 3 (.move (.t 39))]))))))
 (.seq (.region 0 [oP 2 (.move (.c (.int .i64 0)))])
 (.ret)))))⟩
/-- almadraba/sales.Ready -/
def f40 : AFn := ⟨13, [.tmp 2, .tmp 3],
 .seq (.region 0 [oQ 1 (.box (.t 0)),
 oP 2 (.move (.c (.nils))),
 oP 3 (.move (.c (.int .i64 0)))])
 (.seq (.seq (.region 0 [oQ 5 (.load true 8 (.t 1)),
 oQ 6 (.call 1 38 [(.t 5)]),
 oP 4 (.move (.t 6))])
 (.seq (.region 0 [oP 7 (.move (.t 4)),
 oP 8 (.bin .neq (.t 7) (.c (.int .i64 0)))])
 (.cond (.t 8) (.seq (.region 0 [oP 9 (.move (.t 4)),
 oP 2 (.move (.c (.nils))),
 oP 3 (.move (.t 9))])
 (.ret))
 (.skip))))
 (.seq (.region 0 [oQ 10 (.load true 8 (.t 1)),
 oQ 11 (.call 2 61 [(.t 10)]),
 oQ 12 (.call 0 77 [(.t 11)]),
 oP 2 (.move (.t 12)),
 oP 3 (.move (.c (.int .i64 0)))])
 (.ret)))⟩
/-- almadraba/almadrabaref09.Ready -/
def f41 : AFn := ⟨12, [.tmp 2, .tmp 3],
 .seq (.region 0 [oQ 1 (.box (.t 0)),
 oP 2 (.move (.c (.nils))),
 oP 3 (.move (.c (.int .i64 0)))])
 (.seq (.seq (.region 0 [oQ 5 (.load true 8 (.t 1)),
 oQ 6 (.call 1 39 [(.t 5)]),
 oP 4 (.move (.t 6))])
 (.seq (.region 0 [oP 7 (.move (.t 4)),
 oP 8 (.bin .neq (.t 7) (.c (.int .i64 0)))])
 (.cond (.t 8) (.seq (.region 0 [oP 9 (.move (.t 4)),
 oP 2 (.move (.c (.nils))),
 oP 3 (.move (.t 9))])
 (.ret))
 (.skip))))
 (.seq (.region 0 [oQ 10 (.load true 8 (.t 1)),
 oQ 11 (.call 1 59 [(.t 10)]),
 oP 2 (.move (.t 11)),
 oP 3 (.move (.c (.int .i64 0)))])
 (.ret)))⟩
/-- almadraba/almadrabaref09.Good -/
def f42 : AFn := ⟨15, [.tmp 4, .tmp 5],
 .seq (.region 0 [oQ 2 (.box (.t 0)),
 oP 4 (.move (.c (.bool false))),
 oP 5 (.move (.c (.int .i64 0)))])
 (.seq (.seq (.region 0 [oQ 7 (.load true 8 (.t 2)),
 oQ 8 (.call 1 39 [(.t 7)]),
 oP 6 (.move (.t 8))])
 (.seq (.region 0 [oP 9 (.move (.t 6)),
 oP 10 (.bin .neq (.t 9) (.c (.int .i64 0)))])
 (.cond (.t 10) (.seq (.region 0 [oP 11 (.move (.t 6)),
 oP 4 (.move (.c (.bool false))),
 oP 5 (.move (.t 11))])
 (.ret))
 (.skip))))
 (.seq (.region 0 [oQ 12 (.load true 8 (.t 2)),
 oP 13 (.move (.t 1)),
 oQ 14 (.call 1 14 [(.t 12), (.t 13)]),
 oP 4 (.move (.t 14)),
 oP 5 (.move (.c (.int .i64 0)))])
 (.ret)))⟩
/-- almadraba/almadrabalaw09.Same -/
def f43 : AFn := ⟨82, [.tmp 4],
 .seq (.region 0 [oQ 2 (.box (.t 0)),
 oQ 3 (.box (.t 1)),
 oP 4 (.move (.c (.bool false)))])
 (.seq (.seq (.region 0 [oP 8 (.fieldAddr 0 (.t 2)),
 oQ 9 (.load true 4 (.t 8)),
 oP 10 (.fieldAddr 0 (.t 3)),
 oQ 11 (.load true 4 (.t 10)),
 oQ 12 (.call 1 78 [(.t 9), (.t 11)]),
 oP 13 (.un .not (.t 12)),
 oP 14 (.move (.t 13)),
 oG 15 14 false (.fieldAddr 4 (.t 2)),
 ⟨(some 16), .load false 1 (.t 15), (some (14, false)), none, []⟩,
 oG 17 14 false (.fieldAddr 4 (.t 3)),
 ⟨(some 18), .load false 1 (.t 17), (some (14, false)), none, []⟩,
 ⟨(some 19), .call 1 35 [(.t 16), (.t 18)], (some (14, false)), none, []⟩,
 oG 20 14 false (.un .not (.t 19)),
 oP 21 (.pick (.t 14) (.c (.bool true)) (.t 20)),
 oP 22 (.move (.t 21)),
 oG 23 22 false (.fieldAddr 5 (.t 2)),
 ⟨(some 24), .load false 1 (.t 23), (some (22, false)), none, []⟩,
 oG 25 22 false (.fieldAddr 5 (.t 3)),
 ⟨(some 26), .load false 1 (.t 25), (some (22, false)), none, []⟩,
 oG 27 22 false (.bin .neq (.t 24) (.t 26)),
 oP 28 (.pick (.t 22) (.c (.bool true)) (.t 27)),
 oP 29 (.move (.t 28)),
 oG 30 29 false (.fieldAddr 6 (.t 2)),
 ⟨(some 31), .load false 1 (.t 30), (some (29, false)), none, []⟩,
 oG 32 29 false (.fieldAddr 6 (.t 3)),
 ⟨(some 33), .load false 1 (.t 32), (some (29, false)), none, []⟩,
 oG 34 29 false (.bin .neq (.t 31) (.t 33)),
 oP 35 (.pick (.t 29) (.c (.bool true)) (.t 34)),
 oP 36 (.move (.t 35)),
 oG 37 36 false (.fieldAddr 7 (.t 2)),
 ⟨(some 38), .load false 1 (.t 37), (some (36, false)), none, []⟩,
 oG 39 36 false (.lenS (.t 38)),
 oG 40 36 false (.fieldAddr 7 (.t 3)),
 ⟨(some 41), .load false 1 (.t 40), (some (36, false)), none, []⟩,
 oG 42 36 false (.lenS (.t 41)),
 oG 43 36 false (.bin .neq (.t 39) (.t 42)),
 oP 44 (.pick (.t 36) (.c (.bool true)) (.t 43))])
 (.cond (.t 44) (.seq (.region 0 [oP 4 (.move (.c (.bool false)))])
 (.ret))
 (.skip)))
 (.seq (.seq (.region 0 [oP 5 (.move (.c (.int .i64 0)))])
 (.block 0 (.loop (.seq (.seq (.region 0 [oP 45 (.move (.t 5)),
 oP 46 (.fieldAddr 7 (.t 2)),
 oQ 47 (.load false 1 (.t 46)),
 oP 48 (.lenS (.t 47)),
 oP 49 (.bin .lss (.t 45) (.t 48))])
 (.cond (.t 49) (.skip)
 (.exit 0)))
 (.seq (.block 1 (.seq (.region 2 [oP 52 (.fieldAddr 7 (.t 2)),
 ⟨(some 53), .load false 1 (.t 52), none, none, [0, 1]⟩,
 oP 54 (.move (.t 5)),
 oP 55 (.idxSl 3 (.t 53) (.t 54)),
 ⟨(some 56), .load true 3 (.t 55), none, none, [0, 1]⟩,
 oP 57 (.fieldAddr 7 (.t 3)),
 ⟨(some 58), .load false 1 (.t 57), none, none, [0, 1]⟩,
 oP 59 (.move (.t 5)),
 oP 60 (.idxSl 3 (.t 58) (.t 59)),
 ⟨(some 61), .load true 3 (.t 60), none, none, [0, 1]⟩,
 ⟨(some 6), .alloc [.int .i64 0, .nils, .int .i64 0], none, (some 0), []⟩,
 ⟨(some 7), .alloc [.int .i64 0, .nils, .int .i64 0], none, (some 1), []⟩,
 ⟨none, .store 3 (.t 6) (.t 56), none, (some 0), []⟩,
 ⟨none, .store 3 (.t 7) (.t 61), none, (some 1), []⟩])
 (.seq (.region 0 [oP 62 (.fieldAddr 0 (.t 6)),
 oQ 63 (.load false 1 (.t 62)),
 oP 64 (.fieldAddr 0 (.t 7)),
 oQ 65 (.load false 1 (.t 64)),
 oP 66 (.bin .neq (.t 63) (.t 65)),
 oP 67 (.move (.t 66)),
 oG 68 67 false (.fieldAddr 2 (.t 6)),
 ⟨(some 69), .load false 1 (.t 68), (some (67, false)), none, []⟩,
 oG 70 67 false (.fieldAddr 2 (.t 7)),
 ⟨(some 71), .load false 1 (.t 70), (some (67, false)), none, []⟩,
 oG 72 67 false (.bin .neq (.t 69) (.t 71)),
 oP 73 (.pick (.t 67) (.c (.bool true)) (.t 72)),
 oP 74 (.move (.t 73)),
 oG 75 74 false (.fieldAddr 1 (.t 6)),
 ⟨(some 76), .load false 1 (.t 75), (some (74, false)), none, []⟩,
 oG 77 74 false (.fieldAddr 1 (.t 7)),
 ⟨(some 78), .load false 1 (.t 77), (some (74, false)), none, []⟩,
 ⟨(some 79), .call 1 35 [(.t 76), (.t 78)], (some (74, false)), none, []⟩,
 oG 80 74 false (.un .not (.t 79)),
 oP 81 (.pick (.t 74) (.c (.bool true)) (.t 80))])
 (.cond (.t 81) (.seq (.region 0 [oP 4 (.move (.c (.bool false)))])
 (.ret))
 (.skip)))))
 (.region 0 [oP 50 (.move (.t 5)),
 oP 51 (.bin .add (.t 50) (.c (.int .i64 1))),
 oP 5 (.move (.t 51))]))))))
 (.seq (.region 0 [oP 4 (.move (.c (.bool true)))])
 (.ret))))⟩
/-- almadraba/sales.Most -/
def f44 : AFn := ⟨13, [.tmp 2, .tmp 3],
 .seq (.region 0 [oQ 1 (.box (.t 0)),
 oP 2 (.move (.c (.int .i64 0))),
 oP 3 (.move (.c (.int .i64 0)))])
 (.seq (.seq (.region 0 [oQ 5 (.load true 8 (.t 1)),
 oQ 6 (.call 1 38 [(.t 5)]),
 oP 4 (.move (.t 6))])
 (.seq (.region 0 [oP 7 (.move (.t 4)),
 oP 8 (.bin .neq (.t 7) (.c (.int .i64 0)))])
 (.cond (.t 8) (.seq (.region 0 [oP 9 (.move (.t 4)),
 oP 2 (.move (.c (.int .i64 0))),
 oP 3 (.move (.t 9))])
 (.ret))
 (.skip))))
 (.seq (.region 0 [oQ 10 (.load true 8 (.t 1)),
 oQ 11 (.call 2 61 [(.t 10)]),
 oQ 12 (.call 0 79 [(.t 11)]),
 oP 2 (.move (.t 12)),
 oP 3 (.move (.c (.int .i64 0)))])
 (.ret)))⟩
/-- almadraba/sales.Winners -/
def f46 : AFn := ⟨19, [.tmp 2, .tmp 3],
 .seq (.region 0 [oQ 1 (.box (.t 0)),
 oP 2 (.move (.c (.nils))),
 oP 3 (.move (.c (.int .i64 0)))])
 (.seq (.seq (.region 0 [oQ 7 (.load true 8 (.t 1)),
 oQ 8 (.call 1 38 [(.t 7)]),
 oP 4 (.move (.t 8))])
 (.seq (.region 0 [oP 9 (.move (.t 4)),
 oP 10 (.bin .neq (.t 9) (.c (.int .i64 0)))])
 (.cond (.t 10) (.seq (.region 0 [oP 11 (.move (.t 4)),
 oP 2 (.move (.c (.nils))),
 oP 3 (.move (.t 11))])
 (.ret))
 (.skip))))
 (.seq (.region 0 [oQ 13 (.load true 8 (.t 1)),
 oQ 14 (.call 2 61 [(.t 13)]),
 oQ 15 (.call 3 81 [(.t 14), (.c (.fn 82 [] []))]),
 oP 12 (.move (.t 15)),
 oP 16 (.extract (.t 12) 0),
 oP 17 (.extract (.t 12) 1),
 oP 5 (.move (.t 16)),
 oP 6 (.move (.t 17))])
 (.seq (.region 0 [oP 18 (.move (.t 5)),
 oP 2 (.move (.t 18)),
 oP 3 (.move (.c (.int .i64 0)))])
 (.ret))))⟩
/-- almadraba/sales.Need -/
def f49 : AFn := ⟨19, [.tmp 4, .tmp 5],
 .seq (.region 0 [oQ 2 (.box (.t 0)),
 oP 4 (.move (.c (.int .i64 0))),
 oP 5 (.move (.c (.int .i64 0)))])
 (.seq (.seq (.region 0 [oQ 7 (.load true 8 (.t 2)),
 oP 8 (.move (.t 1)),
 oQ 9 (.call 1 63 [(.t 7), (.t 8)]),
 oP 6 (.move (.t 9))])
 (.seq (.region 0 [oP 10 (.move (.t 6)),
 oP 11 (.bin .neq (.t 10) (.c (.int .i64 0)))])
 (.cond (.t 11) (.seq (.region 0 [oP 12 (.move (.t 6)),
 oP 4 (.move (.c (.int .i64 0))),
 oP 5 (.move (.t 12))])
 (.ret))
 (.skip))))
 (.seq (.region 0 [oQ 13 (.load true 8 (.t 2)),
 oQ 14 (.call 2 61 [(.t 13)]),
 oP 15 (.move (.t 1)),
 oQ 16 (.call 3 88 [(.t 14), (.t 15)]),
 oP 17 (.extract (.t 16) 0),
 oP 18 (.extract (.t 16) 1),
 oP 4 (.move (.t 17)),
 oP 5 (.move (.t 18))])
 (.ret)))⟩
/-- almadraba/sales.When -/
def f55 : AFn := ⟨13, [.tmp 2, .tmp 3],
 .seq (.region 0 [oQ 1 (.box (.t 0)),
 oP 2 (.move (.c (.int .i64 0))),
 oP 3 (.move (.c (.int .i64 0)))])
 (.seq (.seq (.region 0 [oQ 5 (.load true 8 (.t 1)),
 oQ 6 (.call 1 38 [(.t 5)]),
 oP 4 (.move (.t 6))])
 (.seq (.region 0 [oP 7 (.move (.t 4)),
 oP 8 (.bin .neq (.t 7) (.c (.int .i64 0)))])
 (.cond (.t 8) (.seq (.region 0 [oP 9 (.move (.t 4)),
 oP 2 (.move (.c (.int .i64 0))),
 oP 3 (.move (.t 9))])
 (.ret))
 (.skip))))
 (.seq (.region 0 [oQ 10 (.load true 8 (.t 1)),
 oQ 11 (.call 2 61 [(.t 10)]),
 oQ 12 (.call 0 94 [(.t 11)]),
 oP 2 (.move (.t 12)),
 oP 3 (.move (.c (.int .i64 0)))])
 (.ret)))⟩
/-- almadraba/almadrabaref09.isSale -/
def f58 : AFn := ⟨63, [.tmp 6],
 .seq (.region 0 [oQ 3 (.box (.t 0)),
 oP 6 (.move (.c (.bool false)))])
 (.seq (.seq (.region 0 [oP 11 (.move (.t 1)),
 oP 12 (.fieldAddr 7 (.t 3)),
 oQ 13 (.load false 1 (.t 12)),
 oP 14 (.lenS (.t 13)),
 oP 15 (.bin .sub (.t 14) (.c (.int .i64 1))),
 oQ 16 (.call 1 76 [(.t 11), (.c (.int .i64 0)), (.t 15)]),
 oP 17 (.un .not (.t 16))])
 (.cond (.t 17) (.seq (.region 0 [oP 6 (.move (.c (.bool false)))])
 (.ret))
 (.skip)))
 (.seq (.seq (.region 0 [oP 7 (.move (.c (.int .i64 0)))])
 (.block 0 (.loop (.seq (.seq (.region 0 [oP 18 (.move (.t 7)),
 oP 19 (.move (.t 1)),
 oP 20 (.lenS (.t 19)),
 oP 21 (.bin .lss (.t 18) (.t 20))])
 (.cond (.t 21) (.skip)
 (.exit 0)))
 (.seq (.block 1 (.seq (.region 1 [oP 24 (.fieldAddr 7 (.t 3)),
 ⟨(some 25), .load false 1 (.t 24), none, none, [0]⟩,
 oP 26 (.move (.t 1)),
 oP 27 (.move (.t 7)),
 oP 28 (.idxSl 1 (.t 26) (.t 27)),
 ⟨(some 29), .load false 1 (.t 28), none, none, [0]⟩,
 oP 30 (.idxSl 3 (.t 25) (.t 29)),
 ⟨(some 31), .load true 3 (.t 30), none, none, [0]⟩,
 ⟨(some 8), .alloc [.int .i64 0, .nils, .int .i64 0], none, (some 0), []⟩,
 ⟨none, .store 3 (.t 8) (.t 31), none, (some 0), []⟩])
 (.seq (.seq (.region 0 [oP 9 (.move (.c (.int .i64 0)))])
 (.block 2 (.loop (.seq (.seq (.region 0 [oP 32 (.move (.t 9)),
 oP 33 (.fieldAddr 1 (.t 8)),
 oQ 34 (.load false 1 (.t 33)),
 oP 35 (.lenS (.t 34)),
 oP 36 (.bin .lss (.t 32) (.t 35))])
 (.cond (.t 36) (.skip)
 (.exit 2)))
 (.seq (.block 3 (.seq (.region 0 [oP 39 (.move (.t 2)),
 oP 40 (.fieldAddr 1 (.t 8)),
 oQ 41 (.load false 1 (.t 40)),
 oP 42 (.move (.t 9)),
 oP 43 (.idxSl 1 (.t 41) (.t 42)),
 oQ 44 (.load false 1 (.t 43)),
 oQ 45 (.call 1 22 [(.t 39), (.t 44)]),
 oP 46 (.un .not (.t 45))])
 (.cond (.t 46) (.seq (.region 0 [oP 6 (.move (.c (.bool false)))])
 (.ret))
 (.skip))))
 (.region 0 [oP 37 (.move (.t 9)),
 oP 38 (.bin .add (.t 37) (.c (.int .i64 1))),
 oP 9 (.move (.t 38))]))))))
 (.seq (.region 0 [oP 10 (.move (.c (.int .i64 0)))])
 (.block 4 (.loop (.seq (.seq (.region 0 [oP 47 (.move (.t 10)),
 oP 48 (.move (.t 7)),
 oP 49 (.bin .lss (.t 47) (.t 48))])
 (.cond (.t 49) (.skip)
 (.exit 4)))
 (.seq (.block 5 (.seq (.region 0 [oP 52 (.fieldAddr 7 (.t 3)),
 oQ 53 (.load false 1 (.t 52)),
 oP 54 (.move (.t 1)),
 oP 55 (.move (.t 10)),
 oP 56 (.idxSl 1 (.t 54) (.t 55)),
 oQ 57 (.load false 1 (.t 56)),
 oP 58 (.idxSl 3 (.t 53) (.t 57)),
 oQ 59 (.load true 3 (.t 58)),
 oQ 60 (.load true 3 (.t 8)),
 oQ 61 (.call 1 96 [(.t 59), (.t 60)]),
 oP 62 (.un .not (.t 61))])
 (.cond (.t 62) (.seq (.region 0 [oP 6 (.move (.c (.bool false)))])
 (.ret))
 (.skip))))
 (.region 0 [oP 50 (.move (.t 10)),
 oP 51 (.bin .add (.t 50) (.c (.int .i64 1))),
 oP 10 (.move (.t 51))])))))))))
 (.region 0 [oP 22 (.move (.t 7)),
 oP 23 (.bin .add (.t 22) (.c (.int .i64 1))),
 oP 7 (.move (.t 23))]))))))
 (.seq (.region 0 [oP 6 (.move (.c (.bool true)))])
 (.ret))))⟩
/-- almadraba/almadrabaref09.ReadyOf -/
def f59 : AFn := ⟨35, [.tmp 2],
 .seq (.region 0 [oQ 1 (.box (.t 0)),
 oP 2 (.move (.c (.nils)))])
 (.seq (.region 0 [oP 3 (.move (.c (.nils)))])
 (.seq (.seq (.region 0 [oP 4 (.move (.c (.int .i64 0)))])
 (.block 0 (.loop (.seq (.seq (.region 0 [oP 6 (.move (.t 4)),
 oP 7 (.fieldAddr 0 (.t 1)),
 oP 8 (.fieldAddr 3 (.t 7)),
 oQ 9 (.load false 1 (.t 8)),
 oP 10 (.lenS (.t 9)),
 oP 11 (.bin .lss (.t 6) (.t 10))])
 (.cond (.t 11) (.skip)
 (.exit 0)))
 (.seq (.block 1 (.seq (.region 0 [oP 14 (.fieldAddr 4 (.t 1)),
 oQ 15 (.load false 1 (.t 14)),
 oP 16 (.move (.t 4)),
 oQ 17 (.call 1 97 [(.t 15), (.t 16)]),
 oP 5 (.move (.t 17))])
 (.seq (.region 0 [oP 18 (.move (.t 5)),
 oP 19 (.lenS (.t 18)),
 oP 20 (.bin .gtr (.t 19) (.c (.int .i64 0))),
 oP 21 (.move (.t 20)),
 oG 22 21 true (.fieldAddr 0 (.t 1)),
 ⟨(some 23), .load true 4 (.t 22), (some (21, true)), none, []⟩,
 oG 24 21 true (.move (.t 5)),
 ⟨(some 25), .call 1 98 [(.t 23), (.t 24)], (some (21, true)), none, []⟩,
 oG 26 21 true (.fieldAddr 5 (.t 1)),
 ⟨(some 27), .load false 1 (.t 26), (some (21, true)), none, []⟩,
 oG 28 21 true (.bin .leq (.t 25) (.t 27)),
 oP 29 (.pick (.t 21) (.t 28) (.c (.bool false)))])
 (.cond (.t 29) (.region 0 [oP 30 (.move (.t 3)),
 oP 31 (.move (.t 4)),
 oQ 32 (.litS 1 1 [.int .i64 0] [(0, (.t 31))]),
 oQ 33 (.append false 1 8 (.t 30) (.t 32)),
 oP 3 (.move (.t 33))])
 (.skip)))))
 (.region 0 [oP 12 (.move (.t 4)),
 oP 13 (.bin .add (.t 12) (.c (.int .i64 1))),
 oP 4 (.move (.t 13))]))))))
 (.seq (.region 0 [oP 34 (.move (.t 3)),
 oP 2 (.move (.t 34))])
 (.ret))))⟩
/-- almadraba/almadrabalaw09.Example -/
def f60 : AFn := ⟨27, [.cell true 8 0, .cell true 8 1],
 .seq (.region 0 [oQ 0 (.alloc [.nils, .int .i64 0, .nils, .nils, .nils, .int .i64 0, .int .i64 0, .nils]),
 oQ 1 (.alloc [.nils, .int .i64 0, .nils, .nils, .nils, .int .i64 0, .int .i64 0, .nils])])
 (.seq (.region 0 [oP 3 (.build [.int .i64 0, .int .i64 0] [(0, 1, (.c (.int .i64 3))), (1, 1, (.c (.int .i64 10)))]),
 oP 4 (.build [.int .i64 0, .int .i64 0] [(0, 1, (.c (.int .i64 5))), (1, 1, (.c (.int .i64 4)))]),
 oQ 5 (.litS 2 2 [.int .i64 0, .int .i64 0] [(0, (.t 3)), (1, (.t 4))]),
 oP 6 (.build [.int .i64 0, .int .i64 0] [(0, 1, (.c (.int .i64 0))), (1, 1, (.c (.int .i64 10)))]),
 oP 7 (.build [.int .i64 0, .int .i64 0] [(0, 1, (.c (.int .i64 0))), (1, 1, (.c (.int .i64 15)))]),
 oP 8 (.build [.int .i64 0, .int .i64 0] [(0, 1, (.c (.int .i64 1))), (1, 1, (.c (.int .i64 8)))]),
 oQ 9 (.litS 2 3 [.int .i64 0, .int .i64 0] [(0, (.t 6)), (1, (.t 7)), (2, (.t 8))]),
 oQ 10 (.litS 1 2 [.int .i64 0] [(0, (.c (.int .i64 40))), (1, (.c (.int .i64 20)))]),
 oP 11 (.build [.nils, .int .i64 0, .nils, .nils] [(0, 1, (.t 5)), (1, 1, (.c (.int .i64 2))), (2, 1, (.t 9)), (3, 1, (.t 10))]),
 oQ 2 (.alloc [.nils, .int .i64 0, .nils, .nils]),
 ⟨none, .store 4 (.t 2) (.t 11), none, none, []⟩])
 (.seq (.region 0 [oQ 12 (.load true 4 (.t 2)),
 oQ 13 (.litS 1 3 [.int .i64 0] [(0, (.c (.int .i64 0))), (1, (.c (.int .i64 0))), (2, (.c (.int .i64 1)))]),
 oQ 14 (.litS 1 1 [.int .i64 0] [(0, (.c (.int .i64 0)))]),
 oP 15 (.build [.int .i64 0, .nils, .int .i64 0] [(0, 1, (.c (.int .i64 0))), (1, 1, (.t 14)), (2, 1, (.c (.int .i64 30)))]),
 oQ 16 (.litS 1 2 [.int .i64 0] [(0, (.c (.int .i64 0))), (1, (.c (.int .i64 1)))]),
 oP 17 (.build [.int .i64 0, .nils, .int .i64 0] [(0, 1, (.c (.int .i64 1))), (1, 1, (.t 16)), (2, 1, (.c (.int .i64 45)))]),
 oQ 18 (.litS 1 1 [.int .i64 0] [(0, (.c (.int .i64 1)))]),
 oP 19 (.build [.int .i64 0, .nils, .int .i64 0] [(0, 1, (.c (.int .i64 2))), (1, 1, (.t 18)), (2, 1, (.c (.int .i64 12)))]),
 oQ 20 (.litS 1 1 [.int .i64 0] [(0, (.c (.int .i64 1)))]),
 oP 21 (.build [.int .i64 0, .nils, .int .i64 0] [(0, 1, (.c (.int .i64 0))), (1, 1, (.t 20)), (2, 1, (.c (.int .i64 20)))]),
 oQ 22 (.litS 3 4 [.int .i64 0, .nils, .int .i64 0] [(0, (.t 15)), (1, (.t 17)), (2, (.t 19)), (3, (.t 21))]),
 oP 23 (.build [.nils, .int .i64 0, .nils, .nils, .nils, .int .i64 0, .int .i64 0, .nils] [(0, 4, (.t 12)), (4, 1, (.t 13)), (5, 1, (.c (.int .i64 10))), (6, 1, (.c (.int .i64 3))), (7, 1, (.t 22))]),
 ⟨none, .store 8 (.t 0) (.t 23), none, none, []⟩])
 (.seq (.region 0 [oQ 24 (.load true 8 (.t 0)),
 oQ 25 (.load true 8 (.t 0)),
 oQ 26 (.call 1 93 [(.t 25), (.c (.int .i64 5))]),
 ⟨none, .store 8 (.t 0) (.t 24), none, none, []⟩,
 ⟨none, .store 8 (.t 1) (.t 26), none, none, []⟩])
 (.ret))))⟩
/-- almadraba/sales.open -/
def f61 : AFn := ⟨11, [.cell true 13 2],
 .seq (.region 0 [oQ 1 (.box (.t 0)),
 oQ 2 (.alloc [.nils, .int .i64 0, .nils, .nils, .nils, .int .i64 0, .int .i64 0, .nils, .bool false, .bool false, .bool false, .bool false, .nilm])])
 (.seq (.region 0 [oQ 3 (.load true 8 (.t 1)),
 oQ 4 (.makeMap (.a [none, none, none, none])),
 oP 5 (.build [.nils, .int .i64 0, .nils, .nils, .nils, .int .i64 0, .int .i64 0, .nils, .bool false, .bool false, .bool false, .bool false, .nilm] [(0, 8, (.t 3)), (12, 1, (.t 4))]),
 oP 6 (.fieldAddr 4 (.t 1)),
 oQ 7 (.load false 1 (.t 6)),
 oP 8 (.fieldAddr 5 (.t 1)),
 oQ 9 (.load false 1 (.t 8)),
 oQ 10 (.call 3 91 [(.t 5), (.t 7), (.t 9)]),
 ⟨none, .store 13 (.t 2) (.t 10), none, none, []⟩])
 (.ret))⟩
/-- (almadraba/sales.fair).isSale -/
def f62 : AFn := ⟨29, [.tmp 4],
 .seq (.region 0 [oQ 2 (.box (.t 0)),
 oP 4 (.move (.c (.bool false)))])
 (.seq (.seq (.region 0 [oP 7 (.move (.t 1)),
 oP 8 (.lenS (.t 7)),
 oP 9 (.move (.c (.int .i64 0)))])
 (.block 0 (.loop (.seq (.region 0 [oP 10 (.bin .lss (.t 9) (.t 8))])
 (.seq (.cond (.t 10) (.skip)
 (.exit 0))
 (.seq (.block 1 (.seq (.region 0 [oP 11 (.move (.t 9)),
 oP 12 (.idxSl 1 (.t 7) (.t 9)),
 oQ 13 (.load false 1 (.t 12)),
 oP 5 (.move (.t 11)),
 oP 6 (.move (.t 13))])
 (.seq (.region 0 [oP 14 (.fieldAddr 0 (.t 2)),
 oQ 15 (.load true 8 (.t 14)),
 oP 16 (.move (.t 6)),
 oQ 17 (.call 1 99 [(.t 15), (.t 16)]),
 oP 18 (.un .not (.t 17)),
 oP 19 (.move (.t 18)),
 ⟨(some 20), .load true 13 (.t 2), (some (19, false)), none, []⟩,
 oG 21 19 false (.move (.t 1)),
 oG 22 19 false (.move (.t 5)),
 oG 23 19 false (.slice 1 (.t 21) none (some (.t 22))),
 oG 24 19 false (.move (.t 6)),
 ⟨(some 25), .call 3 100 [(.t 20), (.t 23), (.t 24)], (some (19, false)), none, []⟩,
 oG 26 19 false (.un .not (.t 25)),
 oP 27 (.pick (.t 19) (.c (.bool true)) (.t 26))])
 (.cond (.t 27) (.seq (.region 0 [oP 4 (.move (.c (.bool false)))])
 (.ret))
 (.skip)))))
 (.region 0 [oP 28 (.bin .add (.t 9) (.c (.int .i64 1))),
 oP 9 (.move (.t 28))])))))))
 (.seq (.region 0 [oP 4 (.move (.c (.bool true)))])
 (.ret)))⟩
/-- almadraba/sales.fitBid -/
def f63 : AFn := ⟨17, [.tmp 4],
 .seq (.region 0 [oQ 2 (.box (.t 0)),
 oP 4 (.move (.c (.int .i64 0)))])
 (.seq (.region 0 [oQ 6 (.load true 8 (.t 2)),
 oQ 7 (.call 1 38 [(.t 6)]),
 oP 5 (.move (.t 7))])
 (.seq (.seq (.region 0 [oP 8 (.move (.t 5)),
 oP 9 (.bin .eql (.t 8) (.c (.int .i64 0))),
 oP 10 (.move (.t 9)),
 ⟨(some 11), .load true 8 (.t 2), (some (10, true)), none, []⟩,
 oG 12 10 true (.move (.t 1)),
 ⟨(some 13), .call 1 99 [(.t 11), (.t 12)], (some (10, true)), none, []⟩,
 oG 14 10 true (.un .not (.t 13)),
 oP 15 (.pick (.t 10) (.t 14) (.c (.bool false)))])
 (.cond (.t 15) (.seq (.region 0 [oP 4 (.move (.c (.int .i64 1)))])
 (.ret))
 (.skip)))
 (.seq (.region 0 [oP 16 (.move (.t 5)),
 oP 4 (.move (.t 16))])
 (.ret))))⟩
/-- (almadraba/sales.fair).split -/
def f64 : AFn := ⟨20, [.tmp 4, .tmp 5],
 .seq (.region 0 [oQ 2 (.box (.t 0)),
 oQ 3 (.box (.t 1)),
 oP 4 (.move (.c (.int .i64 0))),
 oP 5 (.move (.c (.int .i64 0)))])
 (.seq (.region 0 [oQ 7 (.load true 13 (.t 2)),
 oQ 8 (.load false 1 (.t 3)),
 oQ 9 (.call 3 81 [(.t 7), (.t 8)]),
 oP 6 (.move (.t 9)),
 oP 10 (.extract (.t 6) 0),
 oP 11 (.extract (.t 6) 1),
 oP 4 (.move (.t 11))])
 (.seq (.region 0 [oQ 13 (.load true 13 (.t 2)),
 oP 14 (.mkFn 101 [] [(.t 3)]),
 oQ 15 (.call 3 81 [(.t 13), (.t 14)]),
 oP 12 (.move (.t 15)),
 oP 16 (.extract (.t 12) 0),
 oP 17 (.extract (.t 12) 1),
 oP 5 (.move (.t 17))])
 (.seq (.region 0 [oP 18 (.move (.t 4)),
 oP 19 (.move (.t 5)),
 oP 4 (.move (.t 18)),
 oP 5 (.move (.t 19))])
 (.ret))))⟩
/-- almadraba/sales.has -/
def f65 : AFn := ⟨4, [.tmp 2],
 .seq (.region 0 [oQ 1 (.box (.t 0)),
 oP 2 (.move (.c (.nilf)))])
 (.seq (.region 0 [oP 3 (.mkFn 102 [] [(.t 1)]),
 oP 2 (.move (.t 3))])
 (.ret))⟩
/-- (almadraba/sales.fair).pays -/
def f66 : AFn := ⟨44, [.tmp 4],
 .seq (.region 0 [oQ 2 (.box (.t 0)),
 oQ 3 (.box (.t 1)),
 oP 4 (.move (.c (.int .i64 0)))])
 (.seq (.region 0 [oP 12 (.mkFn 104 [] [(.t 2), (.t 3)]),
 oQ 5 (.alloc [.nilf]),
 ⟨none, .store 1 (.t 5) (.t 12), none, none, []⟩])
 (.seq (.region 0 [oQ 14 (.load true 13 (.t 2)),
 oQ 15 (.call 3 81 [(.t 14), (.c (.fn 82 [] []))]),
 oP 13 (.move (.t 15)),
 oP 16 (.extract (.t 13) 0),
 oP 17 (.extract (.t 13) 1),
 oP 6 (.move (.t 16)),
 oP 7 (.move (.t 17))])
 (.seq (.region 0 [oP 18 (.move (.t 6)),
 oQ 19 (.load false 1 (.t 5)),
 oQ 20 (.call 3 105 [(.t 18), (.t 19)]),
 oP 8 (.move (.t 20))])
 (.seq (.seq (.region 0 [oP 21 (.move (.t 8)),
 oP 22 (.bin .lss (.t 21) (.c (.int .i64 0)))])
 (.cond (.t 22) (.seq (.region 0 [oP 4 (.move (.c (.int .i64 0)))])
 (.ret))
 (.skip)))
 (.seq (.region 0 [oP 23 (.move (.t 7)),
 oP 24 (.fieldAddr 0 (.t 2)),
 oP 25 (.fieldAddr 7 (.t 24)),
 oQ 26 (.load false 1 (.t 25)),
 oP 27 (.move (.t 6)),
 oP 28 (.move (.t 8)),
 oP 29 (.idxSl 1 (.t 27) (.t 28)),
 oQ 30 (.load false 1 (.t 29)),
 oP 31 (.idxSl 3 (.t 26) (.t 30)),
 oP 32 (.fieldAddr 2 (.t 31)),
 oQ 33 (.load false 1 (.t 32)),
 oP 34 (.bin .sub (.t 23) (.t 33)),
 oP 9 (.move (.t 34))])
 (.seq (.region 0 [oQ 36 (.load true 13 (.t 2)),
 oP 37 (.mkFn 106 [] [(.t 5)]),
 oQ 38 (.call 3 64 [(.t 36), (.t 37)]),
 oP 35 (.move (.t 38)),
 oP 39 (.extract (.t 35) 0),
 oP 40 (.extract (.t 35) 1),
 oP 10 (.move (.t 39)),
 oP 11 (.move (.t 40))])
 (.seq (.region 0 [oP 41 (.move (.t 11)),
 oP 42 (.move (.t 9)),
 oP 43 (.bin .sub (.t 41) (.t 42)),
 oP 4 (.move (.t 43))])
 (.ret))))))))⟩
/-- almadraba/sales.hasBuyer -/
def f67 : AFn := ⟨13, [.tmp 4],
 .seq (.region 0 [oQ 2 (.box (.t 0)),
 oP 4 (.move (.c (.bool false)))])
 (.seq (.region 0 [oP 5 (.move (.t 1)),
 oP 6 (.bin .leq (.c (.int .i64 0)) (.t 5)),
 oP 7 (.move (.t 6)),
 oG 8 7 true (.move (.t 1)),
 oG 9 7 true (.fieldAddr 6 (.t 2)),
 ⟨(some 10), .load false 1 (.t 9), (some (7, true)), none, []⟩,
 oG 11 7 true (.bin .lss (.t 8) (.t 10)),
 oP 12 (.pick (.t 7) (.t 11) (.c (.bool false))),
 oP 4 (.move (.t 12))])
 (.ret))⟩
/-- almadraba/almadrabaref09.within -/
def f68 : AFn := ⟨11, [.tmp 6],
 .seq (.region 0 [oP 6 (.move (.c (.bool false)))])
 (.seq (.region 0 [oP 7 (.move (.t 0)),
 oP 8 (.move (.t 1)),
 oP 9 (.move (.t 2)),
 oQ 10 (.call 1 23 [(.t 7), (.t 8), (.t 9)]),
 oP 6 (.move (.t 10))])
 (.ret))⟩
/-- almadraba/almadrabaref08.IsPacking -/
def f70 : AFn := ⟨28, [.tmp 4],
 .seq (.region 0 [oQ 2 (.box (.t 0)),
 oP 4 (.move (.c (.bool false)))])
 (.seq (.seq (.region 0 [oP 6 (.move (.t 1)),
 oP 7 (.lenS (.t 6)),
 oP 8 (.fieldAddr 2 (.t 2)),
 oQ 9 (.load false 1 (.t 8)),
 oP 10 (.lenS (.t 9)),
 oP 11 (.bin .neq (.t 7) (.t 10))])
 (.cond (.t 11) (.seq (.region 0 [oP 4 (.move (.c (.bool false)))])
 (.ret))
 (.skip)))
 (.seq (.seq (.region 0 [oP 5 (.move (.c (.int .i64 0)))])
 (.block 0 (.loop (.seq (.seq (.region 0 [oP 12 (.move (.t 5)),
 oP 13 (.move (.t 1)),
 oP 14 (.lenS (.t 13)),
 oP 15 (.bin .lss (.t 12) (.t 14))])
 (.cond (.t 15) (.skip)
 (.exit 0)))
 (.seq (.block 1 (.seq (.region 0 [oQ 18 (.load true 4 (.t 2)),
 oP 19 (.move (.t 1)),
 oP 20 (.move (.t 5)),
 oP 21 (.idxSl 1 (.t 19) (.t 20)),
 oQ 22 (.load false 1 (.t 21)),
 oQ 23 (.call 1 108 [(.t 18), (.t 22)]),
 oP 24 (.un .not (.t 23))])
 (.cond (.t 24) (.seq (.region 0 [oP 4 (.move (.c (.bool false)))])
 (.ret))
 (.skip))))
 (.region 0 [oP 16 (.move (.t 5)),
 oP 17 (.bin .add (.t 16) (.c (.int .i64 1))),
 oP 5 (.move (.t 17))]))))))
 (.seq (.region 0 [oQ 25 (.load true 4 (.t 2)),
 oP 26 (.move (.t 1)),
 oQ 27 (.call 1 109 [(.t 25), (.t 26)]),
 oP 4 (.move (.t 27))])
 (.ret))))⟩
/-- almadraba/almadrabaref08.Copy -/
def f72 : AFn := ⟨21, [.cell true 4 2],
 .seq (.region 0 [oQ 1 (.box (.t 0)),
 oQ 2 (.alloc [.nils, .int .i64 0, .nils, .nils])])
 (.seq (.region 0 [oQ 4 (.load true 4 (.t 1)),
 oQ 3 (.alloc [.nils, .int .i64 0, .nils, .nils]),
 ⟨none, .store 4 (.t 3) (.t 4), none, none, []⟩])
 (.seq (.region 0 [oQ 5 (.buildSlice 2 0 [.int .i64 0, .int .i64 0] []),
 oP 6 (.fieldAddr 0 (.t 1)),
 oQ 7 (.load false 1 (.t 6)),
 oQ 8 (.append false 2 16 (.t 5) (.t 7)),
 oP 9 (.fieldAddr 0 (.t 3)),
 ⟨none, .store 1 (.t 9) (.t 8), none, none, []⟩])
 (.seq (.region 0 [oQ 10 (.buildSlice 2 0 [.int .i64 0, .int .i64 0] []),
 oP 11 (.fieldAddr 2 (.t 1)),
 oQ 12 (.load false 1 (.t 11)),
 oQ 13 (.append false 2 16 (.t 10) (.t 12)),
 oP 14 (.fieldAddr 2 (.t 3)),
 ⟨none, .store 1 (.t 14) (.t 13), none, none, []⟩])
 (.seq (.region 0 [oQ 15 (.buildSlice 1 0 [.int .i64 0] []),
 oP 16 (.fieldAddr 3 (.t 1)),
 oQ 17 (.load false 1 (.t 16)),
 oQ 18 (.append false 1 8 (.t 15) (.t 17)),
 oP 19 (.fieldAddr 3 (.t 3)),
 ⟨none, .store 1 (.t 19) (.t 18), none, none, []⟩])
 (.seq (.region 0 [oQ 20 (.load true 4 (.t 3)),
 ⟨none, .store 4 (.t 2) (.t 20), none, none, []⟩])
 (.ret))))))⟩
/-- almadraba/almadrabalaw08.Huge -/
def f73 : AFn := ⟨19, [.tmp 2],
 .seq (.region 0 [oQ 1 (.box (.t 0)),
 oP 2 (.move (.c (.bool false)))])
 (.seq (.region 0 [oP 3 (.fieldAddr 0 (.t 1)),
 oQ 4 (.load false 1 (.t 3)),
 oP 5 (.lenS (.t 4)),
 oP 6 (.bin .gtr (.t 5) (.c (.int .i64 40))),
 oP 7 (.move (.t 6)),
 oG 8 7 false (.fieldAddr 2 (.t 1)),
 ⟨(some 9), .load false 1 (.t 8), (some (7, false)), none, []⟩,
 oG 10 7 false (.lenS (.t 9)),
 oG 11 7 false (.bin .gtr (.t 10) (.c (.int .i64 40))),
 oP 12 (.pick (.t 7) (.c (.bool true)) (.t 11)),
 oP 13 (.move (.t 12)),
 oG 14 13 false (.fieldAddr 3 (.t 1)),
 ⟨(some 15), .load false 1 (.t 14), (some (13, false)), none, []⟩,
 oG 16 13 false (.lenS (.t 15)),
 oG 17 13 false (.bin .gtr (.t 16) (.c (.int .i64 40))),
 oP 18 (.pick (.t 13) (.c (.bool true)) (.t 17)),
 oP 2 (.move (.t 18))])
 (.ret))⟩
/-- almadraba/sales.valid -/
def f74 : AFn := ⟨38, [.tmp 2],
 .seq (.region 0 [oQ 1 (.box (.t 0)),
 oP 2 (.move (.c (.bool false)))])
 (.seq (.region 0 [oP 6 (.mkFn 111 [] [(.t 1)]),
 oP 3 (.move (.t 6))])
 (.seq (.region 0 [oP 8 (.fieldAddr 0 (.t 1)),
 oQ 9 (.load true 4 (.t 8)),
 oP 10 (.fieldAddr 4 (.t 1)),
 oQ 11 (.load false 1 (.t 10)),
 oQ 12 (.call 1 113 [(.t 9), (.t 11)]),
 oP 7 (.move (.t 12)),
 oP 13 (.extract (.t 7) 0),
 oP 14 (.extract (.t 7) 1),
 oP 4 (.move (.t 13)),
 oP 5 (.move (.t 14))])
 (.seq (.region 0 [oP 15 (.move (.t 4)),
 oP 16 (.move (.t 15)),
 oG 17 16 true (.fieldAddr 5 (.t 1)),
 ⟨(some 18), .load false 1 (.t 17), (some (16, true)), none, []⟩,
 ⟨(some 19), .call 1 90 [(.t 18), (.c (.int .i64 0)), (.c (.int .i64 20))], (some (16, true)), none, []⟩,
 oP 20 (.pick (.t 16) (.t 19) (.c (.bool false))),
 oP 21 (.move (.t 20)),
 oG 22 21 true (.fieldAddr 6 (.t 1)),
 ⟨(some 23), .load false 1 (.t 22), (some (21, true)), none, []⟩,
 ⟨(some 24), .call 1 90 [(.t 23), (.c (.int .i64 0)), (.c (.int .i64 4))], (some (21, true)), none, []⟩,
 oP 25 (.pick (.t 21) (.t 24) (.c (.bool false))),
 oP 26 (.move (.t 25)),
 oG 27 26 true (.fieldAddr 7 (.t 1)),
 ⟨(some 28), .load false 1 (.t 27), (some (26, true)), none, []⟩,
 oG 29 26 true (.lenS (.t 28)),
 oG 30 26 true (.bin .leq (.t 29) (.c (.int .i64 8))),
 oP 31 (.pick (.t 26) (.t 30) (.c (.bool false))),
 oP 32 (.move (.t 31)),
 oG 33 32 true (.fieldAddr 7 (.t 1)),
 ⟨(some 34), .load false 1 (.t 33), (some (32, true)), none, []⟩,
 oG 35 32 true (.move (.t 3)),
 ⟨(some 36), .call 3 114 [(.t 34), (.t 35)], (some (32, true)), none, []⟩,
 oP 37 (.pick (.t 32) (.t 36) (.c (.bool false))),
 oP 2 (.move (.t 37))])
 (.ret))))⟩
/-- almadraba/almadrabaref08.Check -/
def f75 : AFn := ⟨96, [.tmp 2],
 .seq (.region 0 [oQ 1 (.box (.t 0)),
 oP 2 (.move (.c (.int .i64 0)))])
 (.seq (.seq (.region 0 [oP 6 (.fieldAddr 0 (.t 1)),
 oQ 7 (.load false 1 (.t 6)),
 oP 8 (.lenS (.t 7)),
 oP 9 (.bin .gtr (.t 8) (.c (.int .i64 3))),
 oP 10 (.move (.t 9)),
 oG 11 10 false (.fieldAddr 1 (.t 1)),
 ⟨(some 12), .load false 1 (.t 11), (some (10, false)), none, []⟩,
 ⟨(some 13), .call 1 115 [(.t 12), (.c (.int .i64 0)), (.c (.int .i64 9))], (some (10, false)), none, []⟩,
 oG 14 10 false (.un .not (.t 13)),
 oP 15 (.pick (.t 10) (.c (.bool true)) (.t 14)),
 oP 16 (.move (.t 15)),
 oG 17 16 false (.fieldAddr 2 (.t 1)),
 ⟨(some 18), .load false 1 (.t 17), (some (16, false)), none, []⟩,
 oG 19 16 false (.lenS (.t 18)),
 oG 20 16 false (.bin .gtr (.t 19) (.c (.int .i64 6))),
 oP 21 (.pick (.t 16) (.c (.bool true)) (.t 20)),
 oP 22 (.move (.t 21)),
 oG 23 22 false (.fieldAddr 3 (.t 1)),
 ⟨(some 24), .load false 1 (.t 23), (some (22, false)), none, []⟩,
 oG 25 22 false (.lenS (.t 24)),
 oG 26 22 false (.bin .gtr (.t 25) (.c (.int .i64 4))),
 oP 27 (.pick (.t 22) (.c (.bool true)) (.t 26))])
 (.cond (.t 27) (.seq (.region 0 [oP 2 (.move (.c (.int .i64 80)))])
 (.ret))
 (.skip)))
 (.seq (.seq (.region 0 [oP 3 (.move (.c (.int .i64 0)))])
 (.block 0 (.loop (.seq (.seq (.region 0 [oP 28 (.move (.t 3)),
 oP 29 (.fieldAddr 0 (.t 1)),
 oQ 30 (.load false 1 (.t 29)),
 oP 31 (.lenS (.t 30)),
 oP 32 (.bin .lss (.t 28) (.t 31))])
 (.cond (.t 32) (.skip)
 (.exit 0)))
 (.seq (.block 1 (.seq (.region 0 [oP 35 (.fieldAddr 0 (.t 1)),
 oQ 36 (.load false 1 (.t 35)),
 oP 37 (.move (.t 3)),
 oP 38 (.idxSl 2 (.t 36) (.t 37)),
 oP 39 (.fieldAddr 0 (.t 38)),
 oQ 40 (.load false 1 (.t 39)),
 oQ 41 (.call 1 115 [(.t 40), (.c (.int .i64 0)), (.c (.int .i64 9))]),
 oP 42 (.un .not (.t 41)),
 oP 43 (.move (.t 42)),
 oG 44 43 false (.fieldAddr 0 (.t 1)),
 ⟨(some 45), .load false 1 (.t 44), (some (43, false)), none, []⟩,
 oG 46 43 false (.move (.t 3)),
 oG 47 43 false (.idxSl 2 (.t 45) (.t 46)),
 oG 48 43 false (.fieldAddr 1 (.t 47)),
 ⟨(some 49), .load false 1 (.t 48), (some (43, false)), none, []⟩,
 ⟨(some 50), .call 1 115 [(.t 49), (.c (.int .i64 0)), (.c (.int .i64 20))], (some (43, false)), none, []⟩,
 oG 51 43 false (.un .not (.t 50)),
 oP 52 (.pick (.t 43) (.c (.bool true)) (.t 51))])
 (.cond (.t 52) (.seq (.region 0 [oP 2 (.move (.c (.int .i64 80)))])
 (.ret))
 (.skip))))
 (.region 0 [oP 33 (.move (.t 3)),
 oP 34 (.bin .add (.t 33) (.c (.int .i64 1))),
 oP 3 (.move (.t 34))]))))))
 (.seq (.seq (.region 0 [oP 4 (.move (.c (.int .i64 0)))])
 (.block 2 (.loop (.seq (.seq (.region 0 [oP 53 (.move (.t 4)),
 oP 54 (.fieldAddr 2 (.t 1)),
 oQ 55 (.load false 1 (.t 54)),
 oP 56 (.lenS (.t 55)),
 oP 57 (.bin .lss (.t 53) (.t 56))])
 (.cond (.t 57) (.skip)
 (.exit 2)))
 (.seq (.block 3 (.seq (.region 0 [oP 60 (.fieldAddr 2 (.t 1)),
 oQ 61 (.load false 1 (.t 60)),
 oP 62 (.move (.t 4)),
 oP 63 (.idxSl 2 (.t 61) (.t 62)),
 oP 64 (.fieldAddr 0 (.t 63)),
 oQ 65 (.load false 1 (.t 64)),
 oP 66 (.fieldAddr 0 (.t 1)),
 oQ 67 (.load false 1 (.t 66)),
 oP 68 (.lenS (.t 67)),
 oP 69 (.bin .sub (.t 68) (.c (.int .i64 1))),
 oQ 70 (.call 1 115 [(.t 65), (.c (.int .i64 0)), (.t 69)]),
 oP 71 (.un .not (.t 70)),
 oP 72 (.move (.t 71)),
 oG 73 72 false (.fieldAddr 2 (.t 1)),
 ⟨(some 74), .load false 1 (.t 73), (some (72, false)), none, []⟩,
 oG 75 72 false (.move (.t 4)),
 oG 76 72 false (.idxSl 2 (.t 74) (.t 75)),
 oG 77 72 false (.fieldAddr 1 (.t 76)),
 ⟨(some 78), .load false 1 (.t 77), (some (72, false)), none, []⟩,
 ⟨(some 79), .call 1 115 [(.t 78), (.c (.int .i64 0)), (.c (.int .i64 40))], (some (72, false)), none, []⟩,
 oG 80 72 false (.un .not (.t 79)),
 oP 81 (.pick (.t 72) (.c (.bool true)) (.t 80))])
 (.cond (.t 81) (.seq (.region 0 [oP 2 (.move (.c (.int .i64 80)))])
 (.ret))
 (.skip))))
 (.region 0 [oP 58 (.move (.t 4)),
 oP 59 (.bin .add (.t 58) (.c (.int .i64 1))),
 oP 4 (.move (.t 59))]))))))
 (.seq (.seq (.region 0 [oP 5 (.move (.c (.int .i64 0)))])
 (.block 4 (.loop (.seq (.seq (.region 0 [oP 82 (.move (.t 5)),
 oP 83 (.fieldAddr 3 (.t 1)),
 oQ 84 (.load false 1 (.t 83)),
 oP 85 (.lenS (.t 84)),
 oP 86 (.bin .lss (.t 82) (.t 85))])
 (.cond (.t 86) (.skip)
 (.exit 4)))
 (.seq (.block 5 (.seq (.region 0 [oP 89 (.fieldAddr 3 (.t 1)),
 oQ 90 (.load false 1 (.t 89)),
 oP 91 (.move (.t 5)),
 oP 92 (.idxSl 1 (.t 90) (.t 91)),
 oQ 93 (.load false 1 (.t 92)),
 oQ 94 (.call 1 115 [(.t 93), (.c (.int .i64 0)), (.c (.int .i64 99))]),
 oP 95 (.un .not (.t 94))])
 (.cond (.t 95) (.seq (.region 0 [oP 2 (.move (.c (.int .i64 80)))])
 (.ret))
 (.skip))))
 (.region 0 [oP 87 (.move (.t 5)),
 oP 88 (.bin .add (.t 87) (.c (.int .i64 1))),
 oP 5 (.move (.t 88))]))))))
 (.seq (.region 0 [oP 2 (.move (.c (.int .i64 0)))])
 (.ret))))))⟩
/-- almadraba/almadrabaref01.Rising -/
def f76 : AFn := ⟨38, [.tmp 6],
 .seq (.region 0 [oP 6 (.move (.c (.bool false)))])
 (.seq (.seq (.region 0 [oP 7 (.move (.c (.int .i64 0)))])
 (.block 0 (.loop (.seq (.seq (.region 0 [oP 8 (.move (.t 7)),
 oP 9 (.move (.t 0)),
 oP 10 (.lenS (.t 9)),
 oP 11 (.bin .lss (.t 8) (.t 10))])
 (.cond (.t 11) (.skip)
 (.exit 0)))
 (.seq (.block 1 (.seq (.region 0 [oP 14 (.move (.t 0)),
 oP 15 (.move (.t 7)),
 oP 16 (.idxSl 1 (.t 14) (.t 15)),
 oQ 17 (.load false 1 (.t 16)),
 oP 18 (.move (.t 1)),
 oP 19 (.move (.t 2)),
 oQ 20 (.call 1 23 [(.t 17), (.t 18), (.t 19)]),
 oP 21 (.un .not (.t 20)),
 oP 22 (.move (.t 21)),
 oG 23 22 false (.move (.t 7)),
 oG 24 22 false (.bin .gtr (.t 23) (.c (.int .i64 0))),
 oG 25 22 false (.move (.t 24)),
 oG 26 25 true (.move (.t 0)),
 oG 27 25 true (.move (.t 7)),
 oG 28 25 true (.idxSl 1 (.t 26) (.t 27)),
 ⟨(some 29), .load false 1 (.t 28), (some (25, true)), none, []⟩,
 oG 30 25 true (.move (.t 0)),
 oG 31 25 true (.move (.t 7)),
 oG 32 25 true (.bin .sub (.t 31) (.c (.int .i64 1))),
 oG 33 25 true (.idxSl 1 (.t 30) (.t 32)),
 ⟨(some 34), .load false 1 (.t 33), (some (25, true)), none, []⟩,
 oG 35 25 true (.bin .leq (.t 29) (.t 34)),
 oG 36 22 false (.pick (.t 25) (.t 35) (.c (.bool false))),
 oP 37 (.pick (.t 22) (.c (.bool true)) (.t 36))])
 (.cond (.t 37) (.seq (.region 0 [oP 6 (.move (.c (.bool false)))])
 (.ret))
 (.skip))))
 (.region 0 [oP 12 (.move (.t 7)),
 oP 13 (.bin .add (.t 12) (.c (.int .i64 1))),
 oP 7 (.move (.t 13))]))))))
 (.seq (.region 0 [oP 6 (.move (.c (.bool true)))])
 (.ret)))⟩
/-- (almadraba/sales.fair).readies -/
def f77 : AFn := ⟨19, [.tmp 2],
 .seq (.region 0 [oQ 1 (.box (.t 0)),
 oP 2 (.move (.c (.nils)))])
 (.seq (.region 0 [oP 3 (.move (.c (.nils)))])
 (.seq (.seq (.region 0 [oP 6 (.fieldAddr 8 (.t 1)),
 oQ 7 (.load true 4 (.t 6)),
 oP 8 (.move (.c (.int .i64 0)))])
 (.block 0 (.loop (.seq (.region 0 [oP 9 (.bin .lss (.t 8) (.c (.int .i64 4)))])
 (.seq (.cond (.t 9) (.skip)
 (.exit 0))
 (.seq (.block 1 (.seq (.region 0 [oP 10 (.move (.t 8)),
 oP 11 (.idx false 4 1 (.t 7) (.t 8)),
 oP 4 (.move (.t 10)),
 oP 5 (.move (.t 11))])
 (.seq (.region 0 [oP 12 (.move (.t 5))])
 (.cond (.t 12) (.region 0 [oP 13 (.move (.t 3)),
 oP 14 (.move (.t 4)),
 oQ 15 (.litS 1 1 [.int .i64 0] [(0, (.t 14))]),
 oQ 16 (.append false 1 8 (.t 13) (.t 15)),
 oP 3 (.move (.t 16))])
 (.skip)))))
 (.region 0 [oP 17 (.bin .add (.t 8) (.c (.int .i64 1))),
 oP 8 (.move (.t 17))])))))))
 (.seq (.region 0 [oP 18 (.move (.t 3)),
 oP 2 (.move (.t 18))])
 (.ret))))⟩
end Go.Proofs.YtfagcnokdnanpaaGreat.T
