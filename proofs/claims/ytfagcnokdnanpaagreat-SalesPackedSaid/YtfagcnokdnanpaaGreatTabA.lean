/-
The code of functions of the seat, as the abstract machine has it (printed by a tool of ours off the dump).
-/
import Derived.Test.YtfagcnokdnanpaaGreatAmX
namespace Go.Proofs.YtfagcnokdnanpaaGreat.T
open Go Go.Am
abbrev oP (n : Nat) (p : POp) : AOper := ⟨some n, .p p, none, none, []⟩
abbrev oQ (n : Nat) (p : AOp) : AOper := ⟨some n, p, none, none, []⟩
abbrev oG (n m : Nat) (b : Bool) (p : POp) : AOper := ⟨some n, .p p, some (m, b), none, []⟩
abbrev oM (n k : Nat) : AOper := oP n (.move (.t k))
abbrev oN (n m : Nat) (b : Bool) (k : Nat) : AOper := oG n m b (.move (.t k))
abbrev oL (n : Nat) (b : Bool) (k t : Nat) : AOper := oQ n (.load b k (.t t))
abbrev oF (n k t : Nat) : AOper := oP n (.fieldAddr k (.t t))
abbrev oC (n : Nat) (k : Int) : AOper := oP n (.move (.c (.int .i64 k)))
abbrev oE (n k i : Nat) : AOper := oP n (.extract (.t k) i)
abbrev oD (n e k t : Nat) : AOper := oP n (.idxSl e (.t k) (.t t))
def f6 : AFn := ⟨65, [.tmp 4],
 .seq (.region 0 [oQ 2 (.box (.t 0)),
 oP 4 (.move (.c (.bool false)))])
 (.seq (.seq (.region 0 [oL 9 true 8 2,
 oQ 10 (.call 1 29 [(.t 9)]),
 oM 11 10,
 ⟨(some 12), .load true 8 (.t 2), (some (11, false)), none, []⟩,
 ⟨(some 13), .call 1 13 [(.t 12)], (some (11, false)), none, []⟩,
 oG 14 11 false (.un .not (.t 13)),
 oP 15 (.pick (.t 11) (.c (.bool true)) (.t 14)),
 oM 16 15,
 ⟨(some 17), .load true 8 (.t 2), (some (16, false)), none, []⟩,
 oN 18 16 false 1,
 ⟨(some 19), .call 1 30 [(.t 17), (.t 18)], (some (16, false)), none, []⟩,
 oG 20 16 false (.un .not (.t 19)),
 oP 21 (.pick (.t 16) (.c (.bool true)) (.t 20))])
 (.cond (.t 21) (.seq (.region 0 [oQ 22 (.call 1 15 []),
 oM 4 22])
 (.ret))
 (.skip)))
 (.seq (.region 0 [oL 24 true 8 2,
 oQ 25 (.call 1 31 [(.t 24)]),
 oM 23 25,
 oE 26 23 0,
 oE 27 23 1,
 oM 5 26,
 oM 6 27])
 (.seq (.seq (.region 0 [oM 28 6,
 oP 29 (.bin .neq (.t 28) (.c (.int .i64 0))),
 oM 30 29,
 ⟨(some 31), .load true 8 (.t 2), (some (30, false)), none, []⟩,
 oN 32 30 false 5,
 ⟨(some 33), .call 1 30 [(.t 31), (.t 32)], (some (30, false)), none, []⟩,
 oG 34 30 false (.un .not (.t 33)),
 oP 35 (.pick (.t 30) (.c (.bool true)) (.t 34))])
 (.cond (.t 35) (.seq (.region 0 [oP 4 (.move (.c (.bool false)))])
 (.ret))
 (.skip)))
 (.seq (.region 0 [oL 36 true 8 2,
 oM 37 5,
 oQ 38 (.call 1 32 [(.t 36), (.t 37)]),
 oQ 39 (.call 1 16 [(.t 38)]),
 oM 7 39])
 (.seq (.region 0 [oL 40 true 8 2,
 oM 41 1,
 oQ 42 (.call 1 32 [(.t 40), (.t 41)]),
 oQ 43 (.call 1 16 [(.t 42)]),
 oM 8 43])
 (.seq (.region 0 [oM 44 8,
 oP 45 (.bin .geq (.t 44) (.c (.int .i64 0))),
 oM 46 45,
 oN 47 46 true 8,
 oN 48 46 true 7,
 oG 49 46 true (.bin .leq (.t 47) (.t 48)),
 oP 50 (.pick (.t 46) (.t 49) (.c (.bool false))),
 oM 51 50,
 oN 52 51 true 8,
 oN 53 51 true 7,
 oG 54 51 true (.bin .lss (.t 52) (.t 53)),
 oN 55 51 true 54,
 oN 56 55 false 1,
 oN 57 55 false 5,
 ⟨(some 58), .call 1 20 [(.t 56), (.t 57)], (some (55, false)), none, []⟩,
 oG 59 55 false (.un .not (.t 58)),
 oG 60 51 true (.pick (.t 55) (.c (.bool true)) (.t 59)),
 oP 61 (.pick (.t 51) (.t 60) (.c (.bool false))),
 oM 62 61,
 ⟨(some 63), .call 1 15 [], (some (62, true)), none, []⟩,
 oP 64 (.pick (.t 62) (.t 63) (.c (.bool false))),
 oM 4 64])
 (.ret)))))))⟩
def f13 : AFn := ⟨11, [.tmp 2],
 .seq (.region 0 [oQ 1 (.box (.t 0)),
 oP 2 (.move (.c (.bool false)))])
 (.seq (.region 0 [oL 3 true 8 1,
 oQ 4 (.call 1 37 [(.t 3)]),
 oP 5 (.un .not (.t 4)),
 oM 6 5,
 ⟨(some 7), .load true 8 (.t 1), (some (6, true)), none, []⟩,
 ⟨(some 8), .call 1 39 [(.t 7)], (some (6, true)), none, []⟩,
 oG 9 6 true (.bin .eql (.t 8) (.c (.int .i64 0))),
 oP 10 (.pick (.t 6) (.t 9) (.c (.bool false))),
 oM 2 10])
 (.ret))⟩
def f15 : AFn := ⟨97, [.tmp 0],
 .seq (.region 0 [oP 0 (.move (.c (.bool false)))])
 (.seq (.region 0 [oQ 16 (.call 1 60 []),
 oM 15 16,
 oE 17 15 0,
 oE 18 15 1,
 oQ 1 (.alloc [.nils, .int .i64 0, .nils, .nils, .nils, .int .i64 0, .int .i64 0, .nils]),
 oQ 2 (.alloc [.nils, .int .i64 0, .nils, .nils, .nils, .int .i64 0, .int .i64 0, .nils]),
 ⟨none, .store 8 (.t 1) (.t 17), none, none, []⟩,
 ⟨none, .store 8 (.t 2) (.t 18), none, none, []⟩])
 (.seq (.region 0 [oL 20 true 8 2,
 oQ 21 (.call 1 40 [(.t 20)]),
 oM 19 21,
 oE 22 19 0,
 oE 23 19 1,
 oM 3 22,
 oM 4 23])
 (.seq (.region 0 [oL 25 true 8 1,
 oQ 26 (.call 1 44 [(.t 25)]),
 oM 24 26,
 oE 27 24 0,
 oE 28 24 1,
 oM 5 27,
 oM 6 28])
 (.seq (.region 0 [oL 30 true 8 1,
 oQ 31 (.call 1 46 [(.t 30)]),
 oM 29 31,
 oE 32 29 0,
 oE 33 29 1,
 oM 7 32,
 oM 8 33])
 (.seq (.region 0 [oL 35 true 8 1,
 oQ 36 (.call 1 25 [(.t 35), (.c (.int .i64 1))]),
 oM 34 36,
 oE 37 34 0,
 oE 38 34 1,
 oM 9 37,
 oM 10 38])
 (.seq (.region 0 [oL 40 true 8 1,
 oQ 41 (.call 1 49 [(.t 40), (.c (.int .i64 0))]),
 oM 39 41,
 oE 42 39 0,
 oE 43 39 1,
 oM 11 42,
 oM 12 43])
 (.seq (.region 0 [oL 45 true 8 1,
 oQ 46 (.call 1 55 [(.t 45)]),
 oM 44 46,
 oE 47 44 0,
 oE 48 44 1,
 oM 13 47,
 oM 14 48])
 (.seq (.region 0 [oM 49 4,
 oP 50 (.bin .eql (.t 49) (.c (.int .i64 0))),
 oM 51 50,
 oN 52 51 true 6,
 oG 53 51 true (.bin .eql (.t 52) (.c (.int .i64 0))),
 oP 54 (.pick (.t 51) (.t 53) (.c (.bool false))),
 oM 55 54,
 oN 56 55 true 8,
 oG 57 55 true (.bin .eql (.t 56) (.c (.int .i64 0))),
 oP 58 (.pick (.t 55) (.t 57) (.c (.bool false))),
 oM 59 58,
 oN 60 59 true 10,
 oG 61 59 true (.bin .eql (.t 60) (.c (.int .i64 0))),
 oP 62 (.pick (.t 59) (.t 61) (.c (.bool false))),
 oM 63 62,
 oN 64 63 true 12,
 oG 65 63 true (.bin .eql (.t 64) (.c (.int .i64 0))),
 oP 66 (.pick (.t 63) (.t 65) (.c (.bool false))),
 oM 67 66,
 oN 68 67 true 14,
 oG 69 67 true (.bin .eql (.t 68) (.c (.int .i64 0))),
 oP 70 (.pick (.t 67) (.t 69) (.c (.bool false))),
 oM 71 70,
 oN 72 71 true 3,
 ⟨(some 73), .litS 1 1 [.int .i64 0] [(0, (.c (.int .i64 1)))], (some (71, true)), none, []⟩,
 ⟨(some 74), .call 1 35 [(.t 72), (.t 73)], (some (71, true)), none, []⟩,
 oP 75 (.pick (.t 71) (.t 74) (.c (.bool false))),
 oM 76 75,
 oN 77 76 true 5,
 oG 78 76 true (.bin .eql (.t 77) (.c (.int .i64 45))),
 oP 79 (.pick (.t 76) (.t 78) (.c (.bool false))),
 oM 80 79,
 oN 81 80 true 7,
 ⟨(some 82), .litS 1 1 [.int .i64 0] [(0, (.c (.int .i64 1)))], (some (80, true)), none, []⟩,
 ⟨(some 83), .call 1 35 [(.t 81), (.t 82)], (some (80, true)), none, []⟩,
 oP 84 (.pick (.t 80) (.t 83) (.c (.bool false))),
 oM 85 84,
 oN 86 85 true 9,
 oG 87 85 true (.bin .eql (.t 86) (.c (.int .i64 42))),
 oP 88 (.pick (.t 85) (.t 87) (.c (.bool false))),
 oM 89 88,
 oN 90 89 true 11,
 oG 91 89 true (.bin .eql (.t 90) (.c (.int .i64 33))),
 oP 92 (.pick (.t 89) (.t 91) (.c (.bool false))),
 oM 93 92,
 oN 94 93 true 13,
 oG 95 93 true (.bin .eql (.t 94) (.c (.int .i64 10))),
 oP 96 (.pick (.t 93) (.t 95) (.c (.bool false))),
 oM 0 96])
 (.ret)))))))))⟩
def f16 : AFn := ⟨21, [.tmp 2],
 .seq (.region 0 [oQ 1 (.box (.t 0)),
 oC 2 0])
 (.seq (.region 0 [oL 6 true 8 1,
 oQ 7 (.call 1 44 [(.t 6)]),
 oM 5 7,
 oE 8 5 0,
 oE 9 5 1,
 oM 3 8,
 oM 4 9])
 (.seq (.seq (.region 0 [oM 10 4,
 oP 11 (.bin .neq (.t 10) (.c (.int .i64 0))),
 oM 12 11,
 oN 13 12 false 3,
 oG 14 12 false (.bin .lss (.t 13) (.c (.int .i64 0))),
 oP 15 (.pick (.t 12) (.c (.bool true)) (.t 14)),
 oM 16 15,
 oN 17 16 false 3,
 oG 18 16 false (.bin .geq (.t 17) (.c (.int .i64 1000))),
 oP 19 (.pick (.t 16) (.c (.bool true)) (.t 18))])
 (.cond (.t 19) (.seq (.region 0 [oP 2 (.move (.c (.int .i64 (-1))))])
 (.ret))
 (.skip)))
 (.seq (.region 0 [oM 20 3,
 oM 2 20])
 (.ret))))⟩
def f20 : AFn := ⟨36, [.tmp 4],
 .seq (.region 0 [oP 4 (.move (.c (.bool false)))])
 (.seq (.seq (.region 0 [oC 5 0])
 (.block 0 (.loop (.seq (.seq (.region 0 [oM 6 5,
 oM 7 0,
 oP 8 (.lenS (.t 7)),
 oP 9 (.bin .lss (.t 6) (.t 8)),
 oM 10 9,
 oN 11 10 true 5,
 oN 12 10 true 1,
 oG 13 10 true (.lenS (.t 12)),
 oG 14 10 true (.bin .lss (.t 11) (.t 13)),
 oP 15 (.pick (.t 10) (.t 14) (.c (.bool false)))])
 (.cond (.t 15) (.skip)
 (.exit 0)))
 (.seq (.block 1 (.seq (.region 0 [oM 18 0,
 oM 19 5,
 oD 20 1 18 19,
 oL 21 false 1 20,
 oM 22 1,
 oM 23 5,
 oD 24 1 22 23,
 oL 25 false 1 24,
 oP 26 (.bin .neq (.t 21) (.t 25))])
 (.cond (.t 26) (.seq (.region 0 [oM 27 0,
 oM 28 5,
 oD 29 1 27 28,
 oL 30 false 1 29,
 oM 31 1,
 oM 32 5,
 oD 33 1 31 32,
 oL 34 false 1 33,
 oP 35 (.bin .lss (.t 30) (.t 34)),
 oM 4 35])
 (.ret))
 (.skip))))
 (.region 0 [oM 16 5,
 oP 17 (.bin .add (.t 16) (.c (.int .i64 1))),
 oM 5 17]))))))
 (.seq (.region 0 [oP 4 (.move (.c (.bool false)))])
 (.ret)))⟩
def f23 : AFn := ⟨15, [.tmp 6],
 .seq (.region 0 [oP 6 (.move (.c (.bool false)))])
 (.seq (.region 0 [oM 7 1,
 oM 8 0,
 oP 9 (.bin .leq (.t 7) (.t 8)),
 oM 10 9,
 oN 11 10 true 0,
 oN 12 10 true 2,
 oG 13 10 true (.bin .leq (.t 11) (.t 12)),
 oP 14 (.pick (.t 10) (.t 13) (.c (.bool false))),
 oM 6 14])
 (.ret))⟩
def f25 : AFn := ⟨20, [.tmp 4, .tmp 5],
 .seq (.region 0 [oQ 2 (.box (.t 0)),
 oC 4 0,
 oC 5 0])
 (.seq (.seq (.region 0 [oL 7 true 8 2,
 oQ 8 (.call 1 38 [(.t 7)]),
 oM 6 8])
 (.seq (.region 0 [oM 9 6,
 oP 10 (.bin .neq (.t 9) (.c (.int .i64 0)))])
 (.cond (.t 10) (.seq (.region 0 [oM 11 6,
 oC 4 0,
 oM 5 11])
 (.ret))
 (.skip))))
 (.seq (.seq (.region 0 [oL 12 true 8 2,
 oM 13 1,
 oQ 14 (.call 1 67 [(.t 12), (.t 13)]),
 oP 15 (.un .not (.t 14))])
 (.cond (.t 15) (.seq (.region 0 [oC 4 0,
 oC 5 1])
 (.ret))
 (.skip)))
 (.seq (.region 0 [oL 16 true 8 2,
 oQ 17 (.call 2 61 [(.t 16)]),
 oM 18 1,
 oQ 19 (.call 3 66 [(.t 17), (.t 18)]),
 oM 4 19,
 oC 5 0])
 (.ret))))⟩
def f27 : AFn := ⟨10, [.tmp 4],
 .seq (.region 0 [oQ 2 (.box (.t 0)),
 oP 4 (.move (.c (.bool false)))])
 (.seq (.region 0 [oM 5 1,
 oF 6 6 2,
 oL 7 false 1 6,
 oP 8 (.bin .sub (.t 7) (.c (.int .i64 1))),
 oQ 9 (.call 1 68 [(.t 5), (.c (.int .i64 0)), (.t 8)]),
 oM 4 9])
 (.ret))⟩
def f29 : AFn := ⟨10, [.tmp 2],
 .seq (.region 0 [oQ 1 (.box (.t 0)),
 oP 2 (.move (.c (.bool false)))])
 (.seq (.region 0 [oL 3 true 8 1,
 oQ 4 (.call 1 37 [(.t 3)]),
 oM 5 4,
 oG 6 5 false (.fieldAddr 0 (.t 1)),
 ⟨(some 7), .load true 4 (.t 6), (some (5, false)), none, []⟩,
 ⟨(some 8), .call 1 69 [(.t 7)], (some (5, false)), none, []⟩,
 oP 9 (.pick (.t 5) (.c (.bool true)) (.t 8)),
 oM 2 9])
 (.ret))⟩
def f30 : AFn := ⟨14, [.tmp 4],
 .seq (.region 0 [oQ 2 (.box (.t 0)),
 oP 4 (.move (.c (.bool false)))])
 (.seq (.region 0 [oM 5 1,
 oP 6 (.lenS (.t 5)),
 oP 7 (.bin .leq (.t 6) (.c (.int .i64 40))),
 oM 8 7,
 oG 9 8 true (.fieldAddr 0 (.t 2)),
 ⟨(some 10), .load true 4 (.t 9), (some (8, true)), none, []⟩,
 oN 11 8 true 1,
 ⟨(some 12), .call 1 70 [(.t 10), (.t 11)], (some (8, true)), none, []⟩,
 oP 13 (.pick (.t 8) (.t 12) (.c (.bool false))),
 oM 4 13])
 (.ret))⟩
def f31 : AFn := ⟨13, [.tmp 2, .tmp 3],
 .seq (.region 0 [oQ 1 (.box (.t 0)),
 oP 2 (.move (.c (.nils))),
 oC 3 0])
 (.seq (.seq (.region 0 [oL 5 true 8 1,
 oQ 6 (.call 1 38 [(.t 5)]),
 oM 4 6])
 (.seq (.region 0 [oM 7 4,
 oP 8 (.bin .neq (.t 7) (.c (.int .i64 0)))])
 (.cond (.t 8) (.seq (.region 0 [oM 9 4,
 oP 2 (.move (.c (.nils))),
 oM 3 9])
 (.ret))
 (.skip))))
 (.seq (.region 0 [oL 10 true 8 1,
 oQ 11 (.call 2 61 [(.t 10)]),
 oQ 12 (.call 0 71 [(.t 11)]),
 oM 2 12,
 oC 3 0])
 (.ret)))⟩
def f32 : AFn := ⟨13, [.cell true 8 4],
 .seq (.region 0 [oQ 2 (.box (.t 0)),
 oQ 4 (.alloc [.nils, .int .i64 0, .nils, .nils, .nils, .int .i64 0, .int .i64 0, .nils])])
 (.seq (.region 0 [oL 6 true 8 2,
 oQ 7 (.call 1 33 [(.t 6)]),
 oQ 5 (.alloc [.nils, .int .i64 0, .nils, .nils, .nils, .int .i64 0, .int .i64 0, .nils]),
 ⟨none, .store 8 (.t 5) (.t 7), none, none, []⟩])
 (.seq (.region 0 [oQ 8 (.buildSlice 1 0 [.int .i64 0] []),
 oM 9 1,
 oQ 10 (.append false 1 8 (.t 8) (.t 9)),
 oF 11 4 5,
 ⟨none, .store 1 (.t 11) (.t 10), none, none, []⟩])
 (.seq (.region 0 [oL 12 true 8 5,
 ⟨none, .store 8 (.t 4) (.t 12), none, none, []⟩])
 (.ret))))⟩
def f33 : AFn := ⟨36, [.cell true 8 2],
 .seq (.region 0 [oQ 1 (.box (.t 0)),
 oQ 2 (.alloc [.nils, .int .i64 0, .nils, .nils, .nils, .int .i64 0, .int .i64 0, .nils])])
 (.seq (.region 3 [oF 5 0 1,
 ⟨(some 6), .load true 4 (.t 5), none, none, [0, 1, 2]⟩,
 ⟨(some 7), .call 1 72 [(.t 6)], none, none, [0, 1, 2]⟩,
 ⟨(some 8), .buildSlice 1 0 [.int .i64 0] [], none, (some 0), []⟩,
 oF 9 4 1,
 ⟨(some 10), .load false 1 (.t 9), none, none, [0, 1, 2]⟩,
 ⟨(some 11), .append true 1 8 (.t 8) (.t 10), none, (some 1), [2]⟩,
 oF 12 5 1,
 ⟨(some 13), .load false 1 (.t 12), none, none, [0, 1, 2]⟩,
 oF 14 6 1,
 ⟨(some 15), .load false 1 (.t 14), none, none, [0, 1, 2]⟩,
 oP 16 (.build [.nils, .int .i64 0, .nils, .nils, .nils, .int .i64 0, .int .i64 0, .nils] [(0, 4, (.t 7)), (4, 1, (.t 11)), (5, 1, (.t 13)), (6, 1, (.t 15))]),
 ⟨(some 3), .alloc [.nils, .int .i64 0, .nils, .nils, .nils, .int .i64 0, .int .i64 0, .nils], none, (some 2), []⟩,
 ⟨none, .store 8 (.t 3) (.t 16), none, (some 2), []⟩])
 (.seq (.seq (.region 0 [oC 4 0])
 (.block 0 (.loop (.seq (.seq (.region 0 [oM 17 4,
 oF 18 7 1,
 oL 19 false 1 18,
 oP 20 (.lenS (.t 19)),
 oP 21 (.bin .lss (.t 17) (.t 20))])
 (.cond (.t 21) (.skip)
 (.exit 0)))
 (.seq (.block 1 (.region 1 [oF 24 7 3,
 ⟨(some 25), .load false 1 (.t 24), none, none, [0]⟩,
 oF 26 7 1,
 ⟨(some 27), .load false 1 (.t 26), none, none, [0]⟩,
 oM 28 4,
 oD 29 3 27 28,
 ⟨(some 30), .load true 3 (.t 29), none, none, [0]⟩,
 ⟨(some 31), .call 1 34 [(.t 30)], none, none, [0]⟩,
 oQ 32 (.litS 3 1 [.int .i64 0, .nils, .int .i64 0] [(0, (.t 31))]),
 ⟨(some 33), .append false 3 40 (.t 25) (.t 32), none, (some 0), []⟩,
 oF 34 7 3,
 ⟨none, .store 1 (.t 34) (.t 33), none, none, []⟩]))
 (.region 0 [oM 22 4,
 oP 23 (.bin .add (.t 22) (.c (.int .i64 1))),
 oM 4 23]))))))
 (.seq (.region 0 [oL 35 true 8 3,
 ⟨none, .store 8 (.t 2) (.t 35), none, none, []⟩])
 (.ret))))⟩
def f34 : AFn := ⟨12, [.cell true 3 2],
 .seq (.region 0 [oQ 1 (.box (.t 0)),
 oQ 2 (.alloc [.int .i64 0, .nils, .int .i64 0])])
 (.seq (.region 2 [oF 3 0 1,
 ⟨(some 4), .load false 1 (.t 3), none, none, [0, 1]⟩,
 ⟨(some 5), .buildSlice 1 0 [.int .i64 0] [], none, (some 0), []⟩,
 oF 6 1 1,
 ⟨(some 7), .load false 1 (.t 6), none, none, [0, 1]⟩,
 ⟨(some 8), .append true 1 8 (.t 5) (.t 7), none, (some 1), []⟩,
 oF 9 2 1,
 ⟨(some 10), .load false 1 (.t 9), none, none, [0, 1]⟩,
 oP 11 (.build [.int .i64 0, .nils, .int .i64 0] [(0, 1, (.t 4)), (1, 1, (.t 8)), (2, 1, (.t 10))]),
 ⟨none, .store 3 (.t 2) (.t 11), none, none, []⟩])
 (.ret))⟩
def f35 : AFn := ⟨26, [.tmp 4],
 .seq (.region 0 [oP 4 (.move (.c (.bool false)))])
 (.seq (.seq (.region 0 [oM 6 0,
 oP 7 (.lenS (.t 6)),
 oM 8 1,
 oP 9 (.lenS (.t 8)),
 oP 10 (.bin .neq (.t 7) (.t 9))])
 (.cond (.t 10) (.seq (.region 0 [oP 4 (.move (.c (.bool false)))])
 (.ret))
 (.skip)))
 (.seq (.seq (.region 0 [oC 5 0])
 (.block 0 (.loop (.seq (.seq (.region 0 [oM 11 5,
 oM 12 0,
 oP 13 (.lenS (.t 12)),
 oP 14 (.bin .lss (.t 11) (.t 13))])
 (.cond (.t 14) (.skip)
 (.exit 0)))
 (.seq (.block 1 (.seq (.region 0 [oM 17 0,
 oM 18 5,
 oD 19 1 17 18,
 oL 20 false 1 19,
 oM 21 1,
 oM 22 5,
 oD 23 1 21 22,
 oL 24 false 1 23,
 oP 25 (.bin .neq (.t 20) (.t 24))])
 (.cond (.t 25) (.seq (.region 0 [oP 4 (.move (.c (.bool false)))])
 (.ret))
 (.skip))))
 (.region 0 [oM 15 5,
 oP 16 (.bin .add (.t 15) (.c (.int .i64 1))),
 oM 5 16]))))))
 (.seq (.region 0 [oP 4 (.move (.c (.bool true)))])
 (.ret))))⟩
def f37 : AFn := ⟨34, [.tmp 2],
 .seq (.region 0 [oQ 1 (.box (.t 0)),
 oP 2 (.move (.c (.bool false)))])
 (.seq (.seq (.region 0 [oF 4 0 1,
 oL 5 true 4 4,
 oQ 6 (.call 1 73 [(.t 5)]),
 oM 7 6,
 oG 8 7 false (.fieldAddr 4 (.t 1)),
 ⟨(some 9), .load false 1 (.t 8), (some (7, false)), none, []⟩,
 oG 10 7 false (.lenS (.t 9)),
 oG 11 7 false (.bin .gtr (.t 10) (.c (.int .i64 40))),
 oP 12 (.pick (.t 7) (.c (.bool true)) (.t 11)),
 oM 13 12,
 oG 14 13 false (.fieldAddr 7 (.t 1)),
 ⟨(some 15), .load false 1 (.t 14), (some (13, false)), none, []⟩,
 oG 16 13 false (.lenS (.t 15)),
 oG 17 13 false (.bin .gtr (.t 16) (.c (.int .i64 40))),
 oP 18 (.pick (.t 13) (.c (.bool true)) (.t 17))])
 (.cond (.t 18) (.seq (.region 0 [oP 2 (.move (.c (.bool true)))])
 (.ret))
 (.skip)))
 (.seq (.seq (.region 0 [oC 3 0])
 (.block 0 (.loop (.seq (.seq (.region 0 [oM 19 3,
 oF 20 7 1,
 oL 21 false 1 20,
 oP 22 (.lenS (.t 21)),
 oP 23 (.bin .lss (.t 19) (.t 22))])
 (.cond (.t 23) (.skip)
 (.exit 0)))
 (.seq (.block 1 (.seq (.region 0 [oF 26 7 1,
 oL 27 false 1 26,
 oM 28 3,
 oD 29 3 27 28,
 oF 30 1 29,
 oL 31 false 1 30,
 oP 32 (.lenS (.t 31)),
 oP 33 (.bin .gtr (.t 32) (.c (.int .i64 40)))])
 (.cond (.t 33) (.seq (.region 0 [oP 2 (.move (.c (.bool true)))])
 (.ret))
 (.skip))))
 (.region 0 [oM 24 3,
 oP 25 (.bin .add (.t 24) (.c (.int .i64 1))),
 oM 3 25]))))))
 (.seq (.region 0 [oP 2 (.move (.c (.bool false)))])
 (.ret))))⟩
def f38 : AFn := ⟨6, [.tmp 2],
 .seq (.region 0 [oQ 1 (.box (.t 0)),
 oC 2 0])
 (.seq (.seq (.region 0 [oL 3 true 8 1,
 oQ 4 (.call 1 74 [(.t 3)]),
 oP 5 (.un .not (.t 4))])
 (.cond (.t 5) (.seq (.region 0 [oC 2 90])
 (.ret))
 (.skip)))
 (.seq (.region 0 [oC 2 0])
 (.ret)))⟩
def f39 : AFn := ⟨73, [.tmp 2],
 .seq (.region 0 [oQ 1 (.box (.t 0)),
 oC 2 0])
 (.seq (.seq (.region 0 [oF 5 0 1,
 oL 6 true 4 5,
 oQ 7 (.call 1 75 [(.t 6)]),
 oP 8 (.bin .neq (.t 7) (.c (.int .i64 0))),
 oM 9 8,
 oG 10 9 false (.fieldAddr 0 (.t 1)),
 ⟨(some 11), .load true 4 (.t 10), (some (9, false)), none, []⟩,
 oG 12 9 false (.fieldAddr 4 (.t 1)),
 ⟨(some 13), .load false 1 (.t 12), (some (9, false)), none, []⟩,
 ⟨(some 14), .call 1 70 [(.t 11), (.t 13)], (some (9, false)), none, []⟩,
 oG 15 9 false (.un .not (.t 14)),
 oP 16 (.pick (.t 9) (.c (.bool true)) (.t 15))])
 (.cond (.t 16) (.seq (.region 0 [oC 2 90])
 (.ret))
 (.skip)))
 (.seq (.seq (.region 0 [oF 17 5 1,
 oL 18 false 1 17,
 oQ 19 (.call 1 68 [(.t 18), (.c (.int .i64 0)), (.c (.int .i64 20))]),
 oP 20 (.un .not (.t 19)),
 oM 21 20,
 oG 22 21 false (.fieldAddr 6 (.t 1)),
 ⟨(some 23), .load false 1 (.t 22), (some (21, false)), none, []⟩,
 ⟨(some 24), .call 1 68 [(.t 23), (.c (.int .i64 0)), (.c (.int .i64 4))], (some (21, false)), none, []⟩,
 oG 25 21 false (.un .not (.t 24)),
 oP 26 (.pick (.t 21) (.c (.bool true)) (.t 25)),
 oM 27 26,
 oG 28 27 false (.fieldAddr 7 (.t 1)),
 ⟨(some 29), .load false 1 (.t 28), (some (27, false)), none, []⟩,
 oG 30 27 false (.lenS (.t 29)),
 oG 31 27 false (.bin .gtr (.t 30) (.c (.int .i64 8))),
 oP 32 (.pick (.t 27) (.c (.bool true)) (.t 31))])
 (.cond (.t 32) (.seq (.region 0 [oC 2 90])
 (.ret))
 (.skip)))
 (.seq (.seq (.region 0 [oC 3 0])
 (.block 0 (.loop (.seq (.seq (.region 0 [oM 33 3,
 oF 34 7 1,
 oL 35 false 1 34,
 oP 36 (.lenS (.t 35)),
 oP 37 (.bin .lss (.t 33) (.t 36))])
 (.cond (.t 37) (.skip)
 (.exit 0)))
 (.seq (.block 1 (.seq (.region 0 [oF 40 7 1,
 oL 41 false 1 40,
 oM 42 3,
 oD 43 3 41 42,
 oL 44 true 3 43,
 oQ 4 (.alloc [.int .i64 0, .nils, .int .i64 0]),
 ⟨none, .store 3 (.t 4) (.t 44), none, none, []⟩])
 (.seq (.region 0 [oL 45 true 8 1,
 oF 46 0 4,
 oL 47 false 1 46,
 oQ 48 (.call 1 27 [(.t 45), (.t 47)]),
 oP 49 (.un .not (.t 48)),
 oM 50 49,
 oG 51 50 false (.fieldAddr 1 (.t 4)),
 ⟨(some 52), .load false 1 (.t 51), (some (50, false)), none, []⟩,
 oG 53 50 false (.lenS (.t 52)),
 oG 54 50 false (.bin .eql (.t 53) (.c (.int .i64 0))),
 oP 55 (.pick (.t 50) (.c (.bool true)) (.t 54)),
 oM 56 55,
 oG 57 56 false (.fieldAddr 1 (.t 4)),
 ⟨(some 58), .load false 1 (.t 57), (some (56, false)), none, []⟩,
 oG 59 56 false (.fieldAddr 0 (.t 1)),
 oG 60 56 false (.fieldAddr 3 (.t 59)),
 ⟨(some 61), .load false 1 (.t 60), (some (56, false)), none, []⟩,
 oG 62 56 false (.lenS (.t 61)),
 oG 63 56 false (.bin .sub (.t 62) (.c (.int .i64 1))),
 ⟨(some 64), .call 1 76 [(.t 58), (.c (.int .i64 0)), (.t 63)], (some (56, false)), none, []⟩,
 oG 65 56 false (.un .not (.t 64)),
 oP 66 (.pick (.t 56) (.c (.bool true)) (.t 65)),
 oM 67 66,
 oG 68 67 false (.fieldAddr 2 (.t 4)),
 ⟨(some 69), .load false 1 (.t 68), (some (67, false)), none, []⟩,
 ⟨(some 70), .call 1 68 [(.t 69), (.c (.int .i64 0)), (.c (.int .i64 99))], (some (67, false)), none, []⟩,
 oG 71 67 false (.un .not (.t 70)),
 oP 72 (.pick (.t 67) (.c (.bool true)) (.t 71))])
 (.cond (.t 72) (.seq (.region 0 [oC 2 90])
 (.ret))
 (.skip)))))
 (.region 0 [oM 38 3,
 oP 39 (.bin .add (.t 38) (.c (.int .i64 1))),
 oM 3 39]))))))
 (.seq (.region 0 [oC 2 0])
 (.ret)))))⟩
def f40 : AFn := ⟨13, [.tmp 2, .tmp 3],
 .seq (.region 0 [oQ 1 (.box (.t 0)),
 oP 2 (.move (.c (.nils))),
 oC 3 0])
 (.seq (.seq (.region 0 [oL 5 true 8 1,
 oQ 6 (.call 1 38 [(.t 5)]),
 oM 4 6])
 (.seq (.region 0 [oM 7 4,
 oP 8 (.bin .neq (.t 7) (.c (.int .i64 0)))])
 (.cond (.t 8) (.seq (.region 0 [oM 9 4,
 oP 2 (.move (.c (.nils))),
 oM 3 9])
 (.ret))
 (.skip))))
 (.seq (.region 0 [oL 10 true 8 1,
 oQ 11 (.call 2 61 [(.t 10)]),
 oQ 12 (.call 0 77 [(.t 11)]),
 oM 2 12,
 oC 3 0])
 (.ret)))⟩
def f44 : AFn := ⟨13, [.tmp 2, .tmp 3],
 .seq (.region 0 [oQ 1 (.box (.t 0)),
 oC 2 0,
 oC 3 0])
 (.seq (.seq (.region 0 [oL 5 true 8 1,
 oQ 6 (.call 1 38 [(.t 5)]),
 oM 4 6])
 (.seq (.region 0 [oM 7 4,
 oP 8 (.bin .neq (.t 7) (.c (.int .i64 0)))])
 (.cond (.t 8) (.seq (.region 0 [oM 9 4,
 oC 2 0,
 oM 3 9])
 (.ret))
 (.skip))))
 (.seq (.region 0 [oL 10 true 8 1,
 oQ 11 (.call 2 61 [(.t 10)]),
 oQ 12 (.call 0 79 [(.t 11)]),
 oM 2 12,
 oC 3 0])
 (.ret)))⟩
def f46 : AFn := ⟨19, [.tmp 2, .tmp 3],
 .seq (.region 0 [oQ 1 (.box (.t 0)),
 oP 2 (.move (.c (.nils))),
 oC 3 0])
 (.seq (.seq (.region 0 [oL 7 true 8 1,
 oQ 8 (.call 1 38 [(.t 7)]),
 oM 4 8])
 (.seq (.region 0 [oM 9 4,
 oP 10 (.bin .neq (.t 9) (.c (.int .i64 0)))])
 (.cond (.t 10) (.seq (.region 0 [oM 11 4,
 oP 2 (.move (.c (.nils))),
 oM 3 11])
 (.ret))
 (.skip))))
 (.seq (.region 0 [oL 13 true 8 1,
 oQ 14 (.call 2 61 [(.t 13)]),
 oQ 15 (.call 3 81 [(.t 14), (.c (.fn 82 [] []))]),
 oM 12 15,
 oE 16 12 0,
 oE 17 12 1,
 oM 5 16,
 oM 6 17])
 (.seq (.region 0 [oM 18 5,
 oM 2 18,
 oC 3 0])
 (.ret))))⟩
def f49 : AFn := ⟨19, [.tmp 4, .tmp 5],
 .seq (.region 0 [oQ 2 (.box (.t 0)),
 oC 4 0,
 oC 5 0])
 (.seq (.seq (.region 0 [oL 7 true 8 2,
 oM 8 1,
 oQ 9 (.call 1 63 [(.t 7), (.t 8)]),
 oM 6 9])
 (.seq (.region 0 [oM 10 6,
 oP 11 (.bin .neq (.t 10) (.c (.int .i64 0)))])
 (.cond (.t 11) (.seq (.region 0 [oM 12 6,
 oC 4 0,
 oM 5 12])
 (.ret))
 (.skip))))
 (.seq (.region 0 [oL 13 true 8 2,
 oQ 14 (.call 2 61 [(.t 13)]),
 oM 15 1,
 oQ 16 (.call 3 88 [(.t 14), (.t 15)]),
 oE 17 16 0,
 oE 18 16 1,
 oM 4 17,
 oM 5 18])
 (.ret)))⟩
def f55 : AFn := ⟨13, [.tmp 2, .tmp 3],
 .seq (.region 0 [oQ 1 (.box (.t 0)),
 oC 2 0,
 oC 3 0])
 (.seq (.seq (.region 0 [oL 5 true 8 1,
 oQ 6 (.call 1 38 [(.t 5)]),
 oM 4 6])
 (.seq (.region 0 [oM 7 4,
 oP 8 (.bin .neq (.t 7) (.c (.int .i64 0)))])
 (.cond (.t 8) (.seq (.region 0 [oM 9 4,
 oC 2 0,
 oM 3 9])
 (.ret))
 (.skip))))
 (.seq (.region 0 [oL 10 true 8 1,
 oQ 11 (.call 2 61 [(.t 10)]),
 oQ 12 (.call 0 94 [(.t 11)]),
 oM 2 12,
 oC 3 0])
 (.ret)))⟩
def f60 : AFn := ⟨27, [.cell true 8 0, .cell true 8 1],
 .seq (.region 0 [oQ 0 (.alloc [.nils, .int .i64 0, .nils, .nils, .nils, .int .i64 0, .int .i64 0, .nils]),
 oQ 1 (.alloc [.nils, .int .i64 0, .nils, .nils, .nils, .int .i64 0, .int .i64 0, .nils])])
 (.seq (.region 0 [oP 3 (.build [.int .i64 0, .int .i64 0] [(0, 1, (.c (.int .i64 3))), (1, 1, (.c (.int .i64 10)))]),
 oP 4 (.build [.int .i64 0, .int .i64 0] [(0, 1, (.c (.int .i64 5))), (1, 1, (.c (.int .i64 4)))]),
 oQ 5 (.litS 2 2 [.int .i64 0, .int .i64 0] [(0, (.t 3)), (1, (.t 4))]),
 oP 6 (.build [.int .i64 0, .int .i64 0] [(0, 1, (.c (.int .i64 0))), (1, 1, (.c (.int .i64 10)))]),
 oP 7 (.build [.int .i64 0, .int .i64 0] [(0, 1, (.c (.int .i64 0))), (1, 1, (.c (.int .i64 15)))]),
 oP 8 (.build [.int .i64 0, .int .i64 0] [(0, 1, (.c (.int .i64 1))), (1, 1, (.c (.int .i64 8)))]),
 oQ 9 (.litS 2 3 [.int .i64 0, .int .i64 0] [(0, (.t 6)), (1, (.t 7)), (2, (.t 8))]),
 oQ 10 (.litS 1 2 [.int .i64 0] [(0, (.c (.int .i64 40))), (1, (.c (.int .i64 20)))]),
 oP 11 (.build [.nils, .int .i64 0, .nils, .nils] [(0, 1, (.t 5)), (1, 1, (.c (.int .i64 2))), (2, 1, (.t 9)), (3, 1, (.t 10))]),
 oQ 2 (.alloc [.nils, .int .i64 0, .nils, .nils]),
 ⟨none, .store 4 (.t 2) (.t 11), none, none, []⟩])
 (.seq (.region 0 [oL 12 true 4 2,
 oQ 13 (.litS 1 3 [.int .i64 0] [(0, (.c (.int .i64 0))), (1, (.c (.int .i64 0))), (2, (.c (.int .i64 1)))]),
 oQ 14 (.litS 1 1 [.int .i64 0] [(0, (.c (.int .i64 0)))]),
 oP 15 (.build [.int .i64 0, .nils, .int .i64 0] [(0, 1, (.c (.int .i64 0))), (1, 1, (.t 14)), (2, 1, (.c (.int .i64 30)))]),
 oQ 16 (.litS 1 2 [.int .i64 0] [(0, (.c (.int .i64 0))), (1, (.c (.int .i64 1)))]),
 oP 17 (.build [.int .i64 0, .nils, .int .i64 0] [(0, 1, (.c (.int .i64 1))), (1, 1, (.t 16)), (2, 1, (.c (.int .i64 45)))]),
 oQ 18 (.litS 1 1 [.int .i64 0] [(0, (.c (.int .i64 1)))]),
 oP 19 (.build [.int .i64 0, .nils, .int .i64 0] [(0, 1, (.c (.int .i64 2))), (1, 1, (.t 18)), (2, 1, (.c (.int .i64 12)))]),
 oQ 20 (.litS 1 1 [.int .i64 0] [(0, (.c (.int .i64 1)))]),
 oP 21 (.build [.int .i64 0, .nils, .int .i64 0] [(0, 1, (.c (.int .i64 0))), (1, 1, (.t 20)), (2, 1, (.c (.int .i64 20)))]),
 oQ 22 (.litS 3 4 [.int .i64 0, .nils, .int .i64 0] [(0, (.t 15)), (1, (.t 17)), (2, (.t 19)), (3, (.t 21))]),
 oP 23 (.build [.nils, .int .i64 0, .nils, .nils, .nils, .int .i64 0, .int .i64 0, .nils] [(0, 4, (.t 12)), (4, 1, (.t 13)), (5, 1, (.c (.int .i64 10))), (6, 1, (.c (.int .i64 3))), (7, 1, (.t 22))]),
 ⟨none, .store 8 (.t 0) (.t 23), none, none, []⟩])
 (.seq (.region 0 [oL 24 true 8 0,
 oL 25 true 8 0,
 oQ 26 (.call 1 93 [(.t 25), (.c (.int .i64 5))]),
 ⟨none, .store 8 (.t 0) (.t 24), none, none, []⟩,
 ⟨none, .store 8 (.t 1) (.t 26), none, none, []⟩])
 (.ret))))⟩
def f61 : AFn := ⟨11, [.cell true 13 2],
 .seq (.region 0 [oQ 1 (.box (.t 0)),
 oQ 2 (.alloc [.nils, .int .i64 0, .nils, .nils, .nils, .int .i64 0, .int .i64 0, .nils, .bool false, .bool false, .bool false, .bool false, .nilm])])
 (.seq (.region 0 [oL 3 true 8 1,
 oQ 4 (.makeMap (.a [none, none, none, none])),
 oP 5 (.build [.nils, .int .i64 0, .nils, .nils, .nils, .int .i64 0, .int .i64 0, .nils, .bool false, .bool false, .bool false, .bool false, .nilm] [(0, 8, (.t 3)), (12, 1, (.t 4))]),
 oF 6 4 1,
 oL 7 false 1 6,
 oF 8 5 1,
 oL 9 false 1 8,
 oQ 10 (.call 3 91 [(.t 5), (.t 7), (.t 9)]),
 ⟨none, .store 13 (.t 2) (.t 10), none, none, []⟩])
 (.ret))⟩
def f63 : AFn := ⟨17, [.tmp 4],
 .seq (.region 0 [oQ 2 (.box (.t 0)),
 oC 4 0])
 (.seq (.region 0 [oL 6 true 8 2,
 oQ 7 (.call 1 38 [(.t 6)]),
 oM 5 7])
 (.seq (.seq (.region 0 [oM 8 5,
 oP 9 (.bin .eql (.t 8) (.c (.int .i64 0))),
 oM 10 9,
 ⟨(some 11), .load true 8 (.t 2), (some (10, true)), none, []⟩,
 oN 12 10 true 1,
 ⟨(some 13), .call 1 99 [(.t 11), (.t 12)], (some (10, true)), none, []⟩,
 oG 14 10 true (.un .not (.t 13)),
 oP 15 (.pick (.t 10) (.t 14) (.c (.bool false)))])
 (.cond (.t 15) (.seq (.region 0 [oC 4 1])
 (.ret))
 (.skip)))
 (.seq (.region 0 [oM 16 5,
 oM 4 16])
 (.ret))))⟩
def f64 : AFn := ⟨20, [.tmp 4, .tmp 5],
 .seq (.region 0 [oQ 2 (.box (.t 0)),
 oQ 3 (.box (.t 1)),
 oC 4 0,
 oC 5 0])
 (.seq (.region 0 [oL 7 true 13 2,
 oL 8 false 1 3,
 oQ 9 (.call 3 81 [(.t 7), (.t 8)]),
 oM 6 9,
 oE 10 6 0,
 oE 11 6 1,
 oM 4 11])
 (.seq (.region 0 [oL 13 true 13 2,
 oP 14 (.mkFn 101 [] [(.t 3)]),
 oQ 15 (.call 3 81 [(.t 13), (.t 14)]),
 oM 12 15,
 oE 16 12 0,
 oE 17 12 1,
 oM 5 17])
 (.seq (.region 0 [oM 18 4,
 oM 19 5,
 oM 4 18,
 oM 5 19])
 (.ret))))⟩
def f65 : AFn := ⟨4, [.tmp 2],
 .seq (.region 0 [oQ 1 (.box (.t 0)),
 oP 2 (.move (.c (.nilf)))])
 (.seq (.region 0 [oP 3 (.mkFn 102 [] [(.t 1)]),
 oM 2 3])
 (.ret))⟩
def f66 : AFn := ⟨44, [.tmp 4],
 .seq (.region 0 [oQ 2 (.box (.t 0)),
 oQ 3 (.box (.t 1)),
 oC 4 0])
 (.seq (.region 0 [oP 12 (.mkFn 104 [] [(.t 2), (.t 3)]),
 oQ 5 (.alloc [.nilf]),
 ⟨none, .store 1 (.t 5) (.t 12), none, none, []⟩])
 (.seq (.region 0 [oL 14 true 13 2,
 oQ 15 (.call 3 81 [(.t 14), (.c (.fn 82 [] []))]),
 oM 13 15,
 oE 16 13 0,
 oE 17 13 1,
 oM 6 16,
 oM 7 17])
 (.seq (.region 0 [oM 18 6,
 oL 19 false 1 5,
 oQ 20 (.call 3 105 [(.t 18), (.t 19)]),
 oM 8 20])
 (.seq (.seq (.region 0 [oM 21 8,
 oP 22 (.bin .lss (.t 21) (.c (.int .i64 0)))])
 (.cond (.t 22) (.seq (.region 0 [oC 4 0])
 (.ret))
 (.skip)))
 (.seq (.region 0 [oM 23 7,
 oF 24 0 2,
 oF 25 7 24,
 oL 26 false 1 25,
 oM 27 6,
 oM 28 8,
 oD 29 1 27 28,
 oL 30 false 1 29,
 oD 31 3 26 30,
 oF 32 2 31,
 oL 33 false 1 32,
 oP 34 (.bin .sub (.t 23) (.t 33)),
 oM 9 34])
 (.seq (.region 0 [oL 36 true 13 2,
 oP 37 (.mkFn 106 [] [(.t 5)]),
 oQ 38 (.call 3 64 [(.t 36), (.t 37)]),
 oM 35 38,
 oE 39 35 0,
 oE 40 35 1,
 oM 10 39,
 oM 11 40])
 (.seq (.region 0 [oM 41 11,
 oM 42 9,
 oP 43 (.bin .sub (.t 41) (.t 42)),
 oM 4 43])
 (.ret))))))))⟩
def f67 : AFn := ⟨13, [.tmp 4],
 .seq (.region 0 [oQ 2 (.box (.t 0)),
 oP 4 (.move (.c (.bool false)))])
 (.seq (.region 0 [oM 5 1,
 oP 6 (.bin .leq (.c (.int .i64 0)) (.t 5)),
 oM 7 6,
 oN 8 7 true 1,
 oG 9 7 true (.fieldAddr 6 (.t 2)),
 ⟨(some 10), .load false 1 (.t 9), (some (7, true)), none, []⟩,
 oG 11 7 true (.bin .lss (.t 8) (.t 10)),
 oP 12 (.pick (.t 7) (.t 11) (.c (.bool false))),
 oM 4 12])
 (.ret))⟩
def f68 : AFn := ⟨11, [.tmp 6],
 .seq (.region 0 [oP 6 (.move (.c (.bool false)))])
 (.seq (.region 0 [oM 7 0,
 oM 8 1,
 oM 9 2,
 oQ 10 (.call 1 23 [(.t 7), (.t 8), (.t 9)]),
 oM 6 10])
 (.ret))⟩
def f69 : AFn := ⟨25, [.tmp 2],
 .seq (.region 0 [oQ 1 (.box (.t 0)),
 oP 2 (.move (.c (.bool false)))])
 (.seq (.seq (.region 0 [oL 5 true 4 1,
 oQ 6 (.call 1 73 [(.t 5)])])
 (.cond (.t 6) (.seq (.region 0 [oP 2 (.move (.c (.bool true)))])
 (.ret))
 (.skip)))
 (.seq (.seq (.region 0 [oL 7 true 4 1,
 oQ 8 (.call 1 75 [(.t 7)]),
 oP 9 (.bin .neq (.t 8) (.c (.int .i64 0)))])
 (.cond (.t 9) (.seq (.region 0 [oP 2 (.move (.c (.bool false)))])
 (.ret))
 (.skip)))
 (.seq (.region 0 [oC 3 1])
 (.seq (.seq (.region 0 [oC 4 0])
 (.block 0 (.loop (.seq (.seq (.region 0 [oM 10 4,
 oF 11 2 1,
 oL 12 false 1 11,
 oP 13 (.lenS (.t 12)),
 oP 14 (.bin .lss (.t 10) (.t 13))])
 (.cond (.t 14) (.skip)
 (.exit 0)))
 (.seq (.block 1 (.region 0 [oM 17 3,
 oF 18 3 1,
 oL 19 false 1 18,
 oP 20 (.lenS (.t 19)),
 oP 21 (.bin .add (.t 20) (.c (.int .i64 1))),
 oP 22 (.bin .mul (.t 17) (.t 21)),
 oM 3 22]))
 (.region 0 [oM 15 4,
 oP 16 (.bin .add (.t 15) (.c (.int .i64 1))),
 oM 4 16]))))))
 (.seq (.region 0 [oM 23 3,
 oP 24 (.bin .gtr (.t 23) (.c (.int .i64 700))),
 oM 2 24])
 (.ret))))))⟩
def f70 : AFn := ⟨28, [.tmp 4],
 .seq (.region 0 [oQ 2 (.box (.t 0)),
 oP 4 (.move (.c (.bool false)))])
 (.seq (.seq (.region 0 [oM 6 1,
 oP 7 (.lenS (.t 6)),
 oF 8 2 2,
 oL 9 false 1 8,
 oP 10 (.lenS (.t 9)),
 oP 11 (.bin .neq (.t 7) (.t 10))])
 (.cond (.t 11) (.seq (.region 0 [oP 4 (.move (.c (.bool false)))])
 (.ret))
 (.skip)))
 (.seq (.seq (.region 0 [oC 5 0])
 (.block 0 (.loop (.seq (.seq (.region 0 [oM 12 5,
 oM 13 1,
 oP 14 (.lenS (.t 13)),
 oP 15 (.bin .lss (.t 12) (.t 14))])
 (.cond (.t 15) (.skip)
 (.exit 0)))
 (.seq (.block 1 (.seq (.region 0 [oL 18 true 4 2,
 oM 19 1,
 oM 20 5,
 oD 21 1 19 20,
 oL 22 false 1 21,
 oQ 23 (.call 1 108 [(.t 18), (.t 22)]),
 oP 24 (.un .not (.t 23))])
 (.cond (.t 24) (.seq (.region 0 [oP 4 (.move (.c (.bool false)))])
 (.ret))
 (.skip))))
 (.region 0 [oM 16 5,
 oP 17 (.bin .add (.t 16) (.c (.int .i64 1))),
 oM 5 17]))))))
 (.seq (.region 0 [oL 25 true 4 2,
 oM 26 1,
 oQ 27 (.call 1 109 [(.t 25), (.t 26)]),
 oM 4 27])
 (.ret))))⟩
def f71 : AFn := ⟨23, [.tmp 2],
 .seq (.region 0 [oQ 1 (.box (.t 0)),
 oP 2 (.move (.c (.nils)))])
 (.seq (.region 0 [oQ 3 (.alloc [.nils])])
 (.seq (.region 0 [oQ 4 (.alloc [.int .i64 0]),
 ⟨none, .store 1 (.t 4) (.c (.int .i64 (-1))), none, none, []⟩])
 (.seq (.seq (.region 0 [oL 7 true 13 1,
 oP 8 (.mkFn 110 [(.t 7)] [])])
 (.block 0 (.rangeFunc (.t 8) [9] (.region 0 [oM 5 9])
 (.block 1 (.seq (.region 0 [oL 10 true 13 1,
 oM 11 5,
 oF 12 0 1,
 oF 13 5 12,
 oL 14 false 1 13,
 oQ 15 (.call 3 91 [(.t 10), (.t 11), (.t 14)]),
 oQ 16 (.call 0 79 [(.t 15)]),
 oM 6 16])
 (.seq (.region 0 [oM 17 6,
 oL 18 false 1 4,
 oP 19 (.bin .gtr (.t 17) (.t 18))])
 (.cond (.t 19) (.region 0 [oM 20 5,
 oM 21 6,
 ⟨none, .store 1 (.t 3) (.t 20), none, none, []⟩,
 ⟨none, .store 1 (.t 4) (.t 21), none, none, []⟩])
 (.skip))))))))
 (.seq (.region 0 [oL 22 false 1 3,
 oM 2 22])
 (.ret)))))⟩
def f72 : AFn := ⟨21, [.cell true 4 2],
 .seq (.region 0 [oQ 1 (.box (.t 0)),
 oQ 2 (.alloc [.nils, .int .i64 0, .nils, .nils])])
 (.seq (.region 0 [oL 4 true 4 1,
 oQ 3 (.alloc [.nils, .int .i64 0, .nils, .nils]),
 ⟨none, .store 4 (.t 3) (.t 4), none, none, []⟩])
 (.seq (.region 0 [oQ 5 (.buildSlice 2 0 [.int .i64 0, .int .i64 0] []),
 oF 6 0 1,
 oL 7 false 1 6,
 oQ 8 (.append false 2 16 (.t 5) (.t 7)),
 oF 9 0 3,
 ⟨none, .store 1 (.t 9) (.t 8), none, none, []⟩])
 (.seq (.region 0 [oQ 10 (.buildSlice 2 0 [.int .i64 0, .int .i64 0] []),
 oF 11 2 1,
 oL 12 false 1 11,
 oQ 13 (.append false 2 16 (.t 10) (.t 12)),
 oF 14 2 3,
 ⟨none, .store 1 (.t 14) (.t 13), none, none, []⟩])
 (.seq (.region 0 [oQ 15 (.buildSlice 1 0 [.int .i64 0] []),
 oF 16 3 1,
 oL 17 false 1 16,
 oQ 18 (.append false 1 8 (.t 15) (.t 17)),
 oF 19 3 3,
 ⟨none, .store 1 (.t 19) (.t 18), none, none, []⟩])
 (.seq (.region 0 [oL 20 true 4 3,
 ⟨none, .store 4 (.t 2) (.t 20), none, none, []⟩])
 (.ret))))))⟩
def f73 : AFn := ⟨19, [.tmp 2],
 .seq (.region 0 [oQ 1 (.box (.t 0)),
 oP 2 (.move (.c (.bool false)))])
 (.seq (.region 0 [oF 3 0 1,
 oL 4 false 1 3,
 oP 5 (.lenS (.t 4)),
 oP 6 (.bin .gtr (.t 5) (.c (.int .i64 40))),
 oM 7 6,
 oG 8 7 false (.fieldAddr 2 (.t 1)),
 ⟨(some 9), .load false 1 (.t 8), (some (7, false)), none, []⟩,
 oG 10 7 false (.lenS (.t 9)),
 oG 11 7 false (.bin .gtr (.t 10) (.c (.int .i64 40))),
 oP 12 (.pick (.t 7) (.c (.bool true)) (.t 11)),
 oM 13 12,
 oG 14 13 false (.fieldAddr 3 (.t 1)),
 ⟨(some 15), .load false 1 (.t 14), (some (13, false)), none, []⟩,
 oG 16 13 false (.lenS (.t 15)),
 oG 17 13 false (.bin .gtr (.t 16) (.c (.int .i64 40))),
 oP 18 (.pick (.t 13) (.c (.bool true)) (.t 17)),
 oM 2 18])
 (.ret))⟩
def f74 : AFn := ⟨38, [.tmp 2],
 .seq (.region 0 [oQ 1 (.box (.t 0)),
 oP 2 (.move (.c (.bool false)))])
 (.seq (.region 0 [oP 6 (.mkFn 111 [] [(.t 1)]),
 oM 3 6])
 (.seq (.region 0 [oF 8 0 1,
 oL 9 true 4 8,
 oF 10 4 1,
 oL 11 false 1 10,
 oQ 12 (.call 1 113 [(.t 9), (.t 11)]),
 oM 7 12,
 oE 13 7 0,
 oE 14 7 1,
 oM 4 13,
 oM 5 14])
 (.seq (.region 0 [oM 15 4,
 oM 16 15,
 oG 17 16 true (.fieldAddr 5 (.t 1)),
 ⟨(some 18), .load false 1 (.t 17), (some (16, true)), none, []⟩,
 ⟨(some 19), .call 1 90 [(.t 18), (.c (.int .i64 0)), (.c (.int .i64 20))], (some (16, true)), none, []⟩,
 oP 20 (.pick (.t 16) (.t 19) (.c (.bool false))),
 oM 21 20,
 oG 22 21 true (.fieldAddr 6 (.t 1)),
 ⟨(some 23), .load false 1 (.t 22), (some (21, true)), none, []⟩,
 ⟨(some 24), .call 1 90 [(.t 23), (.c (.int .i64 0)), (.c (.int .i64 4))], (some (21, true)), none, []⟩,
 oP 25 (.pick (.t 21) (.t 24) (.c (.bool false))),
 oM 26 25,
 oG 27 26 true (.fieldAddr 7 (.t 1)),
 ⟨(some 28), .load false 1 (.t 27), (some (26, true)), none, []⟩,
 oG 29 26 true (.lenS (.t 28)),
 oG 30 26 true (.bin .leq (.t 29) (.c (.int .i64 8))),
 oP 31 (.pick (.t 26) (.t 30) (.c (.bool false))),
 oM 32 31,
 oG 33 32 true (.fieldAddr 7 (.t 1)),
 ⟨(some 34), .load false 1 (.t 33), (some (32, true)), none, []⟩,
 oN 35 32 true 3,
 ⟨(some 36), .call 3 114 [(.t 34), (.t 35)], (some (32, true)), none, []⟩,
 oP 37 (.pick (.t 32) (.t 36) (.c (.bool false))),
 oM 2 37])
 (.ret))))⟩
def f75 : AFn := ⟨96, [.tmp 2],
 .seq (.region 0 [oQ 1 (.box (.t 0)),
 oC 2 0])
 (.seq (.seq (.region 0 [oF 6 0 1,
 oL 7 false 1 6,
 oP 8 (.lenS (.t 7)),
 oP 9 (.bin .gtr (.t 8) (.c (.int .i64 3))),
 oM 10 9,
 oG 11 10 false (.fieldAddr 1 (.t 1)),
 ⟨(some 12), .load false 1 (.t 11), (some (10, false)), none, []⟩,
 ⟨(some 13), .call 1 115 [(.t 12), (.c (.int .i64 0)), (.c (.int .i64 9))], (some (10, false)), none, []⟩,
 oG 14 10 false (.un .not (.t 13)),
 oP 15 (.pick (.t 10) (.c (.bool true)) (.t 14)),
 oM 16 15,
 oG 17 16 false (.fieldAddr 2 (.t 1)),
 ⟨(some 18), .load false 1 (.t 17), (some (16, false)), none, []⟩,
 oG 19 16 false (.lenS (.t 18)),
 oG 20 16 false (.bin .gtr (.t 19) (.c (.int .i64 6))),
 oP 21 (.pick (.t 16) (.c (.bool true)) (.t 20)),
 oM 22 21,
 oG 23 22 false (.fieldAddr 3 (.t 1)),
 ⟨(some 24), .load false 1 (.t 23), (some (22, false)), none, []⟩,
 oG 25 22 false (.lenS (.t 24)),
 oG 26 22 false (.bin .gtr (.t 25) (.c (.int .i64 4))),
 oP 27 (.pick (.t 22) (.c (.bool true)) (.t 26))])
 (.cond (.t 27) (.seq (.region 0 [oC 2 80])
 (.ret))
 (.skip)))
 (.seq (.seq (.region 0 [oC 3 0])
 (.block 0 (.loop (.seq (.seq (.region 0 [oM 28 3,
 oF 29 0 1,
 oL 30 false 1 29,
 oP 31 (.lenS (.t 30)),
 oP 32 (.bin .lss (.t 28) (.t 31))])
 (.cond (.t 32) (.skip)
 (.exit 0)))
 (.seq (.block 1 (.seq (.region 0 [oF 35 0 1,
 oL 36 false 1 35,
 oM 37 3,
 oD 38 2 36 37,
 oF 39 0 38,
 oL 40 false 1 39,
 oQ 41 (.call 1 115 [(.t 40), (.c (.int .i64 0)), (.c (.int .i64 9))]),
 oP 42 (.un .not (.t 41)),
 oM 43 42,
 oG 44 43 false (.fieldAddr 0 (.t 1)),
 ⟨(some 45), .load false 1 (.t 44), (some (43, false)), none, []⟩,
 oN 46 43 false 3,
 oG 47 43 false (.idxSl 2 (.t 45) (.t 46)),
 oG 48 43 false (.fieldAddr 1 (.t 47)),
 ⟨(some 49), .load false 1 (.t 48), (some (43, false)), none, []⟩,
 ⟨(some 50), .call 1 115 [(.t 49), (.c (.int .i64 0)), (.c (.int .i64 20))], (some (43, false)), none, []⟩,
 oG 51 43 false (.un .not (.t 50)),
 oP 52 (.pick (.t 43) (.c (.bool true)) (.t 51))])
 (.cond (.t 52) (.seq (.region 0 [oC 2 80])
 (.ret))
 (.skip))))
 (.region 0 [oM 33 3,
 oP 34 (.bin .add (.t 33) (.c (.int .i64 1))),
 oM 3 34]))))))
 (.seq (.seq (.region 0 [oC 4 0])
 (.block 2 (.loop (.seq (.seq (.region 0 [oM 53 4,
 oF 54 2 1,
 oL 55 false 1 54,
 oP 56 (.lenS (.t 55)),
 oP 57 (.bin .lss (.t 53) (.t 56))])
 (.cond (.t 57) (.skip)
 (.exit 2)))
 (.seq (.block 3 (.seq (.region 0 [oF 60 2 1,
 oL 61 false 1 60,
 oM 62 4,
 oD 63 2 61 62,
 oF 64 0 63,
 oL 65 false 1 64,
 oF 66 0 1,
 oL 67 false 1 66,
 oP 68 (.lenS (.t 67)),
 oP 69 (.bin .sub (.t 68) (.c (.int .i64 1))),
 oQ 70 (.call 1 115 [(.t 65), (.c (.int .i64 0)), (.t 69)]),
 oP 71 (.un .not (.t 70)),
 oM 72 71,
 oG 73 72 false (.fieldAddr 2 (.t 1)),
 ⟨(some 74), .load false 1 (.t 73), (some (72, false)), none, []⟩,
 oN 75 72 false 4,
 oG 76 72 false (.idxSl 2 (.t 74) (.t 75)),
 oG 77 72 false (.fieldAddr 1 (.t 76)),
 ⟨(some 78), .load false 1 (.t 77), (some (72, false)), none, []⟩,
 ⟨(some 79), .call 1 115 [(.t 78), (.c (.int .i64 0)), (.c (.int .i64 40))], (some (72, false)), none, []⟩,
 oG 80 72 false (.un .not (.t 79)),
 oP 81 (.pick (.t 72) (.c (.bool true)) (.t 80))])
 (.cond (.t 81) (.seq (.region 0 [oC 2 80])
 (.ret))
 (.skip))))
 (.region 0 [oM 58 4,
 oP 59 (.bin .add (.t 58) (.c (.int .i64 1))),
 oM 4 59]))))))
 (.seq (.seq (.region 0 [oC 5 0])
 (.block 4 (.loop (.seq (.seq (.region 0 [oM 82 5,
 oF 83 3 1,
 oL 84 false 1 83,
 oP 85 (.lenS (.t 84)),
 oP 86 (.bin .lss (.t 82) (.t 85))])
 (.cond (.t 86) (.skip)
 (.exit 4)))
 (.seq (.block 5 (.seq (.region 0 [oF 89 3 1,
 oL 90 false 1 89,
 oM 91 5,
 oD 92 1 90 91,
 oL 93 false 1 92,
 oQ 94 (.call 1 115 [(.t 93), (.c (.int .i64 0)), (.c (.int .i64 99))]),
 oP 95 (.un .not (.t 94))])
 (.cond (.t 95) (.seq (.region 0 [oC 2 80])
 (.ret))
 (.skip))))
 (.region 0 [oM 87 5,
 oP 88 (.bin .add (.t 87) (.c (.int .i64 1))),
 oM 5 88]))))))
 (.seq (.region 0 [oC 2 0])
 (.ret))))))⟩
def f76 : AFn := ⟨38, [.tmp 6],
 .seq (.region 0 [oP 6 (.move (.c (.bool false)))])
 (.seq (.seq (.region 0 [oC 7 0])
 (.block 0 (.loop (.seq (.seq (.region 0 [oM 8 7,
 oM 9 0,
 oP 10 (.lenS (.t 9)),
 oP 11 (.bin .lss (.t 8) (.t 10))])
 (.cond (.t 11) (.skip)
 (.exit 0)))
 (.seq (.block 1 (.seq (.region 0 [oM 14 0,
 oM 15 7,
 oD 16 1 14 15,
 oL 17 false 1 16,
 oM 18 1,
 oM 19 2,
 oQ 20 (.call 1 23 [(.t 17), (.t 18), (.t 19)]),
 oP 21 (.un .not (.t 20)),
 oM 22 21,
 oN 23 22 false 7,
 oG 24 22 false (.bin .gtr (.t 23) (.c (.int .i64 0))),
 oN 25 22 false 24,
 oN 26 25 true 0,
 oN 27 25 true 7,
 oG 28 25 true (.idxSl 1 (.t 26) (.t 27)),
 ⟨(some 29), .load false 1 (.t 28), (some (25, true)), none, []⟩,
 oN 30 25 true 0,
 oN 31 25 true 7,
 oG 32 25 true (.bin .sub (.t 31) (.c (.int .i64 1))),
 oG 33 25 true (.idxSl 1 (.t 30) (.t 32)),
 ⟨(some 34), .load false 1 (.t 33), (some (25, true)), none, []⟩,
 oG 35 25 true (.bin .leq (.t 29) (.t 34)),
 oG 36 22 false (.pick (.t 25) (.t 35) (.c (.bool false))),
 oP 37 (.pick (.t 22) (.c (.bool true)) (.t 36))])
 (.cond (.t 37) (.seq (.region 0 [oP 6 (.move (.c (.bool false)))])
 (.ret))
 (.skip))))
 (.region 0 [oM 12 7,
 oP 13 (.bin .add (.t 12) (.c (.int .i64 1))),
 oM 7 13]))))))
 (.seq (.region 0 [oP 6 (.move (.c (.bool true)))])
 (.ret)))⟩
def f77 : AFn := ⟨19, [.tmp 2],
 .seq (.region 0 [oQ 1 (.box (.t 0)),
 oP 2 (.move (.c (.nils)))])
 (.seq (.region 0 [oP 3 (.move (.c (.nils)))])
 (.seq (.seq (.region 0 [oF 6 8 1,
 oL 7 true 4 6,
 oC 8 0])
 (.block 0 (.loop (.seq (.region 0 [oP 9 (.bin .lss (.t 8) (.c (.int .i64 4)))])
 (.seq (.cond (.t 9) (.skip)
 (.exit 0))
 (.seq (.block 1 (.seq (.region 0 [oM 10 8,
 oP 11 (.idx false 4 1 (.t 7) (.t 8)),
 oM 4 10,
 oM 5 11])
 (.seq (.region 0 [oM 12 5])
 (.cond (.t 12) (.region 0 [oM 13 3,
 oM 14 4,
 oQ 15 (.litS 1 1 [.int .i64 0] [(0, (.t 14))]),
 oQ 16 (.append false 1 8 (.t 13) (.t 15)),
 oM 3 16])
 (.skip)))))
 (.region 0 [oP 17 (.bin .add (.t 8) (.c (.int .i64 1))),
 oM 8 17])))))))
 (.seq (.region 0 [oM 18 3,
 oM 2 18])
 (.ret))))⟩
def f79 : AFn := ⟨26, [.tmp 2],
 .seq (.region 0 [oQ 1 (.box (.t 0)),
 oC 2 0])
 (.seq (.region 0 [oF 6 12 1,
 oL 7 false 1 6,
 oF 8 8 1,
 oL 9 true 4 8,
 oQ 10 (.mapGet (.a [none, none, none, none]) (.int .i64 0) true (.t 7) (.t 9)),
 oM 5 10,
 oE 11 5 0,
 oE 12 5 1,
 oM 3 11,
 oM 4 12])
 (.seq (.seq (.region 0 [oM 13 4,
 oP 14 (.un .not (.t 13))])
 (.cond (.t 14) (.seq (.region 0 [oL 16 true 13 1,
 oQ 17 (.call 3 81 [(.t 16), (.c (.fn 82 [] []))]),
 oM 15 17,
 oE 18 15 0,
 oE 19 15 1,
 oM 3 19])
 (.region 0 [oF 20 12 1,
 oL 21 false 1 20,
 oF 22 8 1,
 oL 23 true 4 22,
 oM 24 3,
 ⟨none, .mapSet (.a [none, none, none, none]) (.t 21) (.t 23) (.t 24) [], none, none, []⟩]))
 (.skip)))
 (.seq (.region 0 [oM 25 3,
 oM 2 25])
 (.ret))))⟩
end Go.Proofs.YtfagcnokdnanpaaGreat.T
