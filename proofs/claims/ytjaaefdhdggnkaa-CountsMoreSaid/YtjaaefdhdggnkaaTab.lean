/-
The code of the seat's functions, as the abstract machine has it (printed by a tool of ours off the dump), and that each is what the compilation gives.
-/
import Derived.Test.YtjaaefdhdggnkaaAmY
import Derived.Test.YtjaaefdhdggnkaaRows
import Derived.Test.YtjaaefdhdggnkaaTabA
import Derived.Test.YtjaaefdhdggnkaaTabB
namespace Go.Proofs.Ytjaaefdhdggnkaa.T
open Go Go.Am
def mode (f h : Nat) : Nat :=
  let g := if h < 2000000 then h else h - 2000000
  if g = 1000001 then (if f ∈ [20, 22, 41, 57, 85] then 0 else 1) else
  if g = 1000000 then 0
  else if g = 41 then (if f ∈ [3, 4, 5, 7, 8, 9, 10, 11, 12, 13, 14, 15] then 1 else 2)
  else if g ∈ [75, 76, 77, 80, 82, 86, 87, 88, 99, 102, 103] then 3
  else if g ∈ [83, 84, 100, 101, 104, 107, 108, 109, 114, 116] then 0
  else if g ∈ [73, 85, 90, 105] then 2 else 1

def tab : Nat → Option AFn
  | 2 => some f2
  | 3 => some f3
  | 5 => some f5
  | 16 => some f16
  | 17 => some f17
  | 19 => some f19
  | 20 => some f20
  | 23 => some f23
  | 27 => some f27
  | 28 => some f28
  | 29 => some f29
  | 30 => some f30
  | 32 => some f32
  | 33 => some f33
  | 35 => some f35
  | 36 => some f36
  | 37 => some f37
  | 39 => some f39
  | 40 => some f40
  | 41 => some f41
  | 42 => some f42
  | 44 => some f44
  | 45 => some f45
  | 48 => some f48
  | 52 => some f52
  | 53 => some f53
  | 54 => some f54
  | 55 => some f55
  | 70 => some f70
  | 71 => some f71
  | 73 => some f73
  | 74 => some f74
  | 75 => some f75
  | 76 => some f76
  | 77 => some f77
  | 79 => some f79
  | 80 => some f80
  | 81 => some f81
  | 82 => some f82
  | 83 => some f83
  | 84 => some f84
  | 85 => some f85
  | 86 => some f86
  | 87 => some f87
  | 90 => some f90
  | 91 => some f91
  | 99 => some f99
  | 100 => some f100
  | 101 => some f101
  | 102 => some f102
  | 103 => some f103
  | 104 => some f104
  | 106 => some f106
  | 107 => some f107
  | 108 => some f108
  | 109 => some f109
  | 110 => some f110
  | 112 => some f112
  | 113 => some f113
  | 114 => some f114
  | 115 => some f115
  | 116 => some f116
  | _ => none
def E : Env := { fn := tab, spec := fun _ _ _ _ => none }
theorem c2 : cFn Try.prog (mode 2) 2 = some f2 := by kernel_rfl
theorem c3 : cFn Try.prog (mode 3) 3 = some f3 := by kernel_rfl
theorem c5 : cFn Try.prog (mode 5) 5 = some f5 := by kernel_rfl
theorem c16 : cFn Try.prog (mode 16) 16 = some f16 := by kernel_rfl
theorem c17 : cFn Try.prog (mode 17) 17 = some f17 := by kernel_rfl
theorem c19 : cFn Try.prog (mode 19) 19 = some f19 := by kernel_rfl
theorem c20 : cFn Try.prog (mode 20) 20 = some f20 := by kernel_rfl
theorem c23 : cFn Try.prog (mode 23) 23 = some f23 := by kernel_rfl
theorem c27 : cFn Try.prog (mode 27) 27 = some f27 := by kernel_rfl
theorem c28 : cFn Try.prog (mode 28) 28 = some f28 := by kernel_rfl
theorem c29 : cFn Try.prog (mode 29) 29 = some f29 := by kernel_rfl
theorem c30 : cFn Try.prog (mode 30) 30 = some f30 := by kernel_rfl
theorem c32 : cFn Try.prog (mode 32) 32 = some f32 := by kernel_rfl
theorem c33 : cFn Try.prog (mode 33) 33 = some f33 := by kernel_rfl
theorem c35 : cFn Try.prog (mode 35) 35 = some f35 := by kernel_rfl
theorem c36 : cFn Try.prog (mode 36) 36 = some f36 := by kernel_rfl
theorem c37 : cFn Try.prog (mode 37) 37 = some f37 := by kernel_rfl
theorem c39 : cFn Try.prog (mode 39) 39 = some f39 := by kernel_rfl
theorem c40 : cFn Try.prog (mode 40) 40 = some f40 := by kernel_rfl
theorem c41 : cFn Try.prog (mode 41) 41 = some f41 := by kernel_rfl
theorem c42 : cFn Try.prog (mode 42) 42 = some f42 := by kernel_rfl
theorem c44 : cFn Try.prog (mode 44) 44 = some f44 := by kernel_rfl
theorem c45 : cFn Try.prog (mode 45) 45 = some f45 := by kernel_rfl
theorem c48 : cFn Try.prog (mode 48) 48 = some f48 := by kernel_rfl
theorem c52 : cFn Try.prog (mode 52) 52 = some f52 := by kernel_rfl
theorem c53 : cFn Try.prog (mode 53) 53 = some f53 := by kernel_rfl
theorem c54 : cFn Try.prog (mode 54) 54 = some f54 := by kernel_rfl
theorem c55 : cFn Try.prog (mode 55) 55 = some f55 := by kernel_rfl
theorem c70 : cFn Try.prog (mode 70) 70 = some f70 := by kernel_rfl
theorem c71 : cFn Try.prog (mode 71) 71 = some f71 := by kernel_rfl
theorem c73 : cFn Try.prog (mode 73) 73 = some f73 := by kernel_rfl
theorem c74 : cFn Try.prog (mode 74) 74 = some f74 := by kernel_rfl
theorem c75 : cFn Try.prog (mode 75) 75 = some f75 := by kernel_rfl
theorem c76 : cFn Try.prog (mode 76) 76 = some f76 := by kernel_rfl
theorem c77 : cFn Try.prog (mode 77) 77 = some f77 := by kernel_rfl
theorem c79 : cFn Try.prog (mode 79) 79 = some f79 := by kernel_rfl
theorem c80 : cFn Try.prog (mode 80) 80 = some f80 := by kernel_rfl
theorem c81 : cFn Try.prog (mode 81) 81 = some f81 := by kernel_rfl
theorem c82 : cFn Try.prog (mode 82) 82 = some f82 := by kernel_rfl
theorem c83 : cFn Try.prog (mode 83) 83 = some f83 := by kernel_rfl
theorem c84 : cFn Try.prog (mode 84) 84 = some f84 := by kernel_rfl
theorem c85 : cFn Try.prog (mode 85) 85 = some f85 := by kernel_rfl
theorem c86 : cFn Try.prog (mode 86) 86 = some f86 := by kernel_rfl
theorem c87 : cFn Try.prog (mode 87) 87 = some f87 := by kernel_rfl
theorem c90 : cFn Try.prog (mode 90) 90 = some f90 := by kernel_rfl
theorem c91 : cFn Try.prog (mode 91) 91 = some f91 := by kernel_rfl
theorem c99 : cFn Try.prog (mode 99) 99 = some f99 := by kernel_rfl
theorem c100 : cFn Try.prog (mode 100) 100 = some f100 := by kernel_rfl
theorem c101 : cFn Try.prog (mode 101) 101 = some f101 := by kernel_rfl
theorem c102 : cFn Try.prog (mode 102) 102 = some f102 := by kernel_rfl
theorem c103 : cFn Try.prog (mode 103) 103 = some f103 := by kernel_rfl
theorem c104 : cFn Try.prog (mode 104) 104 = some f104 := by kernel_rfl
theorem c106 : cFn Try.prog (mode 106) 106 = some f106 := by kernel_rfl
theorem c107 : cFn Try.prog (mode 107) 107 = some f107 := by kernel_rfl
theorem c108 : cFn Try.prog (mode 108) 108 = some f108 := by kernel_rfl
theorem c109 : cFn Try.prog (mode 109) 109 = some f109 := by kernel_rfl
theorem c110 : cFn Try.prog (mode 110) 110 = some f110 := by kernel_rfl
theorem c112 : cFn Try.prog (mode 112) 112 = some f112 := by kernel_rfl
theorem c113 : cFn Try.prog (mode 113) 113 = some f113 := by kernel_rfl
theorem c114 : cFn Try.prog (mode 114) 114 = some f114 := by kernel_rfl
theorem c115 : cFn Try.prog (mode 115) 115 = some f115 := by kernel_rfl
theorem c116 : cFn Try.prog (mode 116) 116 = some f116 := by kernel_rfl
theorem tab_ok : ∀ f fn, tab f = some fn → cFn Try.prog (mode f) f = some fn := by
  intro f fn h
  unfold tab at h
  split at h
  · cases h; exact c2
  · cases h; exact c3
  · cases h; exact c5
  · cases h; exact c16
  · cases h; exact c17
  · cases h; exact c19
  · cases h; exact c20
  · cases h; exact c23
  · cases h; exact c27
  · cases h; exact c28
  · cases h; exact c29
  · cases h; exact c30
  · cases h; exact c32
  · cases h; exact c33
  · cases h; exact c35
  · cases h; exact c36
  · cases h; exact c37
  · cases h; exact c39
  · cases h; exact c40
  · cases h; exact c41
  · cases h; exact c42
  · cases h; exact c44
  · cases h; exact c45
  · cases h; exact c48
  · cases h; exact c52
  · cases h; exact c53
  · cases h; exact c54
  · cases h; exact c55
  · cases h; exact c70
  · cases h; exact c71
  · cases h; exact c73
  · cases h; exact c74
  · cases h; exact c75
  · cases h; exact c76
  · cases h; exact c77
  · cases h; exact c79
  · cases h; exact c80
  · cases h; exact c81
  · cases h; exact c82
  · cases h; exact c83
  · cases h; exact c84
  · cases h; exact c85
  · cases h; exact c86
  · cases h; exact c87
  · cases h; exact c90
  · cases h; exact c91
  · cases h; exact c99
  · cases h; exact c100
  · cases h; exact c101
  · cases h; exact c102
  · cases h; exact c103
  · cases h; exact c104
  · cases h; exact c106
  · cases h; exact c107
  · cases h; exact c108
  · cases h; exact c109
  · cases h; exact c110
  · cases h; exact c112
  · cases h; exact c113
  · cases h; exact c114
  · cases h; exact c115
  · cases h; exact c116
  · cases h
theorem ok : EnvOk Try.prog mode E where
  fn := tab_ok
  spec := by intro f args h lim r h' hx; cases hx
  frame := by intro f args h lim r h' hx; cases hx
  no := fun _ _ _ _ _ _ _ _ => rfl
  len := by intro f args h lim r h' hx; cases hx
theorem e2 : E.fn 2 = some f2 := rfl
theorem e3 : E.fn 3 = some f3 := rfl
theorem e5 : E.fn 5 = some f5 := rfl
theorem e16 : E.fn 16 = some f16 := rfl
theorem e17 : E.fn 17 = some f17 := rfl
theorem e19 : E.fn 19 = some f19 := rfl
theorem e20 : E.fn 20 = some f20 := rfl
theorem e23 : E.fn 23 = some f23 := rfl
theorem e27 : E.fn 27 = some f27 := rfl
theorem e28 : E.fn 28 = some f28 := rfl
theorem e29 : E.fn 29 = some f29 := rfl
theorem e30 : E.fn 30 = some f30 := rfl
theorem e32 : E.fn 32 = some f32 := rfl
theorem e33 : E.fn 33 = some f33 := rfl
theorem e35 : E.fn 35 = some f35 := rfl
theorem e36 : E.fn 36 = some f36 := rfl
theorem e37 : E.fn 37 = some f37 := rfl
theorem e39 : E.fn 39 = some f39 := rfl
theorem e40 : E.fn 40 = some f40 := rfl
theorem e41 : E.fn 41 = some f41 := rfl
theorem e42 : E.fn 42 = some f42 := rfl
theorem e44 : E.fn 44 = some f44 := rfl
theorem e45 : E.fn 45 = some f45 := rfl
theorem e48 : E.fn 48 = some f48 := rfl
theorem e52 : E.fn 52 = some f52 := rfl
theorem e53 : E.fn 53 = some f53 := rfl
theorem e54 : E.fn 54 = some f54 := rfl
theorem e55 : E.fn 55 = some f55 := rfl
theorem e70 : E.fn 70 = some f70 := rfl
theorem e71 : E.fn 71 = some f71 := rfl
theorem e73 : E.fn 73 = some f73 := rfl
theorem e74 : E.fn 74 = some f74 := rfl
theorem e75 : E.fn 75 = some f75 := rfl
theorem e76 : E.fn 76 = some f76 := rfl
theorem e77 : E.fn 77 = some f77 := rfl
theorem e79 : E.fn 79 = some f79 := rfl
theorem e80 : E.fn 80 = some f80 := rfl
theorem e81 : E.fn 81 = some f81 := rfl
theorem e82 : E.fn 82 = some f82 := rfl
theorem e83 : E.fn 83 = some f83 := rfl
theorem e84 : E.fn 84 = some f84 := rfl
theorem e85 : E.fn 85 = some f85 := rfl
theorem e86 : E.fn 86 = some f86 := rfl
theorem e87 : E.fn 87 = some f87 := rfl
theorem e90 : E.fn 90 = some f90 := rfl
theorem e91 : E.fn 91 = some f91 := rfl
theorem e99 : E.fn 99 = some f99 := rfl
theorem e100 : E.fn 100 = some f100 := rfl
theorem e101 : E.fn 101 = some f101 := rfl
theorem e102 : E.fn 102 = some f102 := rfl
theorem e103 : E.fn 103 = some f103 := rfl
theorem e104 : E.fn 104 = some f104 := rfl
theorem e106 : E.fn 106 = some f106 := rfl
theorem e107 : E.fn 107 = some f107 := rfl
theorem e108 : E.fn 108 = some f108 := rfl
theorem e109 : E.fn 109 = some f109 := rfl
theorem e110 : E.fn 110 = some f110 := rfl
theorem e112 : E.fn 112 = some f112 := rfl
theorem e113 : E.fn 113 = some f113 := rfl
theorem e114 : E.fn 114 = some f114 := rfl
theorem e115 : E.fn 115 = some f115 := rfl
theorem e116 : E.fn 116 = some f116 := rfl
theorem es (f : Nat) (a : List AV) (h : List AO) (l : Nat) : E.spec f a h l = none := rfl
end Go.Proofs.Ytjaaefdhdggnkaa.T
