/-
maps.Copy and slices.Sorted at this program.
-/
import Derived.Test.YtaeijjfgfenfhaaMs
import Derived.Test.YtaeijjfgfenfhaaLp
namespace Go.Proofs.Ytaeijjfgfenfhaa.T
open Go Go.Am Go.Maps Go.RowKit Go.Shelf Go.Proofs
set_option linter.unusedVariables false
theorem sortsA (m : Nat) : AnyZI.SortsIn Try.prog Try.sortedA_ren Fence.wide m :=
  ⟨fun blk off cap ss W hH hblk hsz => callsIn_wide.2 (AnyM.slices_Sort_int Try.sortA blk off cap ss W hH hblk hsz),
   fun p cap W => callsIn_wide.2 (AnyM.slices_Sort_int_none Try.sortA p cap W)⟩
def mapOk : MapOk Try.prog 97 98 114 where
  tk := 3
  te := 3
  ty := Try.sortedA_ren.t 26
  hk := Try.underlying3
  he := Try.underlying3
  ec := enters_of Try.func97 (by kernel_rfl) rfl
  es := enters_of Try.func98 (by kernel_rfl) rfl
  copy := by
    intro bd bs nd ns Dd Ds w h1 h2 hne hr
    exact (AnyX.maps_Copy Try.cpA (int_keyed Try.underlying3) (plainElem Try.prog 3) bd bs nd ns Dd Ds w h1 h2 hne hr).mono fun e w' ⟨a, b, _, d⟩ => ⟨a, b, d⟩
  sort := by
    intro Bm b nn D0 w hBm hm hown hs
    refine (callsIn_wide (n := 5)).1 ?_
    have hseq : SeqGives Fence.wide 2 Try.prog 114 #[.pointer (some ⟨Bm, 0, none⟩)] encZ (fun ss => ss.Perm (intKeys D0)) (Maps.size D0) w :=
      AnyZI.keys_gives (ρ := Try.keysA_ren) { Try.keysA with } Fence.wide _ trivial rfl (by omega) Bm b nn D0 _ hBm hm hown
    have cS := AnyZI.sorted_in Try.sortedA Fence.wide 5 trivial trivial trivial trivial rfl (by omega) (sortsA _) (enters_of Try.func113 (by kernel_rfl) rfl) 114 #[.pointer (some ⟨Bm, 0, none⟩)] trivial (enters_of Try.func114 (by kernel_rfl) rfl) _ _ (by simp only [maxLen]; omega) (by omega) _ hseq
    exact cS
end Go.Proofs.Ytaeijjfgfenfhaa.T
