/-
  The fixed patterns of glob's laws: what they come to.
-/
import Derived.Test.YtaielamimkigmaaGlobBarren
namespace Go.Proofs.Ytaielamimkigmaa
open Go.RowKit Go.ChangeShapes Globm Go.ChangeMaps

def s1 : ByteArray := ⟨#[47, 97, 42, 47, 91, 98, 45, 100, 93, 63]⟩
def s2 : ByteArray := ⟨#[47, 42, 42, 47, 120]⟩
def s3 : ByteArray := ⟨#[47, 91, 93]⟩
theorem n1 : nwE s1 = 0 := by decide +kernel
theorem n2 : nwE s2 = 0 := by decide +kernel
theorem n3 : nwE s3 = 31 := by decide +kernel
theorem p1 : (parts s1).length = 2 ∧ (parts s2).length = 2 := by decide +kernel
theorem m1 : cv ((parts s1).map pk) [⟨#[97]⟩, ⟨#[98, 120]⟩] (fun _ => false) 0 0 = true ∧ cv ((parts s1).map pk) [⟨#[97, 98, 99]⟩, ⟨#[100, 100]⟩] (fun _ => false) 0 0 = true ∧ cv ((parts s1).map pk) [⟨#[97]⟩, ⟨#[97, 49]⟩] (fun _ => false) 0 0 = false := by decide +kernel
theorem m2 : cv ((parts s2).map pk) [⟨#[120]⟩] (fun _ => false) 0 0 = true ∧ cv ((parts s2).map pk) [⟨#[97]⟩, ⟨#[98]⟩, ⟨#[120]⟩] (fun _ => false) 0 0 = true := by decide +kernel
end Go.Proofs.Ytaielamimkigmaa
