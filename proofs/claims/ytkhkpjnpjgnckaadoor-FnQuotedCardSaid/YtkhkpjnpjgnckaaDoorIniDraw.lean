/- The draws of files with sections, and of Dialects. -/
import Derived.Test.YtkhkpjnpjgnckaaDoorProg
import Derived.Test.YtkhkpjnpjgnckaaDoorPlain
import Derived.Test.YtkhkpjnpjgnckaaDoorDraw
import Derived.Test.YtkhkpjnpjgnckaaDoorDrawNum
import Derived.Test.YtkhkpjnpjgnckaaDoorBent
import Derived.Test.YtkhkpjnpjgnckaaDoorDialectRows
import Derived.Test.YtkhkpjnpjgnckaaDoorBareSpec
import Derived.WalkKit
import Derived.WalkLawsBesides
import Derived.OwnWalk
import Derived.Laws.IdiomStrings
import Derived.Lib.Hide
import Derived.IntWalk
import Derived.Outline
set_option maxRecDepth 100000
namespace Go.Proofs.YtkhkpjnpjgnckaaDoor
open Go.RowKit
set_option linter.unusedVariables false


set_option maxHeartbeats 1600000 in
theorem value5_draw (w : World) (B b : Nat) (a : Option Addr) (len cap : Nat) (hlen : len ≤ 9223372036854775807) (hC : CurAt w B b a len cap) :
    Calls Tryd.prog 18 #[.pointer (some ⟨b, 0, none⟩)] w (DrewS 12 w B b a len cap) := by
  have HC := Lib.hid hC
  have HG := Lib.hid (World.grownBy.refl w (some b))
  clear hC
  go_enter Tryd.func18, Tryd.ntmps18
  go_wp2_with fail
  refine (pick_draw (w.alloc (.cells #[.string ⟨#[49]⟩, .string ⟨#[]⟩, .string ⟨#[97, 32, 98]⟩, .string ⟨#[34, 113, 34]⟩, .string ⟨#[34, 113, 32, 35, 32, 120, 34, 32, 35, 32, 121]⟩, .string ⟨#[34, 97, 92, 34, 98, 34]⟩, .string ⟨#[120, 32, 35, 32, 121]⟩, .string ⟨#[120, 35, 121]⟩, .string ⟨#[97, 92, 110, 98]⟩, .string ⟨#[97, 92]⟩, .string ⟨#[97, 92, 92]⟩, .string ⟨#[34, 111, 112, 101, 110]⟩, .string ⟨#[34, 113, 34, 120]⟩, .string ⟨#[97, 92, 32]⟩, .string ⟨#[97, 92, 113]⟩, .string ⟨#[32, 9]⟩, .string ⟨#[59, 32, 122]⟩] 9)) B b a len cap w.heap.size 17 17 12 hlen (HC.out.alloc _) (by decide) (by decide) (by have := HC.out.lt; omega) (by simp) (by refine texts_alloc w _ _ _ _ ?_; decide +kernel)).mono ?_
  rintro e w1 ⟨t, ht, rfl, hCn, hgn⟩
  replace HG := Lib.hid (grownBy_step (grownBy_new HG.out (.cells #[.string ⟨#[49]⟩, .string ⟨#[]⟩, .string ⟨#[97, 32, 98]⟩, .string ⟨#[34, 113, 34]⟩, .string ⟨#[34, 113, 32, 35, 32, 120, 34, 32, 35, 32, 121]⟩, .string ⟨#[34, 97, 92, 34, 98, 34]⟩, .string ⟨#[120, 32, 35, 32, 121]⟩, .string ⟨#[120, 35, 121]⟩, .string ⟨#[97, 92, 110, 98]⟩, .string ⟨#[97, 92]⟩, .string ⟨#[97, 92, 92]⟩, .string ⟨#[34, 111, 112, 101, 110]⟩, .string ⟨#[34, 113, 34, 120]⟩, .string ⟨#[97, 92, 32]⟩, .string ⟨#[97, 92, 113]⟩, .string ⟨#[32, 9]⟩, .string ⟨#[59, 32, 122]⟩] 9)) hgn)
  replace HC := Lib.hid hCn
  clear hCn hgn
  go_wp2
  go_ret
  exact ⟨t, ht, rfl, HC.out, HG.out⟩

end Go.Proofs.YtkhkpjnpjgnckaaDoor
