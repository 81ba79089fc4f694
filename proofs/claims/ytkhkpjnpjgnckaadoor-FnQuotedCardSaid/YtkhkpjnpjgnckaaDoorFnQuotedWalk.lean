/- The walk of FnQuoted. -/
import Derived.Test.YtkhkpjnpjgnckaaDoorProg
import Derived.Test.YtkhkpjnpjgnckaaDoorPlain
import Derived.Test.YtkhkpjnpjgnckaaDoorDraw
import Derived.Test.YtkhkpjnpjgnckaaDoorDialectRows
import Derived.Test.YtkhkpjnpjgnckaaDoorDialSpec
import Derived.Test.YtkhkpjnpjgnckaaDoorDialImpl
import Derived.Test.YtkhkpjnpjgnckaaDoorUnescSpec
import Derived.Test.YtkhkpjnpjgnckaaDoorUnescTop
import Derived.Test.YtkhkpjnpjgnckaaDoorBareSpec
import Derived.Test.YtkhkpjnpjgnckaaDoorBareTop
import Derived.Test.YtkhkpjnpjgnckaaDoorQuotSpec
import Derived.Test.YtkhkpjnpjgnckaaDoorQuotTop
import Derived.Test.YtkhkpjnpjgnckaaDoorEscSpec
import Derived.Test.YtkhkpjnpjgnckaaDoorEscImpl
import Derived.Test.YtkhkpjnpjgnckaaDoorEscPure
import Derived.Test.YtkhkpjnpjgnckaaDoorCellRes
import Derived.Test.YtkhkpjnpjgnckaaDoorIniDraw3
import Derived.Test.YtkhkpjnpjgnckaaDoorIniDraw4
import Derived.WalkKit
import Derived.WalkLawsBesides
import Derived.Laws.IdiomStrings
import Derived.Lib.Hide
import Derived.IntWalk
set_option maxRecDepth 100000
namespace Go.Proofs.YtkhkpjnpjgnckaaDoor
open Go.RowKit
set_option linter.unusedVariables false

theorem DialAt.putEsc {w : World} {b : Nat} {d0 d1 : ByteArray} {d2 d3 d4 : Bool} {d5 : Int} (h : DialAt w b ⟨d0, d1, d2, d3, d4, d5⟩) (x : Bool) : DialAt (w.setCell ⟨b, 4, none⟩ (.bool x)) b ⟨d0, d1, d2, d3, x, d5⟩ := by
  unfold DialAt at *
  rw [set_cellR _ b 4 _ _ _ _ h]
  rfl

set_option maxHeartbeats 3200000 in
theorem fnQuoted_walk (a : Option Addr) (len cap : Nat) (w : World) (hB : BytesIn w a len) (hlow : ∀ x, a = some x → len ≠ 0 → x.block < w.heap.size) :
    Calls Tryd.prog 3 #[.slice a len cap] w fun e w' => e = .returned (.bool true) ∧ Below w.heap.size w w' := by
  by_cases hlen : len ≤ 1048576
  · have KD1 := Lib.hid (drawQuoted w a len cap hlen hB hlow)
    have KD2 : Hid (∀ W, Below w.heap.size w W → Calls Tryd.prog 8 #[.slice a len cap] W (DrewTD W)) := fun W hW => drawBare W a len cap hlen (bytesIn_kept (b := 0) hB (fun x hx hl => hW.block x.block (hlow x hx hl))) (fun x hx hl => Nat.lt_of_lt_of_le (hlow x hx hl) hW.size)
    have KD3 : Hid (∀ W, Below w.heap.size w W → Calls Tryd.prog 11 #[.slice a len cap] W (DrewTD W)) := fun W hW => drawUnescape W a len cap hlen (bytesIn_kept (b := 0) hB (fun x hx hl => hW.block x.block (hlow x hx hl))) (fun x hx hl => Nat.lt_of_lt_of_le (hlow x hx hl) hW.size)
    have KG := Lib.hid (big_no w a len cap hlen)
    have hB2 := Below.refl w.heap.size w
    clear hB hlow hlen
    go_enter Tryd.func3, Tryd.ntmps3
    go_wp2_with fail
    refine KG.out.mono ?_
    rintro e w0 ⟨rfl, rfl⟩
    clear KG
    go_wp2_with fail
    refine KD1.out.mono ?_
    rintro e w1 ⟨s, d, hs, hd0, hd1, rfl, hbn⟩
    replace hB2 := hB2.trans (hbn.mono hB2.size)
    have hg0 := hB2.size
    clear hbn
    have K1 := Lib.hid (fun w => quoted_impl d s w (by omega))
    have K2 := Lib.hid (fun w => quoted_spec d s w (by omega) (by omega))
    generalize quotT d s = r at *
    obtain ⟨r0, r1⟩ := r
    have hr0 : (r0.toList != r0.toList) = false := by simp
    have hr1 : (r1 != r1) = false := by simp
    have HD : Hid (DialAt (w1.alloc (.cells #[.string d.notes, .string d.seps, .bool d.inl, .bool d.quo, .bool d.esc, .int .i64 d.join] 25)) w1.heap.size d) := dialAt_new w1 d
    replace hB2 := hB2.alloc hB2.size (.cells #[.string d.notes, .string d.seps, .bool d.inl, .bool d.quo, .bool d.esc, .int .i64 d.join] 25)
    have hlt : w1.heap.size < (w1.alloc (.cells #[.string d.notes, .string d.seps, .bool d.inl, .bool d.quo, .bool d.esc, .int .i64 d.join] 25)).heap.size := by simp
    obtain ⟨d0, d1, d2, d3, d4, d5⟩ := d
    unfold dialectV at *
    simp only at K1 K2 HD hB2 hlt ⊢
    clear hs hd0 hd1
    clear KD1
    go_wp2_with fail
    refine (K1.out _).mono ?_
    rintro e w2 ⟨rfl, hbn⟩
    replace HD := Lib.hid (HD.out.over hbn hlt)
    replace hB2 := hB2.trans (hbn.mono hB2.size)
    replace hlt := Nat.lt_of_lt_of_le hlt hbn.size
    clear hbn K1
    generalize w1.heap.size = g0 at *
    obtain ⟨c0, c1, c2, c3, c4, c5⟩ := HD.out.cells
    simp only at c0 c1 c2 c3 c4 c5
    go_wp2_with fail
    refine (K2.out _).mono ?_
    rintro e w3 ⟨rfl, hbn⟩
    replace hB2 := hB2.trans (hbn.mono hB2.size)
    clear hbn K2 c0 c1 c2 c3 c4 c5 HD hlt hg0
    go_wp2_with fail
    refine (KD2.out _ hB2).mono ?_
    rintro e w4 ⟨t, d, hs, hd0, hd1, rfl, hbn⟩
    replace hB2 := hB2.trans (hbn.mono hB2.size)
    have hg0 := hB2.size
    clear hbn
    have K1 := Lib.hid (fun w => bare_impl d t w (by omega))
    have K2 := Lib.hid (fun w => bare_spec d t w (by omega) (by omega))
    clear hr0 hr1
    generalize bareT d t = z at *
    obtain ⟨z0, z1⟩   := z
    have hz0 : (z0.toList != z0.toList) = false := by simp
    have hz1 : (z1 != z1) = false := by simp
    have HD : Hid (DialAt (w4.alloc (.cells #[.string d.notes, .string d.seps, .bool d.inl, .bool d.quo, .bool d.esc, .int .i64 d.join] 25)) w4.heap.size d) := dialAt_new w4 d
    replace hB2 := hB2.alloc hB2.size (.cells #[.string d.notes, .string d.seps, .bool d.inl, .bool d.quo, .bool d.esc, .int .i64 d.join] 25)
    have hlt : w4.heap.size < (w4.alloc (.cells #[.string d.notes, .string d.seps, .bool d.inl, .bool d.quo, .bool d.esc, .int .i64 d.join] 25)).heap.size := by simp
    clear KD2
    obtain ⟨d0, d1, d2, d3, d4, d5⟩ := d
    unfold dialectV at *
    simp only at K1 K2 HD hB2 hlt ⊢
    clear hs hd0 hd1
    go_wp2_with fail
    refine (K1.out _).mono ?_
    rintro e w5 ⟨rfl, hbn⟩
    replace HD := Lib.hid (HD.out.over hbn hlt)
    replace hB2 := hB2.trans (hbn.mono hB2.size)
    replace hlt := Nat.lt_of_lt_of_le hlt hbn.size
    clear hbn K1
    generalize w4.heap.size = g1 at *
    obtain ⟨c0, c1, c2, c3, c4, c5⟩ := HD.out.cells
    simp only at c0 c1 c2 c3 c4 c5
    go_wp2_with fail
    refine (K2.out _).mono ?_
    rintro e w6 ⟨rfl, hbn⟩
    replace hB2 := hB2.trans (hbn.mono hB2.size)
    clear hbn K2 c0 c1 c2 c3 c4 c5 HD hlt hg0
    go_wp2_with fail
    refine (KD3.out _ hB2).mono ?_
    rintro e w7 ⟨u, d, hs, hd0, hd1, rfl, hbn⟩
    replace hB2 := hB2.trans (hbn.mono hB2.size)
    have hg0 := hB2.size
    clear hbn
    have K1 := Lib.hid (fun w => unescape_impl d u w (by omega))
    have K2 := Lib.hid (fun w => dialectOk_spec d w (by omega) (by omega))
    have K3 := Lib.hid (fun w => dialectOk_impl d w (by omega) (by omega))
    have KE : Hid (∀ x, x = (DialectD.mk d.notes d.seps d.inl d.quo true d.join) → NotesIn d.notes → (∀ w, Calls Tryd.prog 15 #[.string u, dialectV x] w fun e w' => e = .returned (.string (escT x u)) ∧ Below w.heap.size w w') ∧ (∀ w, Calls Tryd.prog 16 #[.string u, dialectV x] w fun e w' => e = .returned (.string (escT x u)) ∧ Below w.heap.size w w') ∧ (∀ w, Calls Tryd.prog 12 #[.string (escT x u), dialectV x] w fun e w' => e = .returned (.tuple #[.string u, .bool true]) ∧ Below w.heap.size w w') ∧ (∀ w, Calls Tryd.prog 6 #[.string (⟨#[34]⟩ ++ escT x u ++ ⟨#[34]⟩), dialectV x] w fun e w' => e = .returned (.tuple #[.string u, .bool true]) ∧ Below w.heap.size w w') ∧ (escT x u).size ≤ 3400) := by
      intro x hx hn
      have hxe : x.esc = true := by rw [hx]
      have hxn : x.notes = d.notes := by rw [hx]
      have hz := escT_size x u
      obtain ⟨h1, h2⟩ := escape_back x u (by rw [hxn]; exact hn) hxe
      refine ⟨fun w => escape_impl x u w (by omega), fun w => escape_spec x u w (by omega) (by rw [hxn]; omega), ?_, ?_, by omega⟩
      · intro w
        have h3 := unescape_impl x (escT x u) w (by omega)
        rw [hxe, h1] at h3
        exact h3
      · intro w
        have h3 := quoted_impl x (inQ (escT x u)) w (by unfold inQ; rw [ByteArray.size_append, ByteArray.size_append, show (⟨#[34]⟩ : ByteArray).size = 1 from rfl]; omega)
        rw [h2] at h3
        exact h3
    have HNI : Hid (dialOk d = true → NotesIn d.notes) := notesIn_of
    clear hz0 hz1
    generalize dialOk d = ok at *
    have HD : Hid (DialAt (w7.alloc (.cells #[.string d.notes, .string d.seps, .bool d.inl, .bool d.quo, .bool d.esc, .int .i64 d.join] 25)) w7.heap.size d) := dialAt_new w7 d
    replace hB2 := hB2.alloc hB2.size (.cells #[.string d.notes, .string d.seps, .bool d.inl, .bool d.quo, .bool d.esc, .int .i64 d.join] 25)
    have hlt : w7.heap.size < (w7.alloc (.cells #[.string d.notes, .string d.seps, .bool d.inl, .bool d.quo, .bool d.esc, .int .i64 d.join] 25)).heap.size := by simp
    obtain ⟨d0, d1, d2, d3, d4, d5⟩ := d
    have KE := Lib.hid (KE.out _ rfl)
    unfold dialectV at *
    simp only at K1 K2 K3 HNI HD hB2 hlt KE ⊢
    clear hs hd0 hd1 KD3
    generalize escT ⟨d0, d1, d2, d3, true, d5⟩ u = E at *
    have hu0 : (u.toList != u.toList) = false := by simp
    have hu1 : (u.toList == u.toList) = true := by simp
    have hE1 : (E.toList == E.toList) = true := by simp
    obtain ⟨p, gd, HP, HP2⟩ : ∃ p gd, Hid (unT d4 u = (p, gd)) ∧ Hid (d4 = false → (p = u ∧ gd = true)) := ⟨(unT d4 u).1, (unT d4 u).2, rfl, by intro h; subst h; exact ⟨rfl, rfl⟩⟩
    rw [HP.out] at K1
    simp only at K1
    clear HP
    go_wp2_with fail
    refine (K1.out _).mono ?_
    rintro e w8 ⟨rfl, hbn⟩
    replace HD := Lib.hid (HD.out.over hbn hlt)
    replace hB2 := hB2.trans (hbn.mono hB2.size)
    replace hlt := Nat.lt_of_lt_of_le hlt hbn.size
    clear hbn K1
    generalize w7.heap.size = g2 at *
    cases d4
    · obtain ⟨rfl, rfl⟩ := HP2.out rfl
      obtain ⟨c0, c1, c2, c3, c4, c5⟩ := HD.out.cells
      simp only at c0 c1 c2 c3 c4 c5
      go_wp2_with fail
      refine (K2.out _).mono ?_
      rintro e w9 ⟨rfl, hbn⟩
      replace HD := Lib.hid (HD.out.over hbn hlt)
      replace hB2 := hB2.trans (hbn.mono hB2.size)
      replace hlt := Nat.lt_of_lt_of_le hlt hbn.size
      clear hbn K2 c0 c1 c2 c3 c4 c5
      obtain ⟨c0, c1, c2, c3, c4, c5⟩ := HD.out.cells
      simp only at c0 c1 c2 c3 c4 c5
      cases ok
      · clear KE HNI
        go_wp2_with fail
        refine (K3.out _).mono ?_
        rintro e w10 ⟨rfl, hbn⟩
        replace hB2 := hB2.trans (hbn.mono hB2.size)
        clear hbn K3
        go_wp2
        go_ret
        exact ⟨rfl, hB2⟩
      · obtain ⟨E1, E2, E3, E4, E5⟩ := KE.out (HNI.out rfl)
        have E1 := Lib.hid E1
        have E2 := Lib.hid E2
        have E3 := Lib.hid E3
        have E4 := Lib.hid E4
        clear KE HNI K3
        have f4 := HD.out.free 4
        have HD9 := Lib.hid (HD.out.putEsc true)
        have hB9 := hB2.setCell (p := ⟨g2, 4, none⟩) hg0 (.bool true)
        have hlt9 : g2 < (w9.setCell ⟨g2, 4, none⟩ (.bool true)).heap.size := by simpa [World.setCell] using hlt
        go_wp2_with fail
        clear c0 c1 c2 c3 c4 c5 HD hB2 hlt f4
        generalize w9.setCell ⟨g2, 4, none⟩ (.bool true) = wA at *
        refine (E1.out _).mono ?_
        rintro e w10 ⟨rfl, hbn⟩
        have HD := Lib.hid (HD9.out.over hbn hlt9)
        have hB2 := hB9.trans (hbn.mono hB9.size)
        have hlt := Nat.lt_of_lt_of_le hlt9 hbn.size
        clear hbn HD9 hB9 hlt9 E1
        obtain ⟨c0, c1, c2, c3, c4, c5⟩ := HD.out.cells
        simp only at c0 c1 c2 c3 c4 c5
        go_wp2_with fail
        refine (E3.out _).mono ?_
        rintro e w11 ⟨rfl, hbn⟩
        replace HD := Lib.hid (HD.out.over hbn hlt)
        replace hB2 := hB2.trans (hbn.mono hB2.size)
        replace hlt := Nat.lt_of_lt_of_le hlt hbn.size
        clear hbn E3 c0 c1 c2 c3 c4 c5
        obtain ⟨c0, c1, c2, c3, c4, c5⟩ := HD.out.cells
        simp only at c0 c1 c2 c3 c4 c5
        go_wp2_with fail
        refine (E4.out _).mono ?_
        rintro e w12 ⟨rfl, hbn⟩
        replace HD := Lib.hid (HD.out.over hbn hlt)
        replace hB2 := hB2.trans (hbn.mono hB2.size)
        replace hlt := Nat.lt_of_lt_of_le hlt hbn.size
        clear hbn E4 c0 c1 c2 c3 c4 c5
        obtain ⟨c0, c1, c2, c3, c4, c5⟩ := HD.out.cells
        simp only at c0 c1 c2 c3 c4 c5
        go_wp2_with fail
        refine (E2.out _).mono ?_
        rintro e w13 ⟨rfl, hbn⟩
        replace hB2 := hB2.trans (hbn.mono hB2.size)
        clear hbn E2 c0 c1 c2 c3 c4 c5 HD hlt
        go_wp2
        go_ret
        exact ⟨rfl, hB2⟩
    · clear HP2
      obtain ⟨c0, c1, c2, c3, c4, c5⟩ := HD.out.cells
      simp only at c0 c1 c2 c3 c4 c5
      go_wp2_with fail
      refine (K2.out _).mono ?_
      rintro e w9 ⟨rfl, hbn⟩
      replace HD := Lib.hid (HD.out.over hbn hlt)
      replace hB2 := hB2.trans (hbn.mono hB2.size)
      replace hlt := Nat.lt_of_lt_of_le hlt hbn.size
      clear hbn K2 c0 c1 c2 c3 c4 c5
      obtain ⟨c0, c1, c2, c3, c4, c5⟩ := HD.out.cells
      simp only at c0 c1 c2 c3 c4 c5
      cases ok
      · clear KE HNI
        go_wp2_with fail
        refine (K3.out _).mono ?_
        rintro e w10 ⟨rfl, hbn⟩
        replace hB2 := hB2.trans (hbn.mono hB2.size)
        clear hbn K3
        go_wp2
        go_ret
        exact ⟨rfl, hB2⟩
      · obtain ⟨E1, E2, E3, E4, E5⟩ := KE.out (HNI.out rfl)
        have E1 := Lib.hid E1
        have E2 := Lib.hid E2
        have E3 := Lib.hid E3
        have E4 := Lib.hid E4
        clear KE HNI K3
        have f4 := HD.out.free 4
        have HD9 := Lib.hid (HD.out.putEsc true)
        have hB9 := hB2.setCell (p := ⟨g2, 4, none⟩) hg0 (.bool true)
        have hlt9 : g2 < (w9.setCell ⟨g2, 4, none⟩ (.bool true)).heap.size := by simpa [World.setCell] using hlt
        go_wp2_with fail
        clear c0 c1 c2 c3 c4 c5 HD hB2 hlt f4
        generalize w9.setCell ⟨g2, 4, none⟩ (.bool true) = wA at *
        refine (E1.out _).mono ?_
        rintro e w10 ⟨rfl, hbn⟩
        have HD := Lib.hid (HD9.out.over hbn hlt9)
        have hB2 := hB9.trans (hbn.mono hB9.size)
        have hlt := Nat.lt_of_lt_of_le hlt9 hbn.size
        clear hbn HD9 hB9 hlt9 E1
        obtain ⟨c0, c1, c2, c3, c4, c5⟩ := HD.out.cells
        simp only at c0 c1 c2 c3 c4 c5
        go_wp2_with fail
        refine (E3.out _).mono ?_
        rintro e w11 ⟨rfl, hbn⟩
        replace HD := Lib.hid (HD.out.over hbn hlt)
        replace hB2 := hB2.trans (hbn.mono hB2.size)
        replace hlt := Nat.lt_of_lt_of_le hlt hbn.size
        clear hbn E3 c0 c1 c2 c3 c4 c5
        obtain ⟨c0, c1, c2, c3, c4, c5⟩ := HD.out.cells
        simp only at c0 c1 c2 c3 c4 c5
        go_wp2_with fail
        refine (E4.out _).mono ?_
        rintro e w12 ⟨rfl, hbn⟩
        replace HD := Lib.hid (HD.out.over hbn hlt)
        replace hB2 := hB2.trans (hbn.mono hB2.size)
        replace hlt := Nat.lt_of_lt_of_le hlt hbn.size
        clear hbn E4 c0 c1 c2 c3 c4 c5
        obtain ⟨c0, c1, c2, c3, c4, c5⟩ := HD.out.cells
        simp only at c0 c1 c2 c3 c4 c5
        go_wp2_with fail
        refine (E2.out _).mono ?_
        rintro e w13 ⟨rfl, hbn⟩
        replace hB2 := hB2.trans (hbn.mono hB2.size)
        clear hbn E2 c0 c1 c2 c3 c4 c5 HD hlt
        go_wp2
        go_ret
        exact ⟨rfl, hB2⟩
  · have KG := Lib.hid (big_yes w a len cap (by omega))
    go_enter Tryd.func3, Tryd.ntmps3
    go_wp2_with fail
    refine KG.out.mono ?_
    rintro e w0 ⟨rfl, rfl⟩
    go_wp2
    go_ret
    exact ⟨rfl, Below.refl _ _⟩

end Go.Proofs.YtkhkpjnpjgnckaaDoor
