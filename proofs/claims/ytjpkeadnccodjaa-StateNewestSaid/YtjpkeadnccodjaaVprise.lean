/-
  The program's rising: a list of versions of its own, in order by stamps.
-/
import Derived.Test.YtjpkeadnccodjaaStabv
import Derived.Test.YtjpkeadnccodjaaVpclone
namespace Go.Proofs.Ytjpkeadnccodjaa
open Go.RowKit Go.Sort

/-- How stamps are told apart. -/
def cmpI (a b : Int) : Int := if a < b then -1 else if b < a then 1 else 0
def cfV (x y : Vr) : Int := cmpI x.st y.st
theorem stampV : StampLt cfV := fun x y => by
  unfold ltOf cfV cmpI
  by_cases h : x.st < y.st
  · simp [h]
  · by_cases h2 : y.st < x.st <;> simp [h, h2]
theorem isNaN_any (a : Int) (w : World) : Calls Try.prog 49 #[.int .i64 a] w fun e w' => e = .returned (.bool false) ∧ w' = w := by
  go_enter Try.func49, Try.ntmps49
  go_wp2_with fail
  go_ret
  exact ⟨by simp, rfl⟩
set_option maxHeartbeats 1000000 in
theorem compare_any (a b : Int) (w : World) : Calls Try.prog 41 #[.int .i64 a, .int .i64 b] w fun e w' => e = .returned (.int .i64 (cmpI a b)) ∧ w' = w := by
  have CN := Lib.hid isNaN_any
  by_cases h1 : a < b
  · have HE := Lib.hid (show cmpI a b = -1 by simp [cmpI, h1])
    go_enter Try.func41, Try.ntmps41
    go_wp2_with (go_at_call 49; (with_reducible refine (CN.out _ _).mono ?_); rintro e w2 ⟨rfl, h2⟩; obtain rfl := h2.symm)
    go_ret
    exact ⟨by rw [HE.out]; rfl, rfl⟩
  · by_cases h2 : b < a
    · have HE := Lib.hid (show cmpI a b = 1 by simp [cmpI, h1, h2])
      go_enter Try.func41, Try.ntmps41
      go_wp2_with (go_at_call 49; (with_reducible refine (CN.out _ _).mono ?_); rintro e w2 ⟨rfl, h2⟩; obtain rfl := h2.symm)
      go_ret
      exact ⟨by rw [HE.out]; rfl, rfl⟩
    · have HE := Lib.hid (show cmpI a b = 0 by simp [cmpI, h1, h2])
      go_enter Try.func41, Try.ntmps41
      go_wp2_with (go_at_call 49; (with_reducible refine (CN.out _ _).mono ?_); rintro e w2 ⟨rfl, h2⟩; obtain rfl := h2.symm)
      go_ret
      exact ⟨by rw [HE.out]; rfl, rfl⟩

set_option maxHeartbeats 1000000 in
theorem byStamp_any : CmpV 40 #[] cfV := fun x y W => by
  show Calls Try.prog 40 #[vv x, vv y] W _
  have CC := Lib.hid (fun w' => compare_any x.st y.st w')
  unfold cfV
  obtain ⟨id, st, ent, sf, se, fa, fc, fs, gone⟩ := x
  obtain ⟨id', st', ent', sf', se', fa', fc', fs', gone'⟩ := y
  simp only at CC
  generalize cmpI st st' = r at *
  go_enter Try.func40, Try.ntmps40
  go_wp2_with (go_at_call 41; (with_reducible refine (CC.out _).mono ?_); rintro e w2 ⟨rfl, h2⟩; obtain rfl := h2.symm)
  go_ret
  exact ⟨rfl, 0, _, by rw [alloc_eq_grow, alloc_eq_grow, grow_grow]; rfl⟩

set_option maxHeartbeats 1000000 in
theorem prising_any (w : World) (u : Value) (l : List Vr) (hl : VersL w u l) (hn : l.length ≤ 1000) : Calls Try.prog 25 #[u] w fun e w' => ∃ x, e = .returned x ∧ OE EV w (ordL l) x w' := by
  obtain ⟨⟨A, c, rfl, hA, hc, hnc⟩, _⟩ := hl
  have CC := Lib.hid (cloneV_any w A c l hA hnc hn)
  have HN := Lib.hid hn
  clear hA hc hnc hn
  go_enter Try.func25, Try.ntmps25
  go_wp2_with (first
    | (go_at_call 38; (with_reducible refine CC.out.mono ?_); rintro e w1 ⟨x1, rfl, hO1⟩; have HO1 := Lib.hid hO1; clear hO1; have CS := Lib.hid (sort_vers w1 HO1.out.own (by have := HN.out; omega) cfV stampV 40 #[] (enters_of Try.func40 (by kernel_rfl) rfl) byStamp_any))
    | (go_at_call 39; (with_reducible refine CS.out.mono ?_); rintro e w2 ⟨rfl, hown2, hg2⟩; have HO2 := Lib.hid (HO1.out.grown hg2 hown2); clear hown2 hg2))
  go_ret
  exact ⟨_, rfl, HO2.out⟩

end Go.Proofs.Ytjpkeadnccodjaa
