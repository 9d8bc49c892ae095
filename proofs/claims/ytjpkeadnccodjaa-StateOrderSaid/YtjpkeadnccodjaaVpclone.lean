/-
  slices.Clone of fields and of versions.
-/
import Derived.Test.YtjpkeadnccodjaaVmem
namespace Go.Proofs.Ytjpkeadnccodjaa
open Go.RowKit

set_option maxHeartbeats 1000000 in
set_option maxRecDepth 100000 in
theorem cloneF_any (w : World) (A : Option Addr) (c : Nat) (l : List Fd) (hF : Fields w A l) (hnc : A = none → c = 0) (hn : l.length ≤ 1000) :
    Calls Try.prog 26 #[.slice A l.length c] w fun e w' => ∃ v, e = .returned v ∧ OF w l v w' := by
  have q22 : ∀ (w : World) (a : Option Addr) (n c n' c' : Nat), (binOp .eql 29 (.slice a n c) (.slice none n' c')).run Try.prog w = .ok (.bool a.isNone) w := fun w a n c n' c' => Lib.run_eql_slice_nil w _ _ a n c n' c' Try.underlying29
  rcases A with _ | ad
  · obtain rfl : l = [] := by
      rcases l with _ | ⟨x, xs⟩
      · rfl
      · obtain ⟨_, _, h, _⟩ := hF 0 x (by simp)
        cases h
    obtain rfl := hnc rfl
    go_enter Try.func26, Try.ntmps26
    go_wp2_with fail
    go_ret
    exact ⟨_, rfl, OF.nil w⟩
  · have HF := Lib.hid hF
    have HO := Lib.hid (show OF w [] (.slice (some ⟨w.heap.size, 0, none⟩) 0 0) (w.alloc (.cells #[] FT)) from ⟨own_emptyF (heap_alloc_new w _) (Nat.le_refl _), (bl w).alloc (Nat.le_refl _) _⟩)
    clear hF hnc
    obtain ⟨n, hnm⟩ : ∃ n, l.length = n := ⟨_, rfl⟩
    rw [hnm] at hn ⊢
    have HN := Lib.hid hnm
    clear hnm
    go_enter Try.func26, Try.ntmps26
    go_wp2_with (first
      | (at_builtin; refine wpList_appF rfl (.tmp 5) (.tmp 6) rfl rfl HO.out.own rfl HN.out.symm (HF.out.below ((bl w).alloc (Nat.le_refl _) _)) (fun h => by cases h) (by simp; have := HN.out; omega) (by simp) ?_; intro v' w3 hown3 hg3; have HN3 := Lib.hid (HO.out.grown hg3 hown3); clear hown3 hg3)
      | go_in)
    go_ret
    exact ⟨_, rfl, by simpa using HN3.out⟩

set_option maxHeartbeats 1000000 in
set_option maxRecDepth 100000 in
theorem cloneV_any (w : World) (A : Option Addr) (c : Nat) (l : List Vr) (hF : RowE EV w A l) (hnc : A = none → c = 0) (hn : l.length ≤ 1000) :
    Calls Try.prog 38 #[.slice A l.length c] w fun e w' => ∃ v, e = .returned v ∧ OE EV w l v w' := by
  have q22 : ∀ (w : World) (a : Option Addr) (n c n' c' : Nat), (binOp .eql 22 (.slice a n c) (.slice none n' c')).run Try.prog w = .ok (.bool a.isNone) w := fun w a n c n' c' => Lib.run_eql_slice_nil w _ _ a n c n' c' Try.underlying22
  rcases A with _ | ad
  · obtain rfl : l = [] := by
      rcases l with _ | ⟨x, xs⟩
      · rfl
      · obtain ⟨_, _, h, _⟩ := hF 0 x (by simp)
        cases h
    obtain rfl := hnc rfl
    go_enter Try.func38, Try.ntmps38
    go_wp2_with fail
    go_ret
    exact ⟨_, rfl, OE.nil w⟩
  · have HF := Lib.hid hF
    have HO := Lib.hid (show OE EV w [] (.slice (some ⟨w.heap.size, 0, none⟩) 0 0) (w.alloc (.cells #[] 45)) from ⟨ownE_empty (E := EV) (heap_alloc_new w _) (Nat.le_refl _), (bl w).alloc (Nat.le_refl _) _⟩)
    clear hF hnc
    obtain ⟨n, hnm⟩ : ∃ n, l.length = n := ⟨_, rfl⟩
    rw [hnm] at hn ⊢
    have HN := Lib.hid hnm
    clear hnm
    go_enter Try.func38, Try.ntmps38
    go_wp2_with (first
      | (at_builtin; refine wpList_appE (E := EV) rfl (.tmp 5) (.tmp 6) rfl rfl (base := w.heap.size) rfl HO.out.own rfl HN.out.symm (HF.out.below ((bl w).alloc (Nat.le_refl _) _)) (fun h => by cases h) (by simp; have := HN.out; omega) (by simp) ?_; intro v' w3 hown3 hg3; have HN3 := Lib.hid (HO.out.grown hg3 hown3); clear hown3 hg3)
      | go_in)
    go_ret
    exact ⟨_, rfl, by simpa using HN3.out⟩

end Go.Proofs.Ytjpkeadnccodjaa
