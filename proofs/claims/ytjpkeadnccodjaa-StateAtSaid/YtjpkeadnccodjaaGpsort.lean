/-
  Sorting a list of fields of the call's own by their names.
-/
import Derived.Test.YtjpkeadnccodjaaGpperm
import Derived.Test.YtjpkeadnccodjaaShelfB
import Derived.Test.YtjpkeadnccodjaaShelf
namespace Go.Proofs.Ytjpkeadnccodjaa
open Go.RowKit Go.Sort Go.Shelf

instance inhabitedFd : Inhabited Fd := ⟨⟨⟨#[]⟩, 0⟩⟩
/-- A field's two cells. -/
def encF (x : Fd) : List Value := [.string x.n, .int .i64 x.v]
theorem getBangF {l : List Fd} {i : Nat} {p : Fd} (h : l[i]? = some p) : l.toArray[i]! = p := by
  obtain ⟨hl, he⟩ := List.getElem?_eq_some_iff.1 h
  rw [getElem!_pos l.toArray i (by simpa using hl)]
  simpa using he
theorem holds_ownF {w : World} {g : Nat} {cur : Array Value} {ty : TypeId} {l : List Fd} (hb : w.heap[g]? = some (.cells cur ty (0, 0))) (ht : cur.toList.take (l.length * 2) = flatF l) : HoldsK encF 2 w g 0 l.toArray := by
  intro j hj
  rw [size_flatK] at hj
  have hj' : j < l.length * 2 := by simpa using hj
  have hc : cur[j]? = (flatF l)[j]? := by
    rw [← ht, List.getElem?_take, if_pos hj']
    simp
  obtain ⟨p, hp⟩ : ∃ p, l[j / 2]? = some p := ⟨_, List.getElem?_eq_getElem (by omega)⟩
  obtain ⟨e0, e1⟩ := flatF_get l (j / 2) p hp
  refine ⟨?_, by simp [World.frozen?, hb]⟩
  rw [get_flatK _ _ _ _ hj, getBangF hp]
  rcases Nat.mod_two_eq_zero_or_one j with h | h
  · rw [show j / 2 * 2 = j from by omega] at e0
    rw [e0] at hc
    simp [World.cell?, hb, hc, h, encF]
  · rw [show j / 2 * 2 + 1 = j from by omega] at e1
    rw [e1] at hc
    simp [World.cell?, hb, hc, h, encF]
theorem below_sortedF {w : World} {base g n : Nat} {d : Array Fd} {os : Array Obj} (hg : base ≤ g) (hs : base ≤ w.heap.size) : Below base w (sortWorldK encF 2 w g 0 n d os) := by
  refine ⟨rfl, rfl, rfl, ?_, fun k hk => ?_⟩
  · simp [sortWorldK, putRowK, putRow, mapBlock, grow, Sort.ahead]
  · simp only [sortWorldK, putRowK, putRow, mapBlock, grow, Sort.ahead]
    rw [Array.getElem?_append_left (by simp; omega), Array.getElem?_modify, if_neg (by omega)]

/-- How byName tells two fields apart. -/
def cfF (x y : Fd) : Int := Lib.compareBytes x.n.data.toList y.n.data.toList
theorem ltF (x y : Fd) : ltOf cfF x y = aheadB x.n y.n := by
  unfold ltOf cfF aheadB
  rw [Bool.eq_iff_iff, decide_eq_true_eq]
  exact cmp_lt _ _
theorem swoF : SWO (ltOf cfF) where
  irrefl x := by rw [ltF]; exact lessN_self _
  trans x y z h1 h2 := by rw [ltF] at *; exact lessN_trans _ _ _ h1 h2
  ntrans x y z h1 h2 := by
    rw [ltF] at *
    cases h : aheadB x.n z.n with
    | false => rfl
    | true =>
      unfold aheadB at *
      rcases lessN_or (nats y.n) (nats z.n) with k | k | k
      · rw [k] at h2; cases h2
      · have := lessN_trans _ _ _ h k
        rw [this] at h1; cases h1
      · rw [← k, h1] at h; cases h

set_option maxHeartbeats 1000000 in
theorem byName_any (x y : Fd) (W : World) : Calls Try.prog 47 #[fv x, fv y] W fun e w' => e = .returned (.int .i64 (cfF x y)) ∧ ∃ q os', w' = grow (W.drewN q) os' := by
  have hcon := fun W' => Try.strings_Compare x.n y.n W'
  unfold cfF
  generalize Lib.compareBytes x.n.data.toList y.n.data.toList = r at hcon ⊢
  go_enter Try.func47, Try.ntmps47
  go_wp2_with (go_at_call 53; refine (hcon _).mono ?_; rintro e w' ⟨rfl, rfl⟩)
  go_ret
  exact ⟨rfl, 0, _, by rw [alloc_eq_grow, alloc_eq_grow, grow_grow]; rfl⟩

theorem encF_one (x : Fd) (v : Value) (hv : v ∈ encF x) : v.oneCell' = true := by
  simp [encF] at hv
  rcases hv with rfl | rfl <;> rfl
/-- What the sort leaves. -/
def SortPost (base : Nat) (v : Value) (l : List Fd) (w : World) (e : Ending) (w' : World) : Prop :=
  e = .returned (.tuple #[]) ∧ ∃ m, l.Perm m ∧ m.Pairwise (fun x y => aheadB y.n x.n = false) ∧ ListF w' v m ∧ Below base w w'
theorem sorted_ofF {base g cap n : Nat} {l : List Fd} {w : World} {d' : Array Fd} {os : Array Obj} (hH : HoldsK encF 2 w g 0 l.toArray) (hblk : g < w.heap.size) (hbase : base ≤ g) (hcap : l.length ≤ cap)
    (hp : PermIn 0 l.toArray.size l.toArray d') (hs : SortedIn (ltOf cfF) 0 l.toArray.size d') : SortPost base (.slice (some ⟨g, 0, none⟩) l.length cap) l w (.returned (.tuple #[])) (sortWorldK encF 2 w g 0 n d' os) := by
  have hsz : d'.size = l.length := by simpa using hp.1
  have hlen : d'.toList.length = l.length := by simpa using hsz
  refine ⟨rfl, d'.toList, ?_, ?_, ⟨some ⟨g, 0, none⟩, cap, by rw [hlen], ?_, by rw [hlen]; exact hcap, fun h => by cases h⟩, below_sortedF hbase (by omega)⟩
  · have := hp.2.2
    simp only [List.size_toArray] at this
    rw [← hsz] at this
    simp only [Array.extract_size] at this
    rw [hsz] at this
    rw [show l.length = l.toArray.size from by simp, Array.extract_size] at this
    have h2 : d'.toList.Perm l := by simpa using this
    exact h2.symm
  · rw [List.pairwise_iff_getElem]
    intro i j hi hj hij
    have hi' : i < d'.size := by simpa using hi
    have hj' : j < d'.size := by simpa using hj
    have := hs i j (Nat.zero_le _) hij (by simp; omega)
    rw [getElem!_pos d' i hi', getElem!_pos d' j hj', ltF] at this
    simpa using this
  · intro i p hi
    have hi' : i < d'.size := by simpa using (List.getElem?_eq_some_iff.1 hi).1
    have hK := holdsK_sortWorldK encF 2 w g 0 n l.toArray d' os hblk hH (by simpa using hsz)
    have c0 := (hK.cell hi' (c := 0) (by omega)).1
    have c1 := (hK.cell hi' (c := 1) (by omega)).1
    have e : d'[i]! = p := by
      rw [getElem!_pos d' i hi']
      rw [Array.getElem?_toList, Array.getElem?_eq_getElem hi'] at hi
      injection hi
    rw [e] at c0 c1
    exact ⟨g, 0, rfl, by simpa [encF] using c0, by simpa [encF] using c1⟩
theorem sort_fields {base : Nat} {v : Value} {l : List Fd} (w : World) (hown : ownF w base v l) (hl : l.length < 4611686018427387904) (hb0 : base ≤ w.heap.size) :
    Calls Try.prog 46 #[v, .func (.func 47) #[] #[]] w (SortPost base v l w) := by
  rcases hown.2 with ⟨rfl, h0⟩ | ⟨g, cap, cur, rfl, hbase, hb, hn, hcap, hcs, ht⟩
  · obtain rfl := List.eq_nil_of_length_eq_zero h0
    refine (AnyF.slices_SortFunc_none Try.sortField none 0 _ w).mono ?_
    rintro e w' ⟨rfl, rfl⟩
    exact ⟨rfl, [], List.Perm.refl _, List.Pairwise.nil, ListF.nil _, Below.refl _ _⟩
  · have hlt : g < w.heap.size := (Array.getElem?_eq_some_iff.1 hb).1
    have hH := holds_ownF hb ht
    have hcon := AnyQ.slices_SortFunc Try.sortField 2 Try.isAgg48 Try.sizeOf48 encF (fun _ => rfl) encF_one cfF swoF 47 #[] g 0 cap l.toArray w (enters_of Try.func47 (by kernel_rfl) rfl) (fun _ _ _ _ x y => byName_any x y _) hH hlt (by simpa using hl)
    change Calls Try.prog 46 _ _ _ at hcon
    simp only [List.size_toArray] at hcon
    refine hcon.mono ?_
    rintro e w' ⟨rfl, d', n, os, hp, hs, rfl⟩
    exact sorted_ofF hH hlt hbase hn (by simpa using hp) (by simpa using hs)
/-- In order, and no name twice: names rise. -/
theorem rises_of : ∀ l : List Fd, l.Pairwise (fun x y => aheadB y.n x.n = false) → Apart l → Rises l
  | [], _, _ => trivial
  | f :: l, h, ha => by
    obtain ⟨h1, h2⟩ := List.pairwise_cons.1 h
    obtain ⟨a1, a2⟩ := List.pairwise_cons.1 ha
    refine ⟨fun g hg => ?_, rises_of l h2 a2⟩
    have := h1 g hg
    unfold aheadB at this ⊢
    rcases lessN_or (nats f.n) (nats g.n) with h | h | h
    · exact h
    · rw [h] at this; cases this
    · exact absurd h (a1 g hg)

end Go.Proofs.Ytjpkeadnccodjaa
