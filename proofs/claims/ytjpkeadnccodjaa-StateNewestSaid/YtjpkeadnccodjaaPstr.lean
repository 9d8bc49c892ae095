import Derived.Test.YtjpkeadnccodjaaPtake
import Derived.Laws.BytesArg
import Derived.Laws.Strings
/-
  Plain facts on texts: a text's bytes as numbers, and back; what a text begins with.
-/
namespace Go.Proofs.Ytjpkeadnccodjaa

/-- The text of these bytes. -/
def bytesN (l : List Nat) : ByteArray := ⟨(l.map UInt8.ofNat).toArray⟩
/-- A text's bytes. -/
def nats (s : ByteArray) : List Nat := s.data.toList.map UInt8.toNat
theorem nats_length (s : ByteArray) : (nats s).length = s.size := by rw [nats, List.length_map, Array.length_toList]; rfl
theorem nats_lt (s : ByteArray) : ∀ b ∈ nats s, b < 256 := by
  intro b hb
  obtain ⟨u, _, rfl⟩ := List.mem_map.1 hb
  exact u.toNat_lt
theorem nats_bytes {l : List Nat} (h : ∀ b ∈ l, b < 256) : nats (bytesN l) = l := by
  simp only [nats, bytesN, List.map_map]
  refine (List.map_congr_left fun b hb => ?_).trans (List.map_id l)
  have := h b hb
  simp only [Function.comp, id]
  rw [UInt8.toNat_ofNat']
  omega
theorem bytes_nats (s : ByteArray) : bytesN (nats s) = s := by
  apply ByteArray.ext
  simp only [nats, bytesN, List.map_map]
  have e : s.data.toList.map (UInt8.ofNat ∘ UInt8.toNat) = s.data.toList := (List.map_congr_left fun u _ => by simp).trans (List.map_id _)
  rw [e]
theorem nats_inj {a b : ByteArray} (h : nats a = nats b) : a = b := by rw [← bytes_nats a, h, bytes_nats]
theorem nats_append (a b : ByteArray) : nats (a ++ b) = nats a ++ nats b := by simp [nats, ByteArray.data_append]
theorem nats_extract (s : ByteArray) (i j : Nat) : nats (s.extract i j) = ((nats s).drop i).take (j - i) := by
  simp [nats, ByteArray.data_extract, List.map_drop, List.map_take]
theorem nats_nil : nats ⟨#[]⟩ = [] := rfl
theorem size_bytes (l : List Nat) : (bytesN l).size = l.length := by
  show (l.map UInt8.ofNat).toArray.size = l.length
  rw [List.size_toArray, List.length_map]
theorem str_nums (l : List Nat) : strOfNums (l.map fun n : Nat => (n : Int)) = bytesN l := by
  simp only [strOfNums, bytesN, List.map_map]
  rfl
theorem nats_get {s : ByteArray} {i : Nat} (h : i < s.size) : (nats s)[i]? = some s[i].toNat := by
  have h' : i < s.data.toList.length := by rw [Array.length_toList]; exact h
  rw [nats, List.getElem?_map, List.getElem?_eq_getElem h']
  rfl
theorem bytes_append (l m : List Nat) : bytesN (l ++ m) = bytesN l ++ bytesN m := by
  apply ByteArray.ext
  simp [bytesN, ByteArray.data_append]
theorem bytes_eq {l m : List Nat} (hl : ∀ b ∈ l, b < 256) (hm : ∀ b ∈ m, b < 256) (h : bytesN l = bytesN m) : l = m := by
  rw [← nats_bytes hl, h, nats_bytes hm]

/-- What s begins with: a number, what is behind it, and the error. -/
def tk (s : ByteArray) : Nat × ByteArray × Nat :=
  match nats s with
  | [] => (0, ⟨#[]⟩, 9)
  | c :: r =>
    if r.length < ones c then (0, ⟨#[]⟩, 9)
    else if 4611686018427387904 ≤ takeV c r ∨ kN (takeV c r) ≠ ones c then (0, ⟨#[]⟩, 8)
    else (takeV c r, s.extract (ones c + 1) s.size, 0)
def tkN (s : ByteArray) : Nat := (tk s).1
def tkR (s : ByteArray) : ByteArray := (tk s).2.1
def tkE (s : ByteArray) : Nat := (tk s).2.2
theorem tk_nil {s : ByteArray} (h : s.size = 0) : tkN s = 0 ∧ tkR s = ⟨#[]⟩ ∧ tkE s = 9 := by
  have : nats s = [] := List.eq_nil_of_length_eq_zero (by rw [nats_length]; exact h)
  simp [tkN, tkR, tkE, tk, this]
theorem tk_short {s : ByteArray} {c : Nat} {r : List Nat} (h : nats s = c :: r) (hl : r.length < ones c) : tkN s = 0 ∧ tkR s = ⟨#[]⟩ ∧ tkE s = 9 := by
  simp [tkN, tkR, tkE, tk, h, hl]
theorem tk_form {s : ByteArray} {c : Nat} {r : List Nat} (h : nats s = c :: r) (hl : ones c ≤ r.length) (hf : 4611686018427387904 ≤ takeV c r ∨ kN (takeV c r) ≠ ones c) : tkN s = 0 ∧ tkR s = ⟨#[]⟩ ∧ tkE s = 8 := by
  have : ¬ r.length < ones c := by omega
  simp [tkN, tkR, tkE, tk, h, this, hf]
theorem tk_good {s : ByteArray} {c : Nat} {r : List Nat} (h : nats s = c :: r) (hl : ones c ≤ r.length) (hm : takeV c r < 4611686018427387904) (hk : kN (takeV c r) = ones c) : tkN s = takeV c r ∧ tkR s = s.extract (ones c + 1) s.size ∧ tkE s = 0 := by
  have h1 : ¬ r.length < ones c := by omega
  have h2 : ¬ (4611686018427387904 ≤ takeV c r ∨ kN (takeV c r) ≠ ones c) := by omega
  simp [tkN, tkR, tkE, tk, h, h1, h2]
theorem tk_cases (s : ByteArray) : (tkN s = 0 ∧ tkR s = ⟨#[]⟩ ∧ (tkE s = 8 ∨ tkE s = 9)) ∨ ∃ c r, nats s = c :: r ∧ ones c ≤ r.length ∧ takeV c r < 4611686018427387904 ∧ kN (takeV c r) = ones c ∧ tkN s = takeV c r ∧ tkR s = s.extract (ones c + 1) s.size ∧ tkE s = 0 := by
  cases h : nats s with
  | nil =>
    have := tk_nil (s := s) (by rw [← nats_length, h]; rfl)
    exact .inl ⟨this.1, this.2.1, .inr this.2.2⟩
  | cons c r =>
    rcases Nat.lt_or_ge r.length (ones c) with h1 | h1
    · have := tk_short h h1
      exact .inl ⟨this.1, this.2.1, .inr this.2.2⟩
    · by_cases h2 : 4611686018427387904 ≤ takeV c r ∨ kN (takeV c r) ≠ ones c
      · have := tk_form h h1 h2
        exact .inl ⟨this.1, this.2.1, .inl this.2.2⟩
      · have h3 : takeV c r < 4611686018427387904 ∧ kN (takeV c r) = ones c := by omega
        exact .inr ⟨c, r, rfl, h1, h3.1, h3.2, tk_good h h1 h3.1 h3.2⟩
theorem tkN_lt (s : ByteArray) : tkN s < 4611686018427387904 := by
  rcases tk_cases s with ⟨h, _⟩ | ⟨c, r, _, _, h1, _, h2, _⟩ <;> omega
theorem tkE_cases (s : ByteArray) : tkE s = 0 ∨ tkE s = 8 ∨ tkE s = 9 := by
  rcases tk_cases s with ⟨_, _, h⟩ | ⟨c, r, _, _, _, _, _, _, h⟩ <;> omega
theorem tkR_size (s : ByteArray) : (tkR s).size ≤ s.size := by
  rcases tk_cases s with ⟨_, h, _⟩ | ⟨c, r, _, _, _, _, _, h, _⟩
  · rw [h]; exact Nat.zero_le _
  · rw [h, ByteArray.size_extract]; omega
theorem tk_err {s : ByteArray} (h : tkE s ≠ 0) : tkN s = 0 ∧ tkR s = ⟨#[]⟩ := by
  rcases tk_cases s with ⟨h1, h2, _⟩ | ⟨c, r, _, _, _, _, _, _, h3⟩
  · exact ⟨h1, h2⟩
  · exact absurd h3 h

/-- The bytes of a number. -/
def encS (n : Nat) : ByteArray := bytesN (enc n)
theorem enc_lt {n : Nat} (hn : n < 4611686018427387904) : ∀ b ∈ enc n, b < 256 := by
  intro b hb
  rcases List.mem_cons.1 hb with rfl | h
  · exact (topB_range hn).2.1
  · exact be_lt _ _ _ h
theorem encS_size (n : Nat) : (encS n).size = kN n + 1 := by rw [encS, size_bytes, enc_length]
theorem nats_encS {n : Nat} (hn : n < 4611686018427387904) : nats (encS n) = enc n := nats_bytes (enc_lt hn)
/-- A number's bytes are taken as it, whatever is behind them. -/
theorem tk_enc {n : Nat} (hn : n < 4611686018427387904) (b : ByteArray) : tkN (encS n ++ b) = n ∧ tkR (encS n ++ b) = b ∧ tkE (encS n ++ b) = 0 := by
  have h : nats (encS n ++ b) = topB n :: (be (kN n) n ++ nats b) := by rw [nats_append, nats_encS hn]; rfl
  have ht := topB_range hn
  have hv := takeV_enc hn (nats b)
  have g := tk_good h (by rw [ht.2.2.1, List.length_append, be_length]; omega) (by rw [hv]; exact hn) (by rw [hv, ht.2.2.1])
  refine ⟨g.1.trans hv, g.2.1.trans ?_, g.2.2⟩
  apply nats_inj
  rw [nats_extract, nats_append, nats_encS hn, ht.2.2.1, List.drop_append_of_le_length (by rw [enc_length]; omega), List.drop_of_length_le (by rw [enc_length]; omega), List.nil_append]
  apply List.take_of_length_le
  rw [nats_length, ByteArray.size_append, encS_size]
  omega
/-- What is taken is laid as the same bytes. -/
theorem tk_again {s : ByteArray} (h : tkE s = 0) : encS (tkN s) ++ tkR s = s := by
  rcases tk_cases s with ⟨_, _, h1⟩ | ⟨c, r, hs, hl, _, hk, hn, hr, _⟩
  · omega
  · have hb : ∀ b ∈ r, b < 256 := fun b hb => nats_lt s b (by rw [hs]; exact List.mem_cons_of_mem _ hb)
    have hc : c < 256 := nats_lt s c (by rw [hs]; exact List.mem_cons_self)
    apply nats_inj
    rw [nats_append, hr, hn, encS, enc_takeV hb hl hk, nats_bytes (fun b h => by
      rcases List.mem_cons.1 h with rfl | h
      · exact hc
      · exact hb b (List.mem_of_mem_take h)), nats_extract, ← nats_length, hs]
    rw [List.drop_succ_cons, List.take_of_length_le (l := List.drop _ _) (by rw [List.length_drop, List.length_cons]; omega), List.cons_append, List.take_append_drop]

/-- The bytes of a text. -/
def textS (s : ByteArray) : ByteArray := encS s.size ++ s
/-- What s begins with, as a text of at most so many bytes. -/
def tt (s : ByteArray) (most : Int) : ByteArray × ByteArray × Nat :=
  if tkE s ≠ 0 then (⟨#[]⟩, ⟨#[]⟩, tkE s) else if most < tkN s then (⟨#[]⟩, ⟨#[]⟩, 4) else if (tkR s).size < tkN s then (⟨#[]⟩, ⟨#[]⟩, 9)
  else ((tkR s).extract 0 (tkN s), (tkR s).extract (tkN s) (tkR s).size, 0)
def ttS (s : ByteArray) (most : Int) : ByteArray := (tt s most).1
def ttR (s : ByteArray) (most : Int) : ByteArray := (tt s most).2.1
def ttE (s : ByteArray) (most : Int) : Nat := (tt s most).2.2
theorem tt_text {s b : ByteArray} {most : Int} (hs : s.size < 4611686018427387904) (hm : s.size ≤ most) : ttS (textS s ++ b) most = s ∧ ttR (textS s ++ b) most = b ∧ ttE (textS s ++ b) most = 0 := by
  have e : textS s ++ b = encS s.size ++ (s ++ b) := by rw [textS, ByteArray.append_assoc]
  obtain ⟨h1, h2, h3⟩ := tk_enc hs (s ++ b)
  rw [e]
  have k1 : ¬ most < (s.size : Int) := by omega
  have k2 : ¬ (s ++ b).size < s.size := by rw [ByteArray.size_append]; omega
  simp only [ttS, ttR, ttE, tt, h1, h2, h3, ne_eq, not_true_eq_false, if_false, k1, k2]
  refine ⟨?_, ?_, trivial⟩
  · apply nats_inj
    rw [nats_extract, nats_append, List.drop_zero, List.take_append_of_le_length (by rw [nats_length]; omega), List.take_of_length_le (by rw [nats_length]; omega)]
  · apply nats_inj
    rw [nats_extract, nats_append, List.drop_append_of_le_length (by rw [nats_length]; omega), List.drop_of_length_le (by rw [nats_length]; omega), List.nil_append, List.take_of_length_le (by rw [nats_length, ByteArray.size_append]; omega)]
theorem tt_big {s b : ByteArray} {most : Int} (hs : s.size < 4611686018427387904) (hm : most < s.size) : ttS (textS s ++ b) most = ⟨#[]⟩ ∧ ttR (textS s ++ b) most = ⟨#[]⟩ ∧ ttE (textS s ++ b) most = 4 := by
  have e : textS s ++ b = encS s.size ++ (s ++ b) := by rw [textS, ByteArray.append_assoc]
  obtain ⟨h1, h2, h3⟩ := tk_enc hs (s ++ b)
  rw [e]
  simp [ttS, ttR, ttE, tt, h1, h3, hm]
theorem tt_again {s : ByteArray} {most : Int} (h : ttE s most = 0) : textS (ttS s most) ++ ttR s most = s := by
  unfold ttE tt at h
  by_cases h0 : tkE s ≠ 0
  · rw [if_pos h0] at h; exact absurd h h0
  · by_cases h1 : most < tkN s
    · rw [if_neg h0, if_pos h1] at h; simp at h
    · by_cases h2 : (tkR s).size < tkN s
      · rw [if_neg h0, if_neg h1, if_pos h2] at h; simp at h
      · simp only [ttS, ttR, tt, if_neg h0, if_neg h1, if_neg h2]
        have hz : ((tkR s).extract 0 (tkN s)).size = tkN s := by rw [ByteArray.size_extract]; omega
        have hj : (tkR s).extract 0 (tkN s) ++ (tkR s).extract (tkN s) (tkR s).size = tkR s := by
          apply nats_inj
          rw [nats_append, nats_extract, nats_extract, List.drop_zero, Nat.sub_zero, ← nats_length, List.take_of_length_le (l := List.drop _ _) (by rw [List.length_drop]; omega), List.take_append_drop]
        rw [textS, hz, ByteArray.append_assoc, hj]
        exact tk_again (by omega)

end Go.Proofs.Ytjpkeadnccodjaa
