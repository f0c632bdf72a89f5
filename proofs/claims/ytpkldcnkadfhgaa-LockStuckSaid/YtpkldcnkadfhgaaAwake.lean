/- The function awake of the statements returns true; what a statement's call keeps. -/
import Derived.Test.YtpkldcnkadfhgaaMake
import Derived.Test.YtpkldcnkadfhgaaFree
namespace Go.Proofs.Ytpkldcnkadfhgaa
open Go.RowKit

/-- A statement's table, in blocks that the call has made. -/
structure Om (w0 : World) (bl : Blocks) (tb : Nat) (t : Lk.T) (wr : World) : Prop where
  tab : Tab wr bl tb t
  ge : ∀ r k, bl r = some k → w0.heap.size ≤ k
  bel : Below w0.heap.size w0 wr
theorem Om.gone {w0 wr W : World} {bl : Blocks} {tb : Nat} {t t' : Lk.T} (h : Om w0 bl tb t wr) (hG : Gone wr bl tb t' W) : ∃ bl', Om w0 bl' tb t' W ∧ (∀ r k, bl' r = some k → bl r = some k ∨ wr.heap.size ≤ k) ∧ Fr (Fp bl) wr W := by
  obtain ⟨bl', h1, h2, h3⟩ := hG
  have hz := h.bel.size
  refine ⟨bl', ⟨h1, fun r k e => ?_, h.bel.trans (h3.below (fun x ⟨r, e⟩ => h.ge r x e) hz)⟩, h2, h3⟩
  rcases h2 r k e with e' | e'
  · exact h.ge r k e'
  · omega
theorem Om.below {w0 wr W : World} {bl : Blocks} {tb : Nat} {t : Lk.T} (h : Om w0 bl tb t wr) (hb : Below wr.heap.size wr W) : Om w0 bl tb t W :=
  ⟨h.tab.below hb, h.ge, h.bel.trans (hb.mono h.bel.size)⟩
theorem Om.new {w W : World} (h : Tab W (bl0 w.heap.size) w.heap.size Lk.new) (hb : Below w.heap.size w W) : Om w (bl0 w.heap.size) w.heap.size Lk.new W :=
  ⟨h, fun r k e => by unfold bl0 at e; split at e <;> simp at e; omega, hb⟩

def awT1 : Lk.T := ⟨[⟨1, 1, [], []⟩], []⟩
def awT2 : Lk.T := ⟨[⟨1, 0, [(7, 1)], []⟩], []⟩
def awT3 : Lk.T := ⟨[⟨1, 0, [(7, 1)], [8]⟩], [(8, 1)]⟩
def awT4 : Lk.T := ⟨[⟨1, 0, [(8, 1)], []⟩], []⟩
def goneTo (w : World) (bl : Blocks) (tb : Nat) (t : Lk.T) (v : Value) (e : Ending) (w' : World) : Prop := e = .returned v ∧ Gone w bl tb t w'

theorem aw_make (w : World) (bl : Blocks) (tb : Nat) (h : Tab w bl tb Lk.new) : Calls Try.prog 14 #[.pointer (some ⟨tb, 0, none⟩), .int .i64 1] w (goneTo w bl tb awT1 (.tuple #[.int .i64 1, .int .i64 0])) := by
  refine (make_any bl tb Lk.new 1 w h).mono ?_
  rintro e w' hp
  unfold makePost at hp
  rw [if_neg (by omega), if_neg (by simp [Lk.new])] at hp
  exact ⟨by rw [hp.1]; simp [Lk.new], hp.2⟩
theorem one_i {i : Nat} (h : (1 : Int) = (i : Int) + 1) : i = 0 := by omega
theorem aw_hold7 (w : World) (bl : Blocks) (tb : Nat) (h : Tab w bl tb awT1) : Calls Try.prog 15 #[.pointer (some ⟨tb, 0, none⟩), .int .i64 1, .int .i64 7] w (goneTo w bl tb awT2 (.tuple #[.bool true, .int .i64 0])) := by
  refine (hold_any bl tb awT1 1 7 w h (by decide)).mono ?_
  rintro e w' hp
  unfold holdPost at hp
  rw [if_neg (by decide), if_neg (by decide)] at hp
  obtain ⟨i, l, hi, hl, -, he, hg⟩ := hp
  obtain rfl := one_i hi
  have : l = ⟨1, 1, [], []⟩ := by simpa [awT1] using hl.symm
  subst this
  exact ⟨he, hg⟩
theorem aw_hold8 (w : World) (bl : Blocks) (tb : Nat) (h : Tab w bl tb awT2) : Calls Try.prog 15 #[.pointer (some ⟨tb, 0, none⟩), .int .i64 1, .int .i64 8] w (goneTo w bl tb awT3 (.tuple #[.bool false, .int .i64 0])) := by
  refine (hold_any bl tb awT2 1 8 w h (by decide)).mono ?_
  rintro e w' hp
  unfold holdPost at hp
  rw [if_neg (by decide), if_neg (by decide)] at hp
  obtain ⟨i, l, hi, hl, -, he, hg⟩ := hp
  obtain rfl := one_i hi
  have : l = ⟨1, 0, [(7, 1)], []⟩ := by simpa [awT2] using hl.symm
  subst this
  exact ⟨he, hg⟩
theorem aw_free (w : World) (bl : Blocks) (tb : Nat) (h : Tab w bl tb awT3) : Calls Try.prog 16 #[.pointer (some ⟨tb, 0, none⟩), .int .i64 1, .int .i64 7] w (goneTo w bl tb awT4 (.tuple #[.int .i64 8, .int .i64 0])) := by
  refine (free_any bl tb awT3 1 7 w h).mono ?_
  rintro e w' hp
  unfold freePost at hp
  rw [if_neg (by decide)] at hp
  obtain ⟨i, l, hi, hl, -, hq⟩ := hp
  obtain rfl := one_i hi
  have : l = ⟨1, 0, [(7, 1)], [8]⟩ := by simpa [awT3] using hl.symm
  subst this
  rcases hq with ⟨h0, -⟩ | ⟨-, he, hg⟩
  · exact absurd h0 (by decide)
  · exact ⟨he, hg⟩

set_option maxRecDepth 100000 in
set_option maxHeartbeats 4000000 in
theorem awake_any (w : World) : Calls Try.prog 13 #[] w (still w (.bool true)) := by
  unfold still
  go_enter Try.func13, Try.ntmps13
  go_wp2_with fail
  refine (new_any w).mono ?_
  rintro e w1 ⟨rfl, hT1, hB1⟩
  have H1 := Lib.hid (Om.new hT1 hB1)
  clear hT1 hB1
  have A1 := Lib.hid (aw_make w1 _ _ H1.out.tab)
  unfold goneTo at A1
  go_wp2_with fail
  refine A1.out.mono ?_
  rintro e w2 ⟨rfl, hG2⟩
  obtain ⟨bl2, h2, -, -⟩ := H1.out.gone hG2
  have H2 := Lib.hid h2
  clear hG2 h2 A1
  have A2 := Lib.hid (aw_hold7 w2 _ _ H2.out.tab)
  unfold goneTo at A2
  go_wp2_with fail
  refine A2.out.mono ?_
  rintro e w3 ⟨rfl, hG3⟩
  obtain ⟨bl3, h3, -, -⟩ := H2.out.gone hG3
  have H3 := Lib.hid h3
  clear hG3 h3 A2
  have A3 := Lib.hid (aw_hold8 w3 _ _ H3.out.tab)
  unfold goneTo at A3
  go_wp2_with fail
  refine A3.out.mono ?_
  rintro e w4 ⟨rfl, hG4⟩
  obtain ⟨bl4, h4, -, -⟩ := H3.out.gone hG4
  have H4 := Lib.hid h4
  clear hG4 h4 A3
  have A4 := Lib.hid (aw_free w4 _ _ H4.out.tab)
  unfold goneTo at A4
  go_wp2_with fail
  refine A4.out.mono ?_
  rintro e w5 ⟨rfl, hG5⟩
  obtain ⟨bl5, h5, -, -⟩ := H4.out.gone hG5
  have H5 := Lib.hid h5.bel
  clear hG5 h5 A4
  go_wp2
  go_ret
  exact ⟨rfl, H5.out⟩
end Go.Proofs.Ytpkldcnkadfhgaa
