/- Contracts of the program's functions. -/
import Derived.Test.YtjpahjfjpkbcnaaGreatS04
import Derived.Test.YtjpahjfjpkbcnaaGreatS05
import Derived.Test.YtjpahjfjpkbcnaaGreatS02
import Derived.Scope
import Derived.Test.YtjpahjfjpkbcnaaGreatS01
import Derived.Lib.MakeNoZero
import Derived.Laws.CopyOwn
import Derived.Deep.RegionLaw
import Derived.OwnWalk
import Derived.Deep.CutRange
import Derived.Laws.IdiomStrings

namespace Go.Proofs.YtjpahjfjpkbcnaaGreat
open Go.Proofs Go.RowKit
abbrev NS := Nat × (List UInt8 → Bool)
abbrev Ch := NS → ByteArray → ByteArray × NS
def chL (ch : Ch) : NS → List ByteArray → List ByteArray × NS
 | σ, [] => ([], σ)
 | σ, s :: ss => ((ch σ s).1 :: (chL ch (ch σ s).2 ss).1, (chL ch (ch σ s).2 ss).2)
theorem chL_snoc (ch : Ch) : ∀ (ss : List ByteArray) (σ : NS) (s : ByteArray), chL ch σ (ss ++ [s]) = ((chL ch σ ss).1 ++ [(ch (chL ch σ ss).2 s).1], (ch (chL ch σ ss).2 s).2)
 | [], σ, s => rfl
 | x :: ss, σ, s => by
  have := chL_snoc ch ss (ch σ x).2 s
  simp only [List.cons_append, chL, this]
theorem chL_len (ch : Ch) : ∀ (ss : List ByteArray) (σ : NS), (chL ch σ ss).1.length = ss.length
 | [], _ => rfl
 | x :: ss, σ => by simp [chL, chL_len ch ss]
def scp (ch : Ch) (bnd : Nat → List ByteArray) (sc : Sc) (σ : NS) : Nat → List Sc × NS
 | 0 => ([], σ)
 | n + 1 => ((scp ch bnd sc σ n).1 ++ [pushS (bnd n) (chL ch (scp ch bnd sc σ n).2 (bnd n)).1 sc], (chL ch (scp ch bnd sc σ n).2 (bnd n)).2)
theorem scp_len (ch : Ch) (bnd : Nat → List ByteArray) (sc : Sc) (σ : NS) : ∀ n, (scp ch bnd sc σ n).1.length = n
 | 0 => rfl
 | n + 1 => by simp [scp, scp_len ch bnd sc σ n]
def asOf : Sc → ByteArray
 | (_, s) :: _ => s
 | [] => ⟨#[]⟩
def rebText (T : Tm) (scs : List Sc) : ByteArray := if T.op = 5 ∨ T.op = 27 ∨ T.op = 7 then asOf (scs.getD (T.kids.length - 1) []) else T.text
def rebPats (T : Tm) (scs : List Sc) : List Pt := if T.op = 15 then (List.range T.pats.length).map fun i => renP (scs.getD (i + 1) []) (T.pats.getD i default) else []
structure Chs (g : FuncId) (caps : Array Value) (base : Nat) (J : NS → World → Prop) (M : Nat → Prop) (ch : Ch) : Prop where
 eg : ∀ args w, (callFunc g args).run Tryz.prog w = .ok (.enter g args) w
 keep : ∀ σ (S : Nat → Prop) W W', J σ W → Kept S W W' → (∀ b, S b → base ≤ b) → J σ W'
 call : ∀ σ s W, J σ W → base ≤ W.heap.size → σ.1 ≤ 100000000 → s.size ≤ maxLen → Calls Tryz.prog g (#[.string s] ++ caps) W fun e W' => e = .returned (.string (ch σ s).1) ∧ J (ch σ s).2 W' ∧ Kept M W W'
 size : ∀ σ s, s.size ≤ maxLen → (ch σ s).1.size ≤ maxLen
 count : ∀ σ s, (ch σ s).2.1 ≤ σ.1 + 1
theorem Chs.countL {g : FuncId} {caps : Array Value} {base : Nat} {J : NS → World → Prop} {M : Nat → Prop} {ch : Ch} (h : Chs g caps base J M ch) : ∀ (ss : List ByteArray) (σ : NS), (chL ch σ ss).2.1 ≤ σ.1 + ss.length
 | [], σ => Nat.le_refl _
 | s :: ss, σ => by
  have h1 := h.count σ s
  have h2 := h.countL ss (ch σ s).2
  simp only [chL, List.length_cons]
  omega
theorem with_ch {g : FuncId} {caps : Array Value} {base : Nat} {J : NS → World → Prop} {M : Nat → Prop} {ch : Ch} (H : Chs g caps base J M ch) (σ : NS) (B : Nat → Prop)
  (names : List ByteArray) (sc : Sc) (vs nv : Value) (w : World) (hw : base ≤ w.heap.size) (hB : ∀ b, B b → b < w.heap.size ∧ ¬ M b) (hM : ∀ b, M b → b < base)
  (hn : SlIn B nv names.length fun b o => StrsAt w names b o) (hs : ScIn B w sc vs) (hl : names.length ≤ 1000000) (hσ : σ.1 + names.length ≤ 100000000) (h0 : J σ w) :
  Calls Tryz.prog 158 #[vs, nv, .func (.func g) #[] caps] w fun e w' => ∃ v', e = .returned v' ∧ J (chL ch σ names).2 w' ∧ ScIn (fun b => B b ∨ Fresh w w' b) w' (pushS names (chL ch σ names).1 sc) v' ∧ Kept M w w' := by
 refine (with_any M B (fun outs W => outs.length ≤ names.length ∧ outs = (chL ch σ (names.take outs.length)).1 ∧ J (chL ch σ (names.take outs.length)).2 W ∧ base ≤ W.heap.size) g caps H.eg names sc vs nv w hB (fun b h => by have := hM b h; omega) hn hs hl ?_ ?_ ?_).mono ?_
 ·rintro outs W W' ⟨h1, h2, h3, h4⟩ hb
  exact ⟨h1, h2, H.keep _ (fun _ => False) _ _ h3 (.of_below hb) (fun _ h => h.elim), Nat.le_trans h4 hb.size⟩
 ·exact ⟨Nat.zero_le _, rfl, h0, hw⟩
 ·rintro k hk outs W ho hsz hkW ⟨h1, h2, h3, h4⟩
  have hc := H.countL (names.take outs.length) σ
  have htl : (names.take outs.length).length = outs.length := by simp; omega
  refine (H.call _ names[k] W h3 h4 (by omega) hsz).mono ?_
  rintro e W' ⟨rfl, hj, hk'⟩
  have hs1 : (outs ++ [(ch (chL ch σ (names.take outs.length)).2 names[k]).1]).length = k + 1 := by simp [ho]
  refine ⟨_, rfl, H.size _ _ hsz, ⟨by omega, ?_, ?_, Nat.le_trans h4 hk'.size⟩, hk'⟩
  ·rw [hs1, List.take_succ_eq_append_getElem hk, chL_snoc]
   subst ho
   show _ ++ _ = _ ++ _
   rw [← h2]
  ·rw [hs1, List.take_succ_eq_append_getElem hk, chL_snoc]
   subst ho
   exact hj
 ·rintro e w' ⟨v', outs, rfl, ho, ⟨h1, h2, h3, h4⟩, hsc, hk⟩
  have ht : names.take outs.length = names := by rw [ho, List.take_length]
  rw [ht] at h2 h3
  rw [h2] at hsc
  exact ⟨v', rfl, h3, hsc, hk⟩
def bndK (bnd : Nat → List ByteArray) : Nat → Nat
 | 0 => 0
 | n + 1 => bndK bnd n + (bnd n).length
theorem Chs.countS {g : FuncId} {caps : Array Value} {base : Nat} {J : NS → World → Prop} {M : Nat → Prop} {ch : Ch} (h : Chs g caps base J M ch) (bnd : Nat → List ByteArray) (sc : Sc) (σ : NS) : ∀ n, (scp ch bnd sc σ n).2.1 ≤ σ.1 + bndK bnd n
 | 0 => Nat.le_refl _
 | n + 1 => by
  have h1 := h.countS bnd sc σ n
  have h2 := h.countL (bnd n) (scp ch bnd sc σ n).2
  simp only [scp, bndK]
  omega
theorem bndK_mono (bnd : Nat → List ByteArray) : ∀ {n m : Nat}, n ≤ m → bndK bnd n ≤ bndK bnd m
 | n, 0, h => by obtain rfl : n = 0 := by omega
                 exact Nat.le_refl _
 | n, m + 1, h => by
  by_cases e : n = m + 1
  ·subst e; exact Nat.le_refl _
  ·have := bndK_mono bnd (n := n) (m := m) (by omega)
   simp only [bndK]; omega
def ScsIn (B : Nat → Prop) (w : World) (scs : List Sc) (cs : Array Value) : Prop := ∀ i (h : i < scs.length), ∃ v, cs[i]? = some v ∧ ScIn B w scs[i] v
theorem ScsIn.keep {B B' : Nat → Prop} {w w' : World} {scs : List Sc} {cs : Array Value} (h : ScsIn B w scs cs) (hB : ∀ b, B b → B' b ∧ w'.heap[b]? = w.heap[b]?) : ScsIn B' w' scs cs := fun i hi => by
 obtain ⟨v, h1, h2⟩ := h i hi
 exact ⟨v, h1, ScIn.keep hB _ _ h2⟩
theorem ScsIn.snoc {B : Nat → Prop} {w : World} {scs : List Sc} {cs : Array Value} (h : ScsIn B w scs cs) {sc : Sc} {v : Value} (hs : ScIn B w sc v) (hl : scs.length < cs.size) : ScsIn B w (scs ++ [sc]) (cs.setIfInBounds scs.length v) := fun i hi => by
 by_cases e : i = scs.length
 ·subst e
  exact ⟨v, by simp [hl], by simpa using hs⟩
 ·have hi' : i < scs.length := by simp at hi; omega
  obtain ⟨u, h1, h2⟩ := h i hi'
  refine ⟨u, ?_, ?_⟩
  ·rw [Array.getElem?_setIfInBounds_ne (by omega)]; exact h1
  ·rw [List.getElem_append_left hi']; exact h2
theorem scp_get (ch : Ch) (bnd : Nat → List ByteArray) (sc : Sc) (σ : NS) : ∀ (n i : Nat) (h : i < n), (scp ch bnd sc σ n).1[i]'(by rw [scp_len]; exact h) = pushS (bnd i) (chL ch (scp ch bnd sc σ i).2 (bnd i)).1 sc
 | n + 1, i, h => by
  have hl := scp_len ch bnd sc σ n
  by_cases e : i = n
  ·subst e
   simp only [scp]
   rw [List.getElem_append_right (by omega)]
   simp [hl]
  ·simp only [scp]
   rw [List.getElem_append_left (by omega)]
   exact scp_get ch bnd sc σ n i (by omega)
theorem ScIn.head {B : Nat → Prop} {w : World} {sc : Sc} {v : Value} (h : ScIn B w sc v) (hne : sc ≠ []) : ∃ b, v = .pointer (some ⟨b, 0, none⟩) ∧ B b ∧ w.cell? ⟨b, 2, none⟩ = some (.string (asOf sc)) ∧ (asOf sc).size ≤ maxLen := by
 cases sc with
 | nil => exact absurd rfl hne
 | cons x sc =>
  obtain ⟨n, s⟩ := x
  obtain ⟨b, v', h1, h2, h3, h4, h5, h6, h7, h8⟩ := h
  exact ⟨b, h1, h2, h5, h7⟩
theorem own_stepK {S : Nat → Prop} {w wr w1 w' : World} {vo v' : Value} {X : Obj} (hB : Kept S w wr) (hb1 : Below wr.heap.size wr w1) (hown : ∀ k, vo.ownBlock = some k → w.heap.size ≤ k ∧ k < wr.heap.size)
  (hgr : (w1.alloc X).grownBy w' vo.ownBlock) (hat : v'.ownBlock = vo.ownBlock ∨ v'.ownBlock = some (w1.alloc X).heap.size) :
  (∀ b, Own w wr vo b → w'.heap[b]? = wr.heap[b]?) ∧ (∀ b, Own w wr vo b → Own w w' v' b) ∧ (∀ b, wr.heap.size ≤ b → b < w1.heap.size → w'.heap[b]? = w1.heap[b]? ∧ Own w w' v' b) ∧ Kept S w w' := by
 have hs := hB.size
 have hs1 := hb1.size
 have hs2 := hgr.size
 simp at hs2
 have keep : ∀ b, b < w1.heap.size → vo.ownBlock ≠ some b → w'.heap[b]? = w1.heap[b]? := fun b hb hne =>
  (hgr.block b (by simp <;> omega) (fun e => hne e.symm)).trans (Below.heap_alloc _ _ _ hb)
 have own' : ∀ b, w.heap.size ≤ b → b < w1.heap.size → vo.ownBlock ≠ some b → Own w w' v' b := fun b h1 h2 h3 => by
  refine ⟨h1, by omega, fun e => ?_⟩
  rcases hat with h | h
  ·exact h3 (h ▸ e)
  ·rw [h] at e; simp at e; omega
 refine ⟨fun b h => (keep b (by have := h.2.1; omega) h.2.2).trans (hb1.block b h.2.1), fun b h => own' b h.1 (by have := h.2.1; omega) h.2.2, fun b h1 h2 => ?_, ?_⟩
 ·have hne : vo.ownBlock ≠ some b := fun e => by have := (hown b e).2; omega
  exact ⟨keep b h2 hne, own' b (by omega) h2 hne⟩
 ·refine ⟨hgr.os.trans (hb1.os.trans hB.os), hgr.tape.trans (hb1.tape.trans hB.tape), hgr.output.trans (hb1.output.trans hB.output), by omega, fun b hb hn => ?_⟩
  have hne : vo.ownBlock ≠ some b := fun e => by have := (hown b e).1; omega
  exact (keep b (by omega) hne).trans ((hb1.block b (by omega)).trans (hB.block b hb hn))
theorem Own.keepSet {w V : World} {vo v' : Value} {b : Nat} (h : Own w V vo b) (hv : v'.ownBlock = vo.ownBlock) (a : Addr) (u : Value) : Own w (V.setCell a u) v' b := ⟨h.1, by simpa using h.2.1, by rw [hv]; exact h.2.2⟩
theorem lensM_pat {T : Tm} (h : lensM T) (k : Nat) (hk : k < T.pats.length) : lensP T.pats[k] := by
 cases T with
 | mk op n text kids pats =>
  unfold lensM at h
  exact lensP_get h.2.2.1 k hk
def shapeT (T : Tm) : Prop := ((T.op = 5 ∨ T.op = 27) → T.kids.length = 1) ∧ (T.op = 7 → T.kids.length = 2) ∧ (T.op = 15 → T.pats.length + 1 ≤ T.kids.length)
theorem Tz.underlying167 : Tryz.prog.underlying 167 = some (.slice 173) := by kernel_rfl
theorem Tz.info173 : (Tryz.prog.info? 173).map (fun i => (i.zero, i.size, i.bytes)) = some (some (.pointer none), 1, 8) := by kernel_rfl
theorem make167 (n : Nat) (hn : n ≤ 1000000) : ∀ W : World, (Instr.makeSlice 167 (.int .i64 n) (.int .i64 n)).run Tryz.prog W = .ok (.slice (some ⟨W.heap.size, 0, none⟩) n n) (W.alloc (.cells (madeCells #[.pointer none] n) 173)) := by
 intro W
 obtain ⟨i0, hi, hz0, hz1, hz2⟩ := info_parts Tz.info173
 have := run_make (P := Tryz.prog) W 167 173 i0 (.pointer none) Tz.underlying167 hi hz0 .i64 .i64 n n (by omega) (by omega) (by rw [hz2]; omega) (by omega)
 simpa [hz1, Value.cells] using this
set_option maxHeartbeats 4000000 in
set_option maxRecDepth 100000 in
theorem rebind_any {g : FuncId} {caps : Array Value} {base : Nat} {J : NS → World → Prop} {M : Nat → Prop} {ch : Ch} (H : Chs g caps base J M ch) (T : Tm) (sc : Sc) (σ : NS) (n₀ : Nat) (B : Nat → Prop) (v vs : Value) (w : World)
  (hT : TmAt n₀ w T v) (hok : okN T) (hlen : lensM T) (hsh : shapeT T) (hM : ∀ b, M b → n₀ ≤ b ∧ b < base) (hw : base ≤ w.heap.size) (hn : n₀ ≤ w.heap.size) (hB : ∀ b, B b → b < w.heap.size ∧ ¬ M b) (hs : ScIn B w sc vs)
  (hσ : σ.1 + bndK (boundL T) T.kids.length ≤ 100000000) (hJ : J σ w) :
  Calls Tryz.prog 139 #[v, vs, .func (.func g) #[] caps] w fun e w' => ∃ pv bs, e = .returned (.tuple #[.agg #[.int .i64 T.op, .int .i64 T.n, .string (rebText T (scp ch (boundL T) sc σ T.kids.length).1), .slice none 0 0, pv], .slice (some ⟨bs, 0, none⟩) T.kids.length T.kids.length]) ∧
   ((rebText T (scp ch (boundL T) sc σ T.kids.length).1).size ≤ maxLen ∧ SlIn (Fresh w w') pv (rebPats T (scp ch (boundL T) sc σ T.kids.length).1).length fun b o => PtsIn (Fresh w w') w' (rebPats T (scp ch (boundL T) sc σ T.kids.length).1) b o) ∧ (Fresh w w' bs ∧ ∃ cs, w'.heap[bs]? = some (.cells cs 173 (0, 0)) ∧ ScsIn (fun b => B b ∨ Fresh w w' b) w' (scp ch (boundL T) sc σ T.kids.length).1 cs) ∧
   J (scp ch (boundL T) sc σ T.kids.length).2 w' ∧ Kept M w w' := by
 obtain ⟨a, cap, a', cap', rfl, htx, hk, hps⟩ := hT.parts
 obtain ⟨vp, rfl⟩ := hs.ptr
 obtain ⟨hok1, hok2, hok3, hok4, hok5, hok6⟩ := (okN_eq T).1 hok
 have hmk := make167 T.kids.length (by omega)
 have eg := H.eg
 have HT := lh hT; have HOK := lh hok; have HLEN := lh hlen; have HSH := lh hsh; have HM := lh hM; have HB := lh hB; have HS := lh hs; have HJ := lh hJ; have HK := lh hk; have HPS := lh hps; have HTX := lh htx; have HOK1 := lh hok1; have HOK5 := lh hok5
 clear hT hok hlen hsh hM hB hs hJ hk hps htx hok1 hok2 hok5 hok6
 go_enter Tryz.func139, Tryz.ntmps139
 go_wp2
 clear hmk
 obtain ⟨W1, hW1⟩ : ∃ W1 : World, W1 = (((w.alloc (.cells #[.int .i64 T.op, .int .i64 T.n, .string T.text, .slice a T.kids.length cap, .slice a' T.pats.length cap'] 32)).alloc (.cells #[.int .i64 0, .int .i64 0, .string ⟨#[]⟩, .slice none 0 0, .slice none 0 0] 32)).alloc (.cells #[.int .i64 T.op, .int .i64 T.n, .string T.text, .slice none 0 0, .slice none 0 0] 32)).alloc (.cells (madeCells #[.pointer none] T.kids.length) 173) := ⟨_, rfl⟩
 rw [← hW1]
 have hbW : Below w.heap.size w W1 := by rw [hW1]; exact ((((Below.refl _ w).alloc (Nat.le_refl _) _).alloc (by simp) _).alloc (by simp <;> omega) _).alloc (by simp <;> omega) _
 have hsW : W1.heap.size = w.heap.size + 4 := by rw [hW1]; simp
 have hx0 : W1.heap[w.heap.size]? = some (.cells #[.int .i64 T.op, .int .i64 T.n, .string T.text, .slice a T.kids.length cap, .slice a' T.pats.length cap'] 32 (0, 0)) := by
  rw [hW1, Below.heap_alloc _ _ _ (by simp <;> omega), Below.heap_alloc _ _ _ (by simp <;> omega), Below.heap_alloc _ _ _ (by simp)]; exact heap_alloc_new _ _
 have hx1 : W1.heap[w.heap.size + 1]? = some (.cells #[.int .i64 0, .int .i64 0, .string ⟨#[]⟩, .slice none 0 0, .slice none 0 0] 32 (0, 0)) := by
  rw [hW1, Below.heap_alloc _ _ _ (by simp <;> omega), Below.heap_alloc _ _ _ (by simp)]; have := heap_alloc_new (w.alloc (.cells #[.int .i64 T.op, .int .i64 T.n, .string T.text, .slice a T.kids.length cap, .slice a' T.pats.length cap'] 32)) (.cells #[.int .i64 0, .int .i64 0, .string ⟨#[]⟩, .slice none 0 0, .slice none 0 0] 32); simpa using this
 have hx2 : W1.heap[w.heap.size + 1 + 1]? = some (.cells #[.int .i64 T.op, .int .i64 T.n, .string T.text, .slice none 0 0, .slice none 0 0] 32 (0, 0)) := by
  rw [hW1, Below.heap_alloc _ _ _ (by simp)]; have := heap_alloc_new ((w.alloc (.cells #[.int .i64 T.op, .int .i64 T.n, .string T.text, .slice a T.kids.length cap, .slice a' T.pats.length cap'] 32)).alloc (.cells #[.int .i64 0, .int .i64 0, .string ⟨#[]⟩, .slice none 0 0, .slice none 0 0] 32)) (.cells #[.int .i64 T.op, .int .i64 T.n, .string T.text, .slice none 0 0, .slice none 0 0] 32); simpa using this
 have hx3 : W1.heap[w.heap.size + 1 + 1 + 1]? = some (.cells (madeCells #[.pointer none] T.kids.length) 173 (0, 0)) := by
  rw [hW1]; have := heap_alloc_new (((w.alloc (.cells #[.int .i64 T.op, .int .i64 T.n, .string T.text, .slice a T.kids.length cap, .slice a' T.pats.length cap'] 32)).alloc (.cells #[.int .i64 0, .int .i64 0, .string ⟨#[]⟩, .slice none 0 0, .slice none 0 0] 32)).alloc (.cells #[.int .i64 T.op, .int .i64 T.n, .string T.text, .slice none 0 0, .slice none 0 0] 32)) (.cells (madeCells #[.pointer none] T.kids.length) 173); simpa using this
 clear hW1
 have HBW := lh hbW; have HSW := lh hsW; have HX0 := lh hx0; have HX1 := lh hx1; have HX2 := lh hx2; have HX3 := lh hx3
 clear hbW hsW hx0 hx1 hx2 hx3
 go_loopw [27] (fun i wr => ∃ (k : Nat) (cs : Array Value), k ≤ T.kids.length ∧ i = .int .i64 k ∧ Hid (cs.size = T.kids.length) ∧ Hid (wr.heap[w.heap.size + 1 + 1 + 1]? = some (.cells cs 173 (0, 0))) ∧ Hid (ScsIn (fun b => B b ∨ Fresh W1 wr b) wr (scp ch (boundL T) sc σ k).1 cs) ∧ Hid (J (scp ch (boundL T) sc σ k).2 wr) ∧ Hid (Kept (fun b => M b ∨ b = w.heap.size + 1 + 1 + 1) W1 wr)) (fun i _ => T.kids.length - (intOf i).toNat)
 case atStart =>
  exact ⟨0, _, Nat.zero_le _, rfl, size_madeCells _ _, HX3.out, fun i hi => by simp [scp] at hi, H.keep _ (fun _ => False) _ _ HJ.out (.of_below HBW.out) (fun _ h => h.elim), Kept.refl _ _⟩
 case round =>
  obtain ⟨k, cs, hk, rfl, HCS, HC, HSC, HJK, HKP⟩ := hrel
  by_cases hlt : k < T.kids.length
  · -- a round
   have hMs : ∀ b, M b → b < w.heap.size := fun b h => by have := (HM.out b h).2; omega
   have hkpb : ∀ b, b < w.heap.size → ¬ M b → wr.heap[b]? = w.heap[b]? := fun b hb hm => (HKP.out.block b (by have := HSW.out; omega) (fun h => h.elim hm fun h => by omega)).trans (HBW.out.block b hb)
   have hbr : Below n₀ w wr := (HBW.out.mono hn).trans (HKP.out.below (by have := HSW.out; omega) (fun b h => h.elim (fun h => (HM.out b h).1) fun h => by omega))
   have hszr : w.heap.size + 4 ≤ wr.heap.size := by have := HKP.out.size; have := HSW.out; omega
   have hTr : TmAt wr.heap.size wr T _ := TmAt.keep (Below.refl _ _) (by omega) _ _ (TmAt.keep hbr (Nat.le_refl _) _ _ HT.out)
   obtain ⟨c0, c1, c2, c3, c4⟩ := cells5 (HKP.out.get HX0.out (fun h => h.elim (fun h => by have := hMs _ h; omega) fun h => by omega))
   have hbi := boundIn_any T k _ wr hTr (by omega) (fun h15 hk0 => by have := HOK1.out h15; omega) HOK5.out
   have hsr := ScIn.keep (B' := B) (w' := wr) (fun b h => ⟨h, hkpb b (HB.out b h).1 (HB.out b h).2⟩) _ _ HS.out
   have hcnt := H.countS (boundL T) sc σ k
   have hbm := bndK_mono (boundL T) (n := k + 1) (m := T.kids.length) (by omega)
   have hbl := boundL_len T k HOK.out
   have HBI := lh hbi; have HMS := lh hMs; have HKB := lh hkpb; have HSR := lh hsr; have HCNT := lh hcnt; have HBM := lh hbm; have HBL := lh hbl
   clear hbi hMs hkpb hsr hcnt hbm hTr hbr hbl
   go_wp2_with fail
   refine HBI.out.mono ?_
   rintro e w1 ⟨⟨nv, rfl, hnv⟩, hb1⟩
   have hs1 := hb1.size
   obtain ⟨na, ncap, rfl⟩ := hnv.split
   have hwt := with_ch H (scp ch (boundL T) sc σ k).2 (fun b => B b ∨ Fresh wr w1 b) (boundL T k) sc (.pointer vp) (.slice na (boundL T k).length ncap) w1 (by omega)
    (fun b h => h.elim (fun h => ⟨by have := (HB.out b h).1; omega, (HB.out b h).2⟩) fun h => ⟨h.2, fun hm => by have := HMS.out b hm; have := h.1; omega⟩) (fun b h => (HM.out b h).2)
    (hnv.mono (fun b h => .inr h) fun _ _ _ h => h) (ScIn.keep (fun b h => ⟨.inl h, hb1.block b (by have := (HB.out b h).1; omega)⟩) _ _ HSR.out) HBL.out (by have := HCNT.out; have := HBM.out; simp only [bndK] at this; omega)
    (H.keep _ (fun _ => False) _ _ HJK.out (.of_below hb1) (fun _ h => h.elim))
   have HWT := lh hwt; have HB1 := lh hb1
   clear hwt hb1 hnv HBI
   go_wp2_with fail
   refine HWT.out.mono ?_
   rintro e w2 ⟨v', rfl, hj2, hsc2, hk2⟩
   obtain ⟨vp', rfl⟩ := hsc2.ptr
   have hs2 := hk2.size
   have hx3 := hk2.get (bget' HB1.out HC.out) (fun h => by have := HMS.out _ h; omega)
   have hcc : w2.cell? ⟨w.heap.size + 1 + 1 + 1, k, none⟩ = some (cs[k]'(by rw [HCS.out]; exact hlt)) := by rw [cell_box hx3]; simp
   have hff := free_box hx3 k
   have HX3' := lh hx3; have HJ2 := lh hj2; have HSC2 := lh hsc2; have HK2 := lh hk2
   clear hx3 hj2 hsc2 hk2 HWT
   go_wp2
   go_roundw
   case rel =>
    have hkk : ∀ b, (B b ∨ Fresh W1 wr b) → b < wr.heap.size ∧ ¬ M b ∧ b ≠ w.heap.size + 1 + 1 + 1 := fun b h => by
     have := HSW.out
     rcases h with h | h
     ·exact ⟨by have := (HB.out b h).1; omega, (HB.out b h).2, by have := (HB.out b h).1; omega⟩
     ·have h1 := h.1; exact ⟨h.2, fun hm => by have := HMS.out b hm; omega, by omega⟩
    have hk3 : Kept (fun b => b = w.heap.size + 1 + 1 + 1) w2 (w2.setCell ⟨w.heap.size + 1 + 1 + 1, k, none⟩ (.pointer vp')) := .setCell (S := fun b => b = w.heap.size + 1 + 1 + 1) _ rfl _
    refine ⟨k + 1, cs.setIfInBounds k (.pointer vp'), by omega, by go_num, by unfold Hid; rw [Array.size_setIfInBounds]; exact HCS.out, box_setCell HX3'.out k _, ?_, H.keep _ _ _ _ HJ2.out hk3 (by rintro b rfl; omega), ?_⟩
    ·unfold Hid
     have hl := scp_len ch (boundL T) sc σ k
     have h1 : ScsIn (fun b => B b ∨ Fresh W1 (w2.setCell ⟨w.heap.size + 1 + 1 + 1, k, none⟩ (.pointer vp')) b) (w2.setCell ⟨w.heap.size + 1 + 1 + 1, k, none⟩ (.pointer vp')) (scp ch (boundL T) sc σ k).1 cs :=
      ScsIn.keep HSC.out fun b h => ⟨h.imp id fun h => ⟨h.1, by have := h.2; have := hk3.size; omega⟩, ((hk3.block b (by have := (hkk b h).1; omega) (hkk b h).2.2).trans (HK2.out.block b (by have := (hkk b h).1; omega) (hkk b h).2.1)).trans (HB1.out.block b (hkk b h).1)⟩
     have h2 := h1.snoc (sc := pushS (boundL T k) (chL ch (scp ch (boundL T) sc σ k).2 (boundL T k)).1 sc) (v := .pointer vp') (ScIn.keep (fun b h => by
      have hs3 := hk3.size
      have hsw := HSW.out
      have hsk := HKP.out.size
      rcases h with (h | h) | h
      ·exact ⟨.inl h, hk3.block b (by have := (HB.out b h).1; omega) (by have := (HB.out b h).1; omega)⟩
      ·have h1 := h.1; have h2 := h.2; exact ⟨.inr ⟨by omega, by omega⟩, hk3.block b (by omega) (by omega)⟩
      ·have h1 := h.1; have h2 := h.2; exact ⟨.inr ⟨by omega, by omega⟩, hk3.block b (by omega) (by omega)⟩) _ _ HSC2.out) (by rw [hl, HCS.out]; exact hlt)
     rw [hl] at h2
     exact h2
    ·exact HKP.out.trans ((Kept.of_below HB1.out).trans ((HK2.out.mono (fun b h => .inl h)).trans (hk3.mono (fun b h => .inr h))))
   case measure => simp [intOf]; omega
  · -- behind the loop
   obtain rfl : k = T.kids.length := by omega
   have hMs : ∀ b, M b → b < w.heap.size := fun b h => by have := (HM.out b h).2; omega
   have hszr : w.heap.size + 4 ≤ wr.heap.size := by have := HKP.out.size; have := HSW.out; omega
   have hn1 : ∀ j, w.heap.size ≤ j → j < w.heap.size + 3 → ¬ (M j ∨ j = w.heap.size + 1 + 1 + 1) := fun j h1 h2 h => h.elim (fun h => by have := hMs _ h; omega) fun h => by omega
   have y0 := HKP.out.get HX0.out (hn1 _ (by omega) (by omega))
   have y1 := HKP.out.get HX1.out (hn1 _ (by omega) (by omega))
   have y2 := HKP.out.get HX2.out (hn1 _ (by omega) (by omega))
   obtain ⟨c0, c1, c2, c3, c4⟩ := cells5 y0
   obtain ⟨d0, d1, d2, d3, d4⟩ := cells5 y1
   obtain ⟨e0, e1, e2, e3, e4⟩ := cells5 y2
   have f1 := free_box y1
   have f2 := free_box y2
   have HY0 := lh y0; have HY1 := lh y1; have HY2 := lh y2; have HMS := lh hMs
   clear y0 y1 y2 hMs hn1
   -- the end
   have fin : ∀ (tx : ByteArray) (pv : Value) (V V' : World), V.heap[w.heap.size + 1 + 1]? = some (.cells #[.int .i64 T.op, .int .i64 T.n, .string tx, .slice none 0 0, pv] 32 (0, 0)) → tx = rebText T (scp ch (boundL T) sc σ T.kids.length).1 → tx.size ≤ maxLen →
     Kept (fun b => M b ∨ b = w.heap.size + 1 + 1) wr V → J (scp ch (boundL T) sc σ T.kids.length).2 V → SlIn (fun b => w.heap.size + 4 ≤ b ∧ b < V.heap.size) pv (rebPats T (scp ch (boundL T) sc σ T.kids.length).1).length (fun b o => PtsIn (fun b => w.heap.size + 4 ≤ b ∧ b < V.heap.size) V (rebPats T (scp ch (boundL T) sc σ T.kids.length).1) b o) →
     Kept (fun b => b = w.heap.size + 1) V V' →
     ∃ pv' bs, Ending.returned (.tuple #[.agg #[.int .i64 T.op, .int .i64 T.n, .string tx, .slice none 0 0, pv], .slice (some ⟨w.heap.size + 1 + 1 + 1, 0, none⟩) T.kids.length T.kids.length]) = .returned (.tuple #[.agg #[.int .i64 T.op, .int .i64 T.n, .string (rebText T (scp ch (boundL T) sc σ T.kids.length).1), .slice none 0 0, pv'], .slice (some ⟨bs, 0, none⟩) T.kids.length T.kids.length]) ∧
      ((rebText T (scp ch (boundL T) sc σ T.kids.length).1).size ≤ maxLen ∧ SlIn (Fresh w V') pv' (rebPats T (scp ch (boundL T) sc σ T.kids.length).1).length fun b o => PtsIn (Fresh w V') V' (rebPats T (scp ch (boundL T) sc σ T.kids.length).1) b o) ∧ (Fresh w V' bs ∧ ∃ cs, V'.heap[bs]? = some (.cells cs 173 (0, 0)) ∧ ScsIn (fun b => B b ∨ Fresh w V' b) V' (scp ch (boundL T) sc σ T.kids.length).1 cs) ∧
      J (scp ch (boundL T) sc σ T.kids.length).2 V' ∧ Kept M w V' := by
    intro tx pv V V' hbx htx' hts hkV hjV hsl hkV'
    have z1 := hkV.size
    have z2 := hkV'.size
    refine ⟨pv, w.heap.size + 1 + 1 + 1, by rw [htx'], ⟨by rw [← htx']; exact hts, ?_⟩, ⟨⟨by omega, by omega⟩, cs, ?_, ?_⟩, H.keep _ _ _ _ hjV hkV' (by rintro b rfl; omega), ?_⟩
    ·exact hsl.mono (fun b h => ⟨by omega, by omega⟩) fun b o h hr => PtsIn.keep (fun b h => hkV'.block b h.2 (by omega)) (fun b h => ⟨by omega, by omega⟩) _ _ _ h hr
    ·exact hkV'.get (hkV.get HC.out (fun h => h.elim (fun h => by have := HMS.out _ h; omega) fun h => by omega)) (by omega)
    ·exact ScsIn.keep HSC.out fun b h => by
      have hsw := HSW.out
      rcases h with h | h
      ·have h1 := (HB.out b h).1
       exact ⟨.inl h, (hkV'.block b (by omega) (by omega)).trans (hkV.block b (by omega) fun g => g.elim (HB.out b h).2 fun g => by omega)⟩
      ·have h1 := h.1; have h2 := h.2
       exact ⟨.inr ⟨by omega, by omega⟩, (hkV'.block b (by omega) (by omega)).trans (hkV.block b (by omega) fun g => g.elim (fun g => by have := HMS.out _ g; omega) fun g => by omega)⟩
    ·have hsw := HSW.out
     have hall := (Kept.of_below (S := fun b => M b ∨ w.heap.size ≤ b) HBW.out).trans ((HKP.out.mono (fun b h => h.imp id fun h => by omega)).trans ((hkV.mono (fun b h => h.imp id fun h => by omega)).trans (hkV'.mono (fun b h => .inr (by omega)))))
     exact ⟨hall.os, hall.tape, hall.output, hall.size, fun b hb hm => hall.block b hb fun h => h.elim hm fun h => by omega⟩
   have FIN := lh fin
   clear fin
   by_cases hf : T.op = 5 ∨ T.op = 27 ∨ T.op = 7
   ·have hsh := HSH.out
    have hn1 : 1 ≤ T.kids.length := by
     rcases hf with h | h | h
     ·have := hsh.1 (.inl h); omega
     ·have := hsh.1 (.inr h); omega
     ·have := hsh.2.1 h; omega
    have hlast : boundL T (T.kids.length - 1) = [T.text] := by
     unfold boundL
     rcases hf with h | h | h
     ·simp [h]
     ·simp [h]
     ·rw [if_pos (.inr (.inr ⟨h, by rw [hsh.2.1 h]⟩))]
    have hl := scp_len ch (boundL T) sc σ T.kids.length
    have hget := scp_get ch (boundL T) sc σ T.kids.length (T.kids.length - 1) (by omega)
    obtain ⟨vq, hq1, hq2⟩ := HSC.out (T.kids.length - 1) (by rw [hl]; omega)
    rw [hget] at hq2
    have hne : pushS (boundL T (T.kids.length - 1)) (chL ch (scp ch (boundL T) sc σ (T.kids.length - 1)).2 (boundL T (T.kids.length - 1))).1 sc ≠ [] := by
     rw [hlast]; simp [pushS, chL]
    have htx : rebText T (scp ch (boundL T) sc σ T.kids.length).1 = asOf (pushS (boundL T (T.kids.length - 1)) (chL ch (scp ch (boundL T) sc σ (T.kids.length - 1)).2 (boundL T (T.kids.length - 1))).1 sc) := by
     unfold rebText
     rw [if_pos hf, List.getD_eq_getElem?_getD, List.getElem?_eq_getElem (by rw [hl]; omega), Option.getD_some, hget]
    obtain ⟨bq, rfl, hqb, hqc, hqs⟩ := hq2.head hne
    rw [← htx] at hqc hqs
    have hcq : wr.cell? ⟨w.heap.size + 1 + 1 + 1, T.kids.length - 1, none⟩ = some (.pointer (some ⟨bq, 0, none⟩)) := by rw [cell_box HC.out]; exact hq1
    have hrp : rebPats T (scp ch (boundL T) sc σ T.kids.length).1 = [] := if_neg (by omega)
    have hidx : ((T.kids.length : Int) - 1).toNat = T.kids.length - 1 := by omega
    have hi0 : (1 : Int) ≤ (T.kids.length : Int) := by omega
    have HRP := lh hrp; have HQS := lh hqs
    clear hrp hqs htx hne hqb hq2 hq1 hget hl hlast hsh
    generalize hrr : rebText T (scp ch (boundL T) sc σ T.kids.length).1 = rt at *
    have HRR := lh hrr
    clear hrr
    have hk2 : ∀ u, Kept (fun b => M b ∨ b = w.heap.size + 1 + 1) wr (wr.setCell ⟨w.heap.size + 1 + 1, 2, none⟩ u) := fun u => .setCell (S := fun b => M b ∨ b = w.heap.size + 1 + 1) _ (.inr rfl) _
    have HK2 := lh hk2
    clear hk2
    rcases hf with h5 | h27 | h7
    ·go_wp2
     refine bodyPost_ret (v := .tuple #[.agg #[.int .i64 5, .int .i64 T.n, .string rt, .slice none 0 0, .slice none 0 0], .slice (some ⟨w.heap.size + 1 + 1 + 1, 0, none⟩) T.kids.length T.kids.length]) (by simp [results, Tryz.results139, go_sem, d0, d1, d2, d3, d4]) rfl ?_
     have hend := FIN.out rt (.slice none 0 0) (wr.setCell ⟨w.heap.size + 1 + 1, 2, none⟩ (.string rt)) _ (box_setCell HY2.out 2 _) rfl HQS.out (HK2.out _) (H.keep _ (fun b => b = w.heap.size + 1 + 1) _ _ HJK.out (.setCell (S := fun b => b = w.heap.size + 1 + 1) _ rfl _) (by rintro b rfl; omega)) (by rw [HRP.out]; exact .inl ⟨rfl, rfl⟩) (kept5 _ _ (.int .i64 T.op) (.int .i64 T.n) (.string rt) (.slice none 0 0) (.slice none 0 0))
     rw [← h5, HRR.out]
     exact hend
    ·go_wp2
     refine bodyPost_ret (v := .tuple #[.agg #[.int .i64 27, .int .i64 T.n, .string rt, .slice none 0 0, .slice none 0 0], .slice (some ⟨w.heap.size + 1 + 1 + 1, 0, none⟩) T.kids.length T.kids.length]) (by simp [results, Tryz.results139, go_sem, d0, d1, d2, d3, d4]) rfl ?_
     have hend := FIN.out rt (.slice none 0 0) (wr.setCell ⟨w.heap.size + 1 + 1, 2, none⟩ (.string rt)) _ (box_setCell HY2.out 2 _) rfl HQS.out (HK2.out _) (H.keep _ (fun b => b = w.heap.size + 1 + 1) _ _ HJK.out (.setCell (S := fun b => b = w.heap.size + 1 + 1) _ rfl _) (by rintro b rfl; omega)) (by rw [HRP.out]; exact .inl ⟨rfl, rfl⟩) (kept5 _ _ (.int .i64 T.op) (.int .i64 T.n) (.string rt) (.slice none 0 0) (.slice none 0 0))
     rw [← h27, HRR.out]
     exact hend
    ·go_wp2
     refine bodyPost_ret (v := .tuple #[.agg #[.int .i64 7, .int .i64 T.n, .string rt, .slice none 0 0, .slice none 0 0], .slice (some ⟨w.heap.size + 1 + 1 + 1, 0, none⟩) T.kids.length T.kids.length]) (by simp [results, Tryz.results139, go_sem, d0, d1, d2, d3, d4]) rfl ?_
     have hend := FIN.out rt (.slice none 0 0) (wr.setCell ⟨w.heap.size + 1 + 1, 2, none⟩ (.string rt)) _ (box_setCell HY2.out 2 _) rfl HQS.out (HK2.out _) (H.keep _ (fun b => b = w.heap.size + 1 + 1) _ _ HJK.out (.setCell (S := fun b => b = w.heap.size + 1 + 1) _ rfl _) (by rintro b rfl; omega)) (by rw [HRP.out]; exact .inl ⟨rfl, rfl⟩) (kept5 _ _ (.int .i64 T.op) (.int .i64 T.n) (.string rt) (.slice none 0 0) (.slice none 0 0))
     rw [← h7, HRR.out]
     exact hend
   ·by_cases h15 : T.op = 15
    ·have hl15 := HSH.out.2.2 h15
     have hrt : rebText T (scp ch (boundL T) sc σ T.kids.length).1 = T.text := if_neg hf
     have hrp : rebPats T (scp ch (boundL T) sc σ T.kids.length).1 = (List.range T.pats.length).map fun i => renP ((scp ch (boundL T) sc σ T.kids.length).1.getD (i + 1) []) (T.pats.getD i default) := if_pos h15
     have hy2 := HY2.out
     rw [h15] at hy2
     have HRT := lh hrt; have HRP := lh hrp; have HZ2 := lh hy2; have HL15 := lh hl15
     clear hrt hrp hf hy2 hl15 e0 e1 e2 e3 e4 f2
     obtain ⟨i0, hi, hz0, hz1, hz2⟩ := info_parts Tz.info35
     go_wp2
     obtain ⟨wo, rfl⟩ : ∃ wo : World, wo = wr := ⟨_, rfl⟩
     go_loopw [62] (fun i V => ∃ (k : Nat) (xs : List Value) (vo : Value), k ≤ T.pats.length ∧ i = .int .i64 k ∧ Hid (V.heap[w.heap.size + 1 + 1]? = some (.cells #[.int .i64 15, .int .i64 T.n, .string T.text, .slice none 0 0, vo] 32 (0, 0))) ∧ Hid (V.ownsRow wo.heap.size 35 4 vo k xs) ∧
      Hid (FlatP (Own wo V vo) V ((List.range k).map fun i => renP ((scp ch (boundL T) sc σ T.kids.length).1.getD (i + 1) []) (T.pats.getD i default)) xs) ∧ Hid (Kept (fun b => b = w.heap.size + 1 + 1) wo V)) (fun i _ => T.pats.length - (intOf i).toNat)
     case atStart => exact ⟨0, [], .slice none 0 0, Nat.zero_le _, rfl, HZ2.out, World.ownsRow_nil _ _ _ _, rfl, Kept.refl _ _⟩
     case round =>
      clear c0 c1 c2 c3 c4 d0 d1 d2 d3 d4 f1
      obtain ⟨k, xs, vo, hk, rfl, HBX, HROW, HFL, HKV⟩ := hrel
      by_cases hltk : k < T.pats.length
      ·obtain ⟨b, o, rfl, hbn, hss⟩ : ∃ b o, a' = some ⟨b, o, none⟩ ∧ b < n₀ ∧ PtsAt n₀ w T.pats b o := by
        rcases HPS.out with ⟨h, -⟩ | ⟨b, o, cap2, h1, h2, h3, h4, h5⟩
        ·omega
        ·cases h1; exact ⟨b, o, rfl, h4, h5⟩
       obtain ⟨q0, q1, q2, q3, g0, g1, g2, g3, ht⟩ := PtsAt.get T.pats b o hss k hltk
       have hszv := HKV.out.size
       have hbV : Below n₀ w wr := ((HBW.out.mono hn).trans (HKP.out.below (by have := HSW.out; omega) (fun b h => h.elim (fun h => (HM.out b h).1) fun h => by omega))).trans (HKV.out.below (by omega) (by rintro b rfl; omega))
       have r0 := (hbV.cell (p := ⟨b, _, none⟩) hbn).trans g0
       have r1 := (hbV.cell (p := ⟨b, _, none⟩) hbn).trans g1
       have r2 := (hbV.cell (p := ⟨b, _, none⟩) hbn).trans g2
       have r3 := (hbV.cell (p := ⟨b, _, none⟩) hbn).trans g3
       clear g0 g1 g2 g3 hss
       obtain ⟨oo, nn, tt, ka, kn, kc, rfl, rfl, rfl, rfl⟩ := ht.shape
       have HBV := lh hbV; have HTP := lh ht
       clear hbV ht
       go_upto_region 17 with fail
       have hBW1 : Below wr.heap.size wr (wr.alloc (.cells #[.int .i64 oo, .int .i64 nn, .string tt, .slice ka kn kc] 35)) := (Below.refl _ wr).alloc (Nat.le_refl _) _
       have hX2 := heap_alloc_new wr (.cells #[.int .i64 oo, .int .i64 nn, .string tt, .slice ka kn kc] 35)
       have hsU : (wr.alloc (.cells #[.int .i64 oo, .int .i64 nn, .string tt, .slice ka kn kc] 35)).heap.size = wr.heap.size + 1 := by simp
       generalize (wr.alloc (.cells #[.int .i64 oo, .int .i64 nn, .string tt, .slice ka kn kc] 35)) = U at *
       -- the scope of the kid k + 1
       have hkl : k + 1 < T.kids.length := by have := HL15.out; omega
       obtain ⟨vq, hq1, hq2⟩ := HSC.out (k + 1) (by rw [scp_len]; exact hkl)
       obtain ⟨vqp, rfl⟩ := hq2.ptr
       rw [show (scp ch (boundL T) sc σ T.kids.length).1[k + 1]'(by rw [scp_len]; exact hkl) = (scp ch (boundL T) sc σ T.kids.length).1.getD (k + 1) [] by rw [List.getD_eq_getElem?_getD, List.getElem?_eq_getElem (by rw [scp_len]; exact hkl)]; rfl] at hq2
       have hc3 := HKV.out.get HC.out (by omega)
       have hcq : U.drew.cell? ⟨w.heap.size + 1 + 1 + 1, k + 1, none⟩ = some (.pointer vqp) := by
        show U.cell? _ = _
        rw [cell_box (bget' hBW1 hc3)]; exact hq1
       have hpc : U.drew.cell? ⟨w.heap.size + 1 + 1, 4, none⟩ = some vo := by
        show U.cell? _ = _
        rw [cell_box (bget' hBW1 HBX.out)]; rfl
       have hwrap : IntKind.i64.wrap ((k : Int) + 1) = (k : Int) + 1 := by rw [IntKind.wrap_i64]; omega
       have hnat : ((k : Int) + 1).toNat = k + 1 := by omega
       have hk0 : (0 : Int) ≤ (k : Int) + 1 := by omega
       have hk1 : ((k : Int) + 1) < (T.kids.length : Int) := by omega
       have hS0 := And.intro (cells4 (W := U.drew) hX2) (And.intro hcq hpc)
       have hren := renamedPat_any T.pats[k] ((scp ch (boundL T) sc σ T.kids.length).1.getD (k + 1) []) (.agg #[.int .i64 oo, .int .i64 nn, .string tt, .slice ka kn kc]) (.pointer vqp) U.drew (fun b => B b ∨ Fresh W1 wo b)
        (PtAt.keep ((hBW1.mono (by omega)).trans (below_drew _ _)) (by show n₀ ≤ U.heap.size; omega) _ _ (PtAt.keep HBV.out (Nat.le_refl _) _ _ HTP.out)) (lensM_pat HLEN.out k hltk)
        (ScIn.keep (fun b h => ⟨h, by
         have hsw := HSW.out
         have hlo : b < wo.heap.size ∧ b ≠ w.heap.size + 1 + 1 := by
          rcases h with h | h
          ·have := (HB.out b h).1; exact ⟨by omega, by omega⟩
          ·have h1 := h.1; exact ⟨h.2, by omega⟩
         exact (hBW1.block b (by omega)).trans (HKV.out.block b hlo.1 hlo.2)⟩) _ _ hq2)
        (fun b h => by
         show b < U.heap.size
         rcases h with h | h
         ·have := (HB.out b h).1; omega
         ·have := h.2; omega)
       have HREN := lh hren
       clear hren hq2 hcq
       have hbxU := bget' hBW1 HBX.out
       have hrowU : U.ownsRow wo.heap.size 35 4 vo k xs := ownsRow_of_block HROW.out fun g hg => hBW1.block g (HROW.out.lt g hg).2
       have hownV : ∀ kk, vo.ownBlock = some kk → wo.heap.size ≤ kk ∧ kk < wr.heap.size := fun kk h => HROW.out.lt kk h
       refine reg139 (k := k) (m := k) rfl rfl rfl rfl rfl (fun _ _ _ _ _ h => h) hbxU hX2 (bget' hBW1 hc3) hq1 hkl (by omega) hrowU (by omega) (by omega) (by omega) (fun e => by have := (hownV _ e).2; omega) (by omega) HREN.out ?_
       intro u67 u68 u69 u70 u71 u72 u73 u74 u75 u76 u77 u78 c0 c1 c2 c3 v' w1 w3 hnew hb1 hown3 hgr3 hat3
       have hbr1 : Below wr.heap.size wr w1 := hBW1.trans (hb1.mono (by omega))
       have hbx3 := one_grown hgr3 (bget' hb1 hbxU) (by have := hb1.size; omega) (ownsRow_of_block (w' := w1) hrowU fun g hg => hb1.block g (hrowU.lt g hg).2) (by omega)
       have hst := own_stepK (S := fun b => b = w.heap.size + 1 + 1) HKV.out hbr1 hownV hgr3 hat3
       have HNEW := lh hnew; have HOWN3 := lh hown3; have HST := lh hst; have HBX3 := lh hbx3; have HSU := lh hsU
       clear hbxU hrowU hownV hX2 hc3 hBW1 hnew hb1 hown3 hgr3 hat3 hbr1 hst hbx3 HREN hq1 hsU
       simp only [List.setIfInBounds_toArray, List.set_cons_zero, List.set_cons_succ]
       go_wp2
       go_roundw
       case rel =>
        obtain ⟨s1, s2, s3, s4⟩ := HST.out
        have hks : Kept (fun b => b = w.heap.size + 1 + 1) w3 (w3.setCell ⟨w.heap.size + 1 + 1, 4, none⟩ v') := kept1 _ _ _ _
        refine ⟨k + 1, _, v', by omega, by go_num, box_setCell HBX3.out 4 _, ownsRow_setCell_below HOWN3.out (by simp <;> omega) _, ?_, s4.trans hks⟩
        unfold Hid
        rw [List.range_succ, List.map_append, List.map_cons, List.map_nil]
        have hge : ∀ b, Own wo w3 v' b → (w3.setCell ⟨w.heap.size + 1 + 1, 4, none⟩ v').heap[b]? = w3.heap[b]? ∧ Own wo (w3.setCell ⟨w.heap.size + 1 + 1, 4, none⟩ v') v' b := fun b h => ⟨hks.block b h.2.1 (by have := h.1; omega), h.keepSet rfl _ _⟩
        refine FlatP.keep (fun b h => (hge b h).1) (fun b h => (hge b h).2) _ _ ?_
        have hp : PtIn (Fresh U w1) w1 (renP ((scp ch (boundL T) sc σ T.kids.length).1.getD (k + 1) []) (T.pats.getD k default)) (.agg #[c0, c1, c2, c3]) := by
         rw [List.getD_eq_getElem?_getD (l := T.pats), List.getElem?_eq_getElem hltk, Option.getD_some]
         exact HNEW.out
        refine FlatP.snoc (PtIn.keep (fun b (h : Fresh U w1 b) => (s3 b (by have := h.1; have := HSU.out; omega) h.2).1) (fun b (h : Fresh U w1 b) => (s3 b (by have := h.1; have := HSU.out; omega) h.2).2) _ _ hp) _ _ (FlatP.keep s1 s2 _ _ HFL.out)
       case measure => simp [intOf]; omega
      ·obtain rfl : k = T.pats.length := by omega
       have hszv := HKV.out.size
       have y1 := HKV.out.get HY1.out (by omega)
       obtain ⟨d0, d1, d2, d3, d4⟩ := cells5 y1
       obtain ⟨e0, e1, e2, e3, e4⟩ := cells5 HBX.out
       have f1 := free_box y1
       obtain ⟨va, vc, rfl⟩ := slice_of_row HROW.out
       clear y1
       go_wp2
       refine bodyPost_ret (v := .tuple #[.agg #[.int .i64 15, .int .i64 T.n, .string T.text, .slice none 0 0, .slice va T.pats.length vc], .slice (some ⟨w.heap.size + 1 + 1 + 1, 0, none⟩) T.kids.length T.kids.length]) (by simp [results, Tryz.results139, go_sem, d0, d1, d2, d3, d4]) rfl ?_
       have hbx := HBX.out
       rw [← h15] at hbx
       have hsl : SlIn (fun b => w.heap.size + 4 ≤ b ∧ b < wr.heap.size) (.slice va T.pats.length vc) (rebPats T (scp ch (boundL T) sc σ T.kids.length).1).length (fun b o => PtsIn (fun b => w.heap.size + 4 ≤ b ∧ b < wr.heap.size) wr (rebPats T (scp ch (boundL T) sc σ T.kids.length).1) b o) := by
        rw [HRP.out]
        have h := owned_sl (B := fun b => w.heap.size + 4 ≤ b ∧ b < wr.heap.size) (R := fun b o => PtsIn (fun b => w.heap.size + 4 ≤ b ∧ b < wr.heap.size) wr ((List.range T.pats.length).map fun i => renP ((scp ch (boundL T) sc σ T.kids.length).1.getD (i + 1) []) (T.pats.getD i default)) b o) HROW.out (fun b h => by have := HROW.out.lt b h; exact ⟨by omega, this.2⟩) fun b hb hc =>
         FlatP.ptsIn _ _ _ (FlatP.keep (fun _ _ => rfl) (fun b h => ⟨by have := h.1; omega, h.2.1⟩) _ _ HFL.out) hc
        simpa using h
       have hend := FIN.out T.text (.slice va T.pats.length vc) wr _ hbx HRT.out.symm HTX.out (HKV.out.mono (fun b h => .inr h)) (H.keep _ _ _ _ HJK.out HKV.out (by rintro b rfl; omega)) hsl (kept5 _ _ (.int .i64 T.op) (.int .i64 T.n) (.string T.text) (.slice none 0 0) (.slice va T.pats.length vc))
       rw [← h15]
       exact hend
    ·have hf5 : ¬ (T.op = 5) := by omega
     have hf27 : ¬ (T.op = 27) := by omega
     have hf7 : ¬ (T.op = 7) := by omega
     have hrt : rebText T (scp ch (boundL T) sc σ T.kids.length).1 = T.text := if_neg hf
     have hrp : rebPats T (scp ch (boundL T) sc σ T.kids.length).1 = [] := if_neg h15
     have HRT := lh hrt; have HRP := lh hrp
     clear hrt hrp hf
     go_wp2
     refine bodyPost_ret (v := .tuple #[.agg #[.int .i64 T.op, .int .i64 T.n, .string T.text, .slice none 0 0, .slice none 0 0], .slice (some ⟨w.heap.size + 1 + 1 + 1, 0, none⟩) T.kids.length T.kids.length]) (by simp [results, Tryz.results139, go_sem, d0, d1, d2, d3, d4]) rfl ?_
     exact FIN.out T.text (.slice none 0 0) wr _ HY2.out HRT.out.symm HTX.out (Kept.refl _ _) HJK.out (by rw [HRP.out]; exact .inl ⟨rfl, rfl⟩) (kept5 _ _ _ _ _ _ _)
variable {P : Program}
theorem wpF_loop {fn₀ : FuncId} {c : Code} {Q : Exit → Act → World → Prop} {a : Act} {w : World} (I : Act → World → Prop) (μ : Act → World → Nat) (h₀ : I a w)
  (round : ∀ a w, I a w → wpF P fn₀ c (Exit.then (fun a' w' => I a' w' ∧ μ a' w' < μ a w) Q) a w) : wpF P fn₀ (Code.loop c) Q a w := by
 intro b k cs hf hro
 have hfw : ∀ m : Machine, m.fenced P Fence.wide := fun _ => fenced_wide _ _
 have key : ∀ j a w, μ a w = j → I a w →
   ∃ e a' w', Q e a' w' ∧ ArrivesIn (Machine.fenced P Fence.wide) P (lone (b.atR a (.code c :: .inLoop c :: k)) cs w) b k cs e a' w' := by
  intro j
  induction j using Nat.strongRecOn with
  | _ j ih =>
   intro a w hn hI
   obtain ⟨e, a₁, w₁, hq, harr⟩ := round a w hI b (.inLoop c :: k) cs hf hro
   cases e with
   | normal =>
    obtain ⟨hI₁, hlt⟩ := hq
    obtain ⟨e₂, a₂, w₂, hq₂, harr₂⟩ := ih (μ a₁ w₁) (hn ▸ hlt) a₁ w₁ rfl hI₁
    exact ⟨e₂, a₂, w₂, hq₂, .of_steps (StepsIn.trans harr (.one (hfw _) stepR_inLoop)) harr₂⟩
   | exit id => exact ⟨_, a₁, w₁, hq, .pass (x := .inLoop c) rfl (fun _ _ => .inl (by simp)) harr⟩
   | goto l => exact ⟨_, a₁, w₁, hq, .pass (x := .inLoop c) rfl (fun _ _ => .inl (by simp)) harr⟩
   | ret => exact ⟨_, a₁, w₁, hq, .pass (x := .inLoop c) rfl (fun _ _ => .inl (by simp)) harr⟩
   | panic ch => exact ⟨_, a₁, w₁, hq, .pass (x := .inLoop c) rfl (fun _ _ => .inl (by simp)) harr⟩
   | outgrown => exact ⟨_, a₁, w₁, hq, .pass (x := .inLoop c) rfl (fun _ _ => .inl (by simp)) harr⟩
 obtain ⟨e, a', w', hq, harr⟩ := key _ a w rfl h₀
 exact ⟨e, a', w', hq, .of_steps (.one (hfw _) stepR_loop) harr⟩
theorem wpF_scope {fn₀ : FuncId} {c : Code} {Q : Exit → Act → World → Prop} {a : Act} {w : World} (h : wpF P fn₀ c (Exit.noGoto Q) a w) : wpF P fn₀ (Code.scope c) Q a w := by
 intro b k cs hf hro
 have h1 : StepsIn (Machine.fenced P Fence.wide) P (lone (b.atR a (.code (.scope c) :: k)) cs w) (lone (b.atR a (.code c :: .inScope c :: k)) cs w) := by
  rw [Frame.atR_of_none hro, Frame.atR_of_none hro]
  exact .one (fenced_wide _ _) step_scope
 obtain ⟨e, a₁, w₁, hq, harr⟩ := h b (.inScope c :: k) cs hf hro
 cases e with
 | normal =>
  refine ⟨.normal, a₁, w₁, hq, StepsIn.trans h1 (StepsIn.trans harr ?_)⟩
  rw [Frame.atR_of_none hro, Frame.atR_of_none hro]
  exact .one (fenced_wide _ _) step_inScope
 | exit id => exact ⟨.exit id, a₁, w₁, hq, fun k' hk => StepsIn.trans h1 (harr.1 k' (by simpa [exitTo] using hk)), fun hr' => by rw [hro] at hr'; cases hr'⟩
 | goto l => exact hq.elim
 | ret => exact ⟨_, a₁, w₁, hq, .of_steps h1 ⟨fun h => harr.1 h, fun h => by rw [hro] at h; cases h⟩⟩
 | panic ch => exact ⟨_, a₁, w₁, hq, .of_steps h1 harr⟩
 | outgrown => exact ⟨_, a₁, w₁, hq, .of_steps h1 harr⟩
def Marks (n₀ : Nat) (w : World) : List Deferred → Prop
 | [] => True
 | d :: ds => ∃ E, d = markOf E ∧ n₀ ≤ E ∧ w.heap[E]? = some (.deferred (some [])) ∧ markOf E ∉ ds ∧ Marks n₀ w ds
theorem Marks.keep {n₀ : Nat} {w w' : World} {S : Nat → Prop} (hk : Kept S w w') : ∀ (ds : List Deferred), Marks n₀ w ds → (∀ E, markOf E ∈ ds → ¬ S E) → Marks n₀ w' ds
 | [], _, _ => trivial
 | d :: ds, ⟨E, h1, h2, h3, h4, h5⟩, hs => ⟨E, h1, h2, hk.get h3 (hs E (by rw [h1]; exact List.mem_cons_self)), h4, Marks.keep hk ds h5 fun E' h => hs E' (List.mem_cons_of_mem _ h)⟩
theorem Marks.lt {n₀ : Nat} {w : World} : ∀ (ds : List Deferred), Marks n₀ w ds → ∀ E, markOf E ∈ ds → n₀ ≤ E ∧ E < w.heap.size ∧ w.heap[E]? = some (.deferred (some []))
 | d :: ds, ⟨E, h1, h2, h3, h4, h5⟩, E', h => by
  rcases List.mem_cons.1 h with h | h
  ·have he : E' = E := by
    have h6 : markOf E' = markOf E := h.trans h1
    simp only [markOf, Deferred.mk.injEq] at h6
    injection h6.1
   subst he
   exact ⟨h2, lt_of_block h3, h3⟩
  ·exact Marks.lt ds h5 E' h
theorem leavesM_marks {fn : Func} {tmps : Array Value} {R : Ending → World → Prop} {u : FrameMode} {n₀ : Nat} (hu : u ≠ .run) : ∀ (ds : List Deferred) (w : World), Marks n₀ w ds →
  (∀ w', Below n₀ w w' → (∀ k, (∀ E, markOf E ∈ ds → k ≠ E) → w'.heap[k]? = w.heap[k]?) → LeavesInM Fence.wide 0 P fn tmps R [] u w') → LeavesInM Fence.wide 0 P fn tmps R ds u w
 | [], w, _, h => h w (Below.refl _ _) fun _ _ => rfl
 | d :: ds, w, ⟨E, h1, h2, h3, h4, h5⟩, h => by
  rw [h1]
  refine leavesM_mark hu h3 ?_
  have hk : Kept (· = E) w (w.putObj E (.deferred none)) := Kept.putObj (S := (· = E)) _ rfl _
  refine leavesM_marks hu ds _ (Marks.keep hk ds h5 fun E' h he => h4 (he ▸ h)) fun w' hb hsame => ?_
  have hbE : Below n₀ w (w.putObj E (.deferred none)) := below_putObj _ h2 _
  refine h w' (hbE.trans hb) fun k hkk => ?_
  rw [hsame k fun E' he => hkk E' (List.mem_cons_of_mem _ he)]
  exact World.putObj_heap_other (hkk E (by rw [h1]; exact List.mem_cons_self))
end Go.Proofs.YtjpahjfjpkbcnaaGreat
namespace Go.Proofs.YtjpahjfjpkbcnaaGreat
open Go.Proofs Go.RowKit
def dig : Nat → Nat → List Nat
 | 0, _ => []
 | s + 1, k => dig s (k / 26) ++ [k % 26]
theorem dig_len : ∀ (s k : Nat), (dig s k).length = s
 | 0, _ => rfl
 | s + 1, k => by simp [dig, dig_len s]
def WordAt (w : World) (g : Nat) (ds : List Nat) : Prop :=
 ∃ A : Array Value, w.heap[g]? = some (.cells A 5 (0, 0)) ∧ ds.length ≤ A.size ∧ ∀ (j : Nat) (h : j < ds.length), A[j]? = some (.int .u8 (97 + (ds[j] : Int)))
theorem WordAt.cell {w : World} {g : Nat} {ds : List Nat} (h : WordAt w g ds) (j : Nat) (hj : j < ds.length) : w.cell? ⟨g, j, none⟩ = some (.int .u8 (97 + (ds[j] : Int))) := by
 obtain ⟨A, h1, h2, h3⟩ := h
 rw [cell_box h1]; exact h3 j hj
theorem WordAt.free {w : World} {g : Nat} {ds : List Nat} (h : WordAt w g ds) (j : Nat) : w.frozen? ⟨g, j, none⟩ = false := by
 obtain ⟨A, h1, h2, h3⟩ := h
 simp [World.frozen?, h1]
theorem WordAt.keep {w w' : World} {g : Nat} {ds : List Nat} (h : WordAt w g ds) (hb : w'.heap[g]? = w.heap[g]?) : WordAt w' g ds := by
 obtain ⟨A, h1, h2, h3⟩ := h
 exact ⟨A, hb.trans h1, h2, h3⟩
theorem WordAt.lt {w : World} {g : Nat} {ds : List Nat} (h : WordAt w g ds) : g < w.heap.size := by
 obtain ⟨A, h1, h2, h3⟩ := h
 exact lt_of_block h1
theorem WordAt.put {w : World} {g : Nat} {ds : List Nat} (h : WordAt w g ds) (j d : Nat) (hj : j < ds.length) : WordAt (w.setCell ⟨g, j, none⟩ (.int .u8 (97 + (d : Int)))) g (ds.set j d) := by
 obtain ⟨A, h1, h2, h3⟩ := h
 have hlt := lt_of_block h1
 have h' : w.heap[g] = .cells A 5 (0, 0) := by simpa [Array.getElem?_eq_getElem hlt] using h1
 refine ⟨A.setIfInBounds j (.int .u8 (97 + (d : Int))), ?_, by simpa using h2, fun i hi => ?_⟩
 ·show (w.heap.modify g _)[g]? = _
  rw [Array.getElem?_eq_getElem (by simpa using hlt), Array.getElem_modify_self, h']
  rfl
 ·have hi' : i < ds.length := by simpa using hi
  rw [Array.getElem?_setIfInBounds, List.getElem_set]
  by_cases hij : j = i
  ·subst hij
   simp [Nat.lt_of_lt_of_le hj h2]
  ·simp only [hij, if_false]
   exact h3 i hi'
theorem dig_put (r q i d : Nat) : (dig (r + 1) q ++ List.replicate i 0).set r d = dig r (q / 26) ++ d :: List.replicate i 0 := by
 show (dig r (q / 26) ++ [q % 26] ++ List.replicate i 0).set r d = _
 rw [List.append_assoc, List.set_append_right _ _ (by rw [dig_len]; exact Nat.le_refl _), dig_len]
 simp
theorem dig_at (r q i : Nat) (h : r < (dig (r + 1) q ++ List.replicate i 0).length) : (dig (r + 1) q ++ List.replicate i 0)[r] = q % 26 := by
 have : (dig (r + 1) q ++ List.replicate i 0)[r]? = some (q % 26) := by
  show (dig r (q / 26) ++ [q % 26] ++ List.replicate i 0)[r]? = _
  rw [List.append_assoc, List.getElem?_append_right (by rw [dig_len]; exact Nat.le_refl _), dig_len]
  simp
 rw [List.getElem?_eq_getElem h] at this
 exact Option.some.inj this
theorem dig_next (r q : Nat) (h : q % 26 < 25) : dig (r + 1) (q + 1) = dig r (q / 26) ++ [q % 26 + 1] := by
 have h1 : (q + 1) / 26 = q / 26 := by omega
 have h2 : (q + 1) % 26 = q % 26 + 1 := by omega
 show dig r ((q + 1) / 26) ++ [(q + 1) % 26] = _
 rw [h1, h2]
theorem dig_carry (r q : Nat) (h : q % 26 = 25) : dig (r + 1) (q + 1) = dig r (q / 26 + 1) ++ [0] := by
 have h1 : (q + 1) / 26 = q / 26 + 1 := by omega
 have h2 : (q + 1) % 26 = 0 := by omega
 show dig r ((q + 1) / 26) ++ [(q + 1) % 26] = _
 rw [h1, h2]
set_option maxHeartbeats 2000000 in
theorem spellNext_any (s k g cap : Nat) (w : World) (hs : s ≤ 8) (hk : k < 26 ^ s) (hw : WordAt w g (dig s k)) :
  Calls Tryz.prog 156 #[.slice (some ⟨g, 0, none⟩) s cap] w fun e w' => e = .returned (.bool (decide (k + 1 < 26 ^ s))) ∧ (k + 1 < 26 ^ s → WordAt w' g (dig s (k + 1))) ∧ Kept (· = g) w w' := by
 have HW := lh hw; have HKS := lh hk
 clear hw hk
 go_enter Tryz.func156, Tryz.ntmps156
 go_wp2
 go_loopw [7] (fun i wr => ∃ (j q r : Nat), s = r + j ∧ i = .int .i64 j ∧ Hid (q < 26 ^ r) ∧ WordAt wr g (dig r q ++ List.replicate j 0) ∧ Hid (dig s (k + 1) = dig r (q + 1) ++ List.replicate j 0) ∧ Hid (k + 1 < 26 ^ s ↔ q + 1 < 26 ^ r) ∧ Kept (· = g) w wr) (fun i _ => s - (intOf i).toNat)
 case atStart => exact ⟨0, k, s, rfl, rfl, HKS.out, by simpa using HW.out, by simp [Hid], Iff.rfl, Kept.refl _ _⟩
 case round =>
  obtain ⟨j, q, r, hsr, rfl, hq, hwd, hnx, hif, hkp⟩ := hrel
  cases r with
  | zero =>
   obtain rfl : s = j := by omega
   have hq0 : ¬ (k + 1 < 26 ^ s) := fun h => by have := hif.out.1 h; simp at this
   have HQ := lh hq0; have HKP := lh hkp
   clear hq0 hkp hwd hsr
   go_wp2
   go_ret
   exact ⟨ret_bool (by simpa using HQ.out), fun h => (HQ.out h).elim, HKP.out⟩
  | succ r =>
   have hlen : r < (dig (r + 1) q ++ List.replicate j 0).length := by simp [dig_len]; omega
   have hcell := hwd.cell r hlen
   rw [dig_at r q j hlen] at hcell
   have hfree := hwd.free r
   have hr1 : (s : Int) - 1 - (j : Int) = (r : Int) := by omega
   have hjs : (j : Int) < (s : Int) := by omega
   have hrs : r < s := by omega
   have hd : q % 26 < 26 := Nat.mod_lt _ (by omega)
   have HSR := lh hsr; have HWD := lh hwd; have HKP := lh hkp; have HLEN := lh hlen
   clear hsr hwd hkp hlen
   by_cases h25 : q % 26 < 25
   ·have h122 : (97 + ((q % 26 : Nat) : Int)) < 122 := by omega
    generalize hdd : q % 26 = dgt at *
    have HDD := lh hdd
    clear hdd
    go_wp2
    have he : (97 + (dgt : Int) + 1) = 97 + ((dgt + 1 : Nat) : Int) := by omega
    rw [he]
    go_ret
    have hlt : q + 1 < 26 ^ (r + 1) := by
     have h1 := hq.out
     have h2 := HDD.out
     rw [Nat.pow_succ] at h1 ⊢
     omega
    refine ⟨ret_bool (by simpa using hif.out.2 hlt), fun _ => ?_, HKP.out.trans (.setCell (S := (· = g)) _ rfl _)⟩
    have hp := HWD.out.put r (dgt + 1) HLEN.out
    rw [dig_put] at hp
    rw [hnx.out, dig_next r q (by have := HDD.out; omega), HDD.out]
    simpa using hp
   ·have h122 : ¬ (97 + ((q % 26 : Nat) : Int)) < 122 := by omega
    generalize hdd : q % 26 = dgt at *
    have HDD := lh hdd
    clear hdd
    go_wp2
    have hp := HWD.out.put r 0 HLEN.out
    rw [dig_put, show (97 + ((0 : Nat) : Int)) = 97 from rfl] at hp
    have HP := lh hp
    clear hp
    go_roundw
    case rel =>
     have h1 := hq.out
     have h2 := HDD.out
     have h3 := HSR.out
     refine ⟨j + 1, q / 26, r, by omega, by go_num, ?_, HP.out, ?_, ?_, HKP.out.trans (.setCell (S := (· = g)) _ rfl _)⟩
     ·unfold Hid
      rw [Nat.pow_succ] at h1
      omega
     ·unfold Hid
      rw [hnx.out, dig_carry r q (by omega), List.append_assoc]
      rfl
     ·unfold Hid
      rw [hif.out, Nat.pow_succ]
      omega
    case measure => simp [intOf]; omega
set_option maxHeartbeats 2000000 in
theorem Mul_any (n : Nat) (hn : n ≤ 8) (w : World) : Calls Tryz.prog 167 #[.int .u64 1, .int .u64 n] w fun e w' => e = .returned (.tuple #[.int .u64 0, .int .u64 n]) ∧ w' = w := by
 have key : ∀ m ∈ [0, 1, 2, 3, 4, 5, 6, 7, 8], Calls Tryz.prog 174 #[.int .u64 1, .int .u64 ((m : Nat) : Int)] w fun e w' => e = .returned (.tuple #[.int .u64 0, .int .u64 ((m : Nat) : Int)]) ∧ w' = w := by
  intro m hm
  simp only [List.mem_cons, List.not_mem_nil, or_false] at hm
  rcases hm with rfl | rfl | rfl | rfl | rfl | rfl | rfl | rfl | rfl <;>
  ·go_enter Tryz.func174, Tryz.ntmps174
   go_wp2
   exact bodyPost_ret (v := .tuple #[.int .u64 0, .int .u64 _]) (by simp [results, Tryz.results174, go_sem] <;> (first | rfl | decide)) rfl ⟨rfl, rfl⟩
 have hk := key n (by simp; omega)
 have HK := lh hk
 clear hk key
 go_enter Tryz.func167, Tryz.ntmps167
 go_wp2_with fail
 refine HK.out.mono ?_
 rintro e w1 ⟨rfl, rfl⟩
 go_wp2
 exact bodyPost_ret (v := .tuple #[.int .u64 0, .int .u64 n]) (by simp [results, Tryz.results167, go_sem]) rfl ⟨rfl, rfl⟩
theorem step_copy_row {P : Program} {ops : Array Oper} {o : Oper} {a : Act} {w : World} {K : Act → World → Prop} {Q : Exit → Act → World → Prop} {E : Prop}
  (hgd : o.guard = none) (d s : Operand) (dT sT : TypeId) (ho : o.op = .call { callee := .builtin .copy, args := #[d, s], argTypes := #[dT, sT] }) (elem : TypeId) (hu : P.underlying dT = some (.slice elem)) (hsz : (P.info? elem).map (·.size) = some 1)
  (g off dLen dCap : Nat) (ad : Addr) (sLen sCap : Nat) (hd : a.eval d = .slice (some ⟨g, off, none⟩) dLen dCap) (hs : a.eval s = .slice (some ad) sLen sCap)
  (cur : Array Value) (t : TypeId) (hg : w.heap[g]? = some (.cells cur t (0, 0))) (cs : List Value) (hn : cs.length = Nat.min sLen dLen)
  (hsrc : ∀ j v, cs[j]? = some v → w.cell? (ad.add j) = some v) (hfit : off + cs.length ≤ cur.size) (h1 : ∀ v ∈ cs, v.oneCell' = true)
  (hK : K (a.put o.dst (goInt cs.length)) (w.setRow g (cur.toList.take off ++ (cs ++ cur.toList.drop (off + cs.length))).toArray)) :
  if Region.wanted o (yielded ops a.tmps) = true then Oper.wp P o a w K Q else E := by
 have hw : Region.wanted o (yielded ops a.tmps) = true := by simp [Region.wanted, hgd]
 rw [if_pos hw]
 have hrun := run_copy_row (P := P) w dT sT o.type elem g off dLen dCap ad sLen sCap cur t cs hu hsz hg hn hsrc hfit h1
 unfold Oper.wp
 simp [execOp, ho, resolve, invoke, builtin, hd, hs, hrun, Result.andThen]
 exact hK
def AsAt (w : World) (g n i : Nat) : Prop := ∃ A : Array Value, w.heap[g]? = some (.cells A 5 (0, 0)) ∧ n ≤ A.size ∧ ∀ j, j < i → A[j]? = some (.int .u8 97)
theorem dig_zero : ∀ (s : Nat), dig s 0 = List.replicate s 0
 | 0 => rfl
 | s + 1 => by
  show dig s (0 / 26) ++ [0 % 26] = _
  rw [Nat.zero_div, Nat.zero_mod, dig_zero s, List.replicate_succ']
theorem AsAt.word {w : World} {g n : Nat} (h : AsAt w g n n) : WordAt w g (dig n 0) := by
 obtain ⟨A, h1, h2, h3⟩ := h
 refine ⟨A, h1, by rw [dig_len]; exact h2, fun j hj => ?_⟩
 rw [dig_len] at hj
 rw [h3 j hj]
 simp [dig_zero]
theorem AsAt.row {w : World} {g n i m : Nat} {A : Array Value} (h1 : w.heap[g]? = some (.cells A 5 (0, 0))) (h2 : n ≤ A.size) (h3 : ∀ j, j < i → A[j]? = some (.int .u8 97)) (him : i + m ≤ n) :
  AsAt (w.setRow g (A.toList.take i ++ (List.replicate m (Value.int .u8 97) ++ A.toList.drop (i + m))).toArray) g n (i + m) := by
 refine ⟨_, setRow_heap w g A _ 5 _ h1, by simp; omega, fun j hj => ?_⟩
 rw [List.getElem?_toArray]
 by_cases hji : j < i
 ·rw [List.getElem?_append_left (by simp; omega), List.getElem?_take_of_lt hji]
  simpa using h3 j hji
 ·rw [List.getElem?_append_right (by simp; omega), List.getElem?_append_left (by simp; omega), List.getElem?_replicate, if_pos (by simp; omega)]
theorem Tz.underlying136 : Tryz.prog.underlying 136 = some (.slice 5) := by kernel_rfl
theorem Tz.size5 : (Tryz.prog.info? 5).map (·.size) = some 1 := by kernel_rfl
set_option maxHeartbeats 2000000 in
set_option maxRecDepth 100000 in
theorem Repeat_any (n b : Nat) (w : World) (h1 : 1 ≤ n) (h8 : n ≤ 8) (hb : b < w.heap.size) (hc : w.cell? ⟨b, 0, none⟩ = some (.int .u8 97)) :
  Calls Tryz.prog 155 #[.slice (some ⟨b, 0, none⟩) 1 1, .int .i64 n] w fun e w' => (∃ g cap, e = .returned (.slice (some ⟨g, 0, none⟩) n cap) ∧ w.heap.size ≤ g ∧ WordAt w' g (dig n 0)) ∧ Below w.heap.size w w' := by
 have hn0 : ¬ ((n : Int) = 0) := by omega
 have HM := lh (fun W => Mul_any n h8 W)
 go_enter Tryz.func155, Tryz.ntmps155
 go_wp2_with fail
 refine (HM.out _).mono ?_
 rintro e w1 ⟨rfl, rfl⟩
 obtain ⟨cs, hrun, hle, hmax⟩ := Lib.run_makeNoZero (P := Tryz.prog) w1 #[3] 136 5 Tz.underlying136 n (by omega)
 have hcall : (callFunc 168 #[.int .i64 n]).run Tryz.prog w1 = .ok (.value (.slice (some ⟨w1.heap.size, 0, none⟩) n cs.size)) (w1.drew.drew.alloc (.cells cs 5)) := by
  rw [run_callFunc_extern (fn := Tryz.f168) rfl (by kernel_rfl) (by kernel_rfl) (by kernel_rfl) (e := Extern.BytealgMakeNoZero.makeNoZero #[3] #[136]) (by kernel_rfl), hrun]
  rfl
 have hB0 : Below w1.heap.size w1 (w1.drew.drew.alloc (.cells cs 5)) := Below.trans (⟨rfl, rfl, rfl, Nat.le_refl _, fun _ _ => rfl⟩ : Below w1.heap.size w1 w1.drew.drew) ((Below.refl w1.heap.size w1.drew.drew).alloc (Nat.le_refl _) _)
 have hx0 := heap_alloc_new w1.drew.drew (.cells cs 5)
 have hs0 : (w1.drew.drew.alloc (.cells cs 5)).heap.size = w1.heap.size + 1 := by simp
 generalize (w1.drew.drew.alloc (.cells cs 5)) = W at *
 replace hx0 : W.heap[w1.heap.size]? = some (.cells cs 5 (0, 0)) := hx0
 have hcb := (hB0.cell (p := ⟨b, 0, none⟩) hb).trans hc
 have HRUN := lh hrun; have HMAX := lh hmax; have HB0 := lh hB0; have HX0 := lh hx0; have HC := lh hcb
 have HN1 := lh (show [Value.int .u8 97].length = Nat.min 1 n by show 1 = min 1 n; omega)
 have HFIT := lh (show 0 + [Value.int .u8 97].length ≤ cs.size by show 0 + 1 ≤ cs.size; omega)
 have HSRC := lh (show ∀ (j : Nat) (v : Value), [Value.int .u8 97][j]? = some v → W.cell? ((⟨b, 0, none⟩ : Addr).add j) = some v by
  intro j v hj
  cases j with
  | zero => cases hj; exact hcb
  | succ j => cases hj)
 clear hrun hmax hB0 hx0 hcb HM
 go_upto_region 17 with fail
 go_wp2_with (refine wpList_copy_own rfl _ _ 136 136 rfl 5 Tz.underlying136 Tz.size5 w1.heap.size 0 n n ⟨b, 0, none⟩ 1 1 rfl rfl cs 5 HX0.out [.int .u8 97] HN1.out HSRC.out HFIT.out (ints_oneCell .u8 [97]) ?_)
 have hA : AsAt (W.setRow w1.heap.size (cs.toList.take 0 ++ ([Value.int .u8 97] ++ cs.toList.drop (0 + [Value.int .u8 97].length))).toArray) w1.heap.size n (0 + 1) := AsAt.row (m := 1) HX0.out hle (fun j hj => absurd hj (by omega)) (by omega)
 have hBr := below_setRow HB0.out (Nat.le_refl _) (cs.toList.take 0 ++ ([Value.int .u8 97] ++ cs.toList.drop (0 + [Value.int .u8 97].length))).toArray
 have HA := lh hA; have HBR := lh hBr
 clear hA hBr
 go_loopw [10] (fun u wr => ∃ i : Nat, 1 ≤ i ∧ i ≤ n ∧ u = .int .i64 i ∧ AsAt wr w1.heap.size n i ∧ Below w1.heap.size w1 wr) (fun u _ => n - (intOf u).toNat)
 case atStart => exact ⟨1, Nat.le_refl _, h1, rfl, by simpa using HA.out, by simpa using HBR.out⟩
 case round =>
  obtain ⟨i, hi1, hin, rfl, hA, hB⟩ := hrel
  by_cases hlt : i < n
  ·obtain ⟨A, ha1, ha2, ha3⟩ := hA
   have hmin : min i n = i := by omega
   have hcm : ¬ n = i := by omega
   have HA1 := lh ha1; have HA2 := lh ha2; have HA3 := lh ha3; have HB := lh hB
   clear ha1 ha2 ha3 hB
   go_upto_region 20 with fail
   obtain ⟨m, hm⟩ : ∃ m, m = min i (n - i) := ⟨_, rfl⟩
   have hm1 : 1 ≤ m := by omega
   have hmn : i + m ≤ n := by omega
   have hmi : m ≤ i := by omega
   have HN := lh (show (List.replicate m (Value.int .u8 97)).length = Nat.min i (n - i) by rw [List.length_replicate]; exact hm)
   have HFT := lh (show i + (List.replicate m (Value.int .u8 97)).length ≤ A.size by rw [List.length_replicate]; have := HA2.out; omega)
   have HSR := lh (show ∀ (j : Nat) (v : Value), (List.replicate m (Value.int .u8 97))[j]? = some v → wr.drew.cell? ((⟨w1.heap.size, 0, none⟩ : Addr).add j) = some v by
    intro j v hj
    rw [List.getElem?_replicate] at hj
    split at hj
    ·rename_i hjm
     cases hj
     have : ((⟨w1.heap.size, 0, none⟩ : Addr).add j) = ⟨w1.heap.size, j, none⟩ := by unfold Addr.add; split <;> simp_all
     rw [this]
     exact (cell_box (W := wr) HA1.out).trans (HA3.out j (by omega))
    ·cases hj)
   have HON := lh (show ∀ v ∈ List.replicate m (Value.int .u8 97), v.oneCell' = true by
    intro v hv
    rw [List.eq_of_mem_replicate hv]
    rfl)
   have HM := lh hm
   clear hm
   go_region_law (refine step_copy_row (by rfl) (.tmp 70) (.tmp 73) 136 136 (by rfl) 5 Tz.underlying136 Tz.size5 w1.heap.size i (n - i) (n - i) ⟨w1.heap.size, 0, none⟩ i n (by go_simp) (by go_simp) A 5 (by exact HA1.out) (List.replicate m (Value.int .u8 97)) HN.out HSR.out HFT.out HON.out ?_)
   have hlr : (List.replicate m (Value.int .u8 97)).length = m := List.length_replicate
   have hA' := AsAt.row (w := wr.drew) (m := m) HA1.out HA2.out HA3.out hmn
   have hB' := below_setRow (w := wr.drew) (HB.out.trans (⟨rfl, rfl, rfl, Nat.le_refl _, fun _ _ => rfl⟩ : Below w1.heap.size wr wr.drew)) (Nat.le_refl _) (A.toList.take i ++ (List.replicate m (Value.int .u8 97) ++ A.toList.drop (i + m))).toArray
   have HA' := lh hA'; have HB' := lh hB'
   clear hA' hB'
   go_simp
   have hwr : IntKind.i64.wrap ((i : Int) + (m : Int)) = ((i + m : Nat) : Int) := by rw [IntKind.wrap_i64]; omega
   rw [hwr]
   clear hwr
   go_roundw
   case rel =>
    (repeat apply Exists.intro)
    exact ⟨⟨i + m, by omega, hmn, rfl, HA'.out, HB'.out⟩, rfl⟩
   case measure => simp [intOf]; omega
  ·obtain rfl : i = n := by omega
   have HW := lh hA.word; have HB := lh hB
   clear hA hB
   go_wp2
   go_ret
   exact ⟨⟨_, _, rfl, Nat.le_refl _, HW.out⟩, HB.out⟩
attribute [local go_sem] Oper.semAt_some
def letters (ds : List Nat) : List UInt8 := ds.map fun d => UInt8.ofNat (97 + d)
def wordB (n k : Nat) : ByteArray := ⟨(letters (dig n k)).toArray⟩
def wordsN (n : Nat) : List ByteArray := (List.range (26 ^ n)).map (wordB n)
def encS (s : ByteArray) : Array Value := #[.string s]
theorem dig_lt : ∀ (s k : Nat), ∀ d ∈ dig s k, d < 26
 | 0, _, d, h => by cases h
 | s + 1, k, d, h => by
  rcases List.mem_append.1 (show d ∈ dig s (k / 26) ++ [k % 26] from h) with h | h
  ·exact dig_lt s _ d h
  ·simp at h; subst h; omega
theorem dig_inj : ∀ (s k k' : Nat), k < 26 ^ s → k' < 26 ^ s → dig s k = dig s k' → k = k'
 | 0, k, k', h, h', _ => by simp at h h'; omega
 | s + 1, k, k', h, h', he => by
  have he' : dig s (k / 26) ++ [k % 26] = dig s (k' / 26) ++ [k' % 26] := he
  obtain ⟨h1, h2⟩ := List.append_inj he' (by rw [dig_len, dig_len])
  rw [Nat.pow_succ] at h h'
  have := dig_inj s (k / 26) (k' / 26) (by omega) (by omega) h1
  simp at h2
  omega
theorem WordAt.inj {w : World} {g : Nat} {ds ds' : List Nat} (h : WordAt w g ds) (h' : WordAt w g ds') (hl : ds.length = ds'.length) : ds = ds' := by
 refine List.ext_getElem hl fun j h1 h2 => ?_
 have e1 := h.cell j h1
 have e2 := h'.cell j h2
 rw [e1] at e2
 simp at e2
 omega
open Classical in
noncomputable def wordK (w : World) (g n : Nat) : Nat := if h : ∃ k, k < 26 ^ n ∧ WordAt w g (dig n k) then Classical.choose h else 0
theorem wordK_eq {w : World} {g n k : Nat} (hk : k < 26 ^ n) (h : WordAt w g (dig n k)) : wordK w g n = k := by
 have he : ∃ k, k < 26 ^ n ∧ WordAt w g (dig n k) := ⟨k, hk, h⟩
 unfold wordK
 rw [dif_pos he]
 have hc := Classical.choose_spec he
 exact dig_inj n _ _ hc.1 hk (hc.2.inj h (by rw [dig_len, dig_len]))
theorem WordAt.conv {w : World} {g n k cap : Nat} (h : WordAt w g (dig n k)) : (convert 136 9 (.slice (some ⟨g, 0, none⟩) n cap)).run Tryz.prog w = .ok (.string (wordB n k)) w := by
 have hl : (letters (dig n k)).length = n := by unfold letters; rw [List.length_map, dig_len]
 have := run_convert_bytes_back (P := Tryz.prog) w 136 9 5 ⟨g, 0, none⟩ cap (letters (dig n k)) Tz.underlying136 (by kernel_rfl) Tryz.underlying9 (fun j hj => by
  have hj' : j < (dig n k).length := by rw [dig_len]; rw [hl] at hj; exact hj
  have ha : ((⟨g, 0, none⟩ : Addr).add j) = ⟨g, j, none⟩ := by unfold Addr.add; split <;> simp_all
  rw [ha, h.cell j hj']
  have hd := dig_lt n k _ (List.getElem_mem hj')
  have : (letters (dig n k))[j] = UInt8.ofNat (97 + (dig n k)[j]) := by simp [letters]
  rw [this]
  have h2 : (UInt8.ofNat (97 + (dig n k)[j])).toNat = 97 + (dig n k)[j] := by rw [UInt8.toNat_ofNat']; omega
  rw [h2]
  simp)
 rw [hl] at this
 exact this
theorem spelt_any (n : Int) (w : World) : Calls Tryz.prog 116 #[.int .i64 n] w fun e w' => e = .returned (.func (.func 154) #[] #[.pointer (some ⟨w.heap.size, 0, none⟩)]) ∧ w' = w.alloc (.cells #[.int .i64 n] 3) := by
 go_enter Tryz.func116, Tryz.ntmps116
 go_wp2
 go_ret
 exact ⟨rfl, rfl⟩
noncomputable def leftOf (u : Value) (w : World) (g n : Nat) : Nat := match u with | .bool true => 26 ^ n + 1 - wordK w g n | _ => 0
theorem leftOf_true (w : World) (g n : Nat) : leftOf (.bool true) w g n = 26 ^ n + 1 - wordK w g n := rfl
theorem leftOf_false (w : World) (g n : Nat) : leftOf (.bool false) w g n = 0 := rfl
theorem words_split (n k : Nat) (h : k < 26 ^ n) : wordsN n = (wordsN n).take k ++ wordB n k :: (wordsN n).drop (k + 1) ∧ (wordsN n).take (k + 1) = (wordsN n).take k ++ [wordB n k] := by
 have hl : k < (wordsN n).length := by unfold wordsN; simpa using h
 have hg : (wordsN n)[k] = wordB n k := by
  have hh : (wordsN n)[k]? = some (wordB n k) := by unfold wordsN; rw [List.getElem?_map, List.getElem?_range h]; rfl
  rw [List.getElem?_eq_getElem hl] at hh
  exact Option.some.inj hh
 refine ⟨?_, ?_⟩
 ·conv => lhs; rw [← List.take_append_drop k (wordsN n), List.drop_eq_getElem_cons hl, hg]
 ·rw [List.take_succ_eq_append_getElem hl, hg]
theorem words_all (n k : Nat) (h : ¬ k + 1 < 26 ^ n) : (wordsN n).take (k + 1) = wordsN n := List.take_of_length_le (by unfold wordsN; simp; omega)
set_option maxHeartbeats 2000000 in
set_option maxRecDepth 100000 in
theorem iterS {n Bs : Nat} {w : World} (h1 : 1 ≤ n) (h8 : n ≤ 8) (hB : w.heap[Bs]? = some (.cells #[.int .i64 n] 3 (0, 0))) :
  Iter Tryz.prog 154 #[.pointer (some ⟨Bs, 0, none⟩)] encS (wordsN n) (fun k => k = Bs) w := by
 intro l S J Jx Jp W hW hS hJ hY h0
 have hbs := bget' hW hB
 have hc0 := cell_of_one (bget' ((Below.refl _ W).alloc (Nat.le_refl _) (.cells #[.int .u8 97] 5)) hbs)
 have HBS := lh hbs; have HY := lh hY; have HJ := lh hJ; have H0 := lh h0; have HS := lh hS
 clear hbs hB hY hJ h0 hW hS
 refine callsIn_of_wp Tryz.func154 rfl trivial ?_ rfl
 simp only [Tryz.ntmps154, List.size_toArray, List.length_cons, List.length_nil, Nat.reduceAdd, Nat.reduceSub, Array.replicate_succ, Array.replicate_zero, List.push_toArray, List.append_toArray, List.nil_append, List.cons_append]
 gi_wp2_with fail
 have hca := heap_alloc_new W (.cells #[.int .u8 97] 5)
 have hrp := Repeat_any n W.heap.size (W.alloc (.cells #[.int .u8 97] 5)) h1 h8 (by simp) (cell_box hca)
 refine ⟨trivial, rfl, (callsIn_wide.2 hrp).mono ?_⟩
 rintro e W1 ⟨⟨g, cap, rfl, hg, hwd⟩, hb1⟩
 simp only [World.size_alloc] at hg
 have hBW1 : Below W.heap.size W W1 := ((Below.refl _ W).alloc (Nat.le_refl _) _).trans (hb1.mono (by simp))
 have hj1 := HJ.out _ _ _ H0.out hBW1
 have HWD := lh hwd; have HJ1 := lh hj1
 clear hwd hj1 hca hrp hb1 hc0
 gi_wp2_with fail
 gi_loopw [4] (fun u wr => (∃ k : Nat, u = .bool true ∧ k < 26 ^ n ∧ J ((wordsN n).take k) wr ∧ WordAt wr g (dig n k) ∧ W.heap.size ≤ wr.heap.size) ∨ (u = .bool false ∧ J (wordsN n) wr)) (fun u wr => leftOf u wr g n)
 case atStart => exact .inl ⟨0, rfl, Nat.pos_of_ne_zero (by simp), HJ1.out, HWD.out, hBW1.size⟩
 case round =>
  rcases hrel with ⟨k, rfl, hk, hj, hwd, hsz⟩ | ⟨rfl, hj⟩
  ·obtain ⟨hsp, htk⟩ := words_split n k hk
   obtain ⟨fn, tmps, assign, body, hy, hR⟩ := HY.out _ (wordB n k) _ wr hsp hj
   have hcv := hwd.conv (cap := cap)
   have HWD2 := lh hwd; have HTK := lh htk; have HK := lh hk
   have HRR := lh (hR.mono (R' := fun e W' => (e = .returned (.bool true) ∧ Hid (Kept S wr W') ∧ J ((wordsN n).take k ++ [wordB n k]) W') ∨ (e = .returned (.bool false) ∧ Jx W') ∨ ∃ ch, e = .panicked ch ∧ Jp ch W')
    (fun e W' h => h.2.elim (fun h' => .inl ⟨h'.1, h.1, h'.2⟩) fun h' => .inr h'))
   clear hwd hsp htk hR hj HWD HJ1 hk
   dsimp only [encS] at hy
   gi_wp2_with fail
   refine ⟨by simp [Fence.wide], ?_⟩
   refine RoundIn.mono HRR.out ?_
   clear HRR hcv hy
   rintro e W2 (⟨rfl, HK2, hj2⟩ | ⟨rfl, hjx⟩ | ⟨ch, rfl, hjp⟩)
   ·have hwd2 := HWD2.out.keep (HK2.out.block g HWD2.out.lt fun h => by have := (HS.out g h).1; omega)
    have hs2 := HK2.out.size
    have HSP := lh (spellNext_any n k g cap W2 h8 HK.out hwd2)
    have HJ2 := lh hj2
    clear hwd2 hj2
    gi_wp2_with fail
    refine ⟨trivial, rfl, (callsIn_wide.2 HSP.out).mono ?_⟩
    rintro e W3 ⟨rfl, hw3, hk3⟩
    have hj3 := HJ.out _ _ _ HJ2.out (hk3.below (n₀ := W.heap.size) (by omega) (by rintro j rfl; omega))
    rw [← HTK.out] at hj3
    have hs3 := hk3.size
    by_cases hlt : k + 1 < 26 ^ n
    ·rw [decide_eq_true hlt]
     have HW3 := lh (hw3 hlt); have HJ3 := lh hj3; have HLT := lh hlt
     clear hw3 hj3 hlt hk3
     gi_wp2
     go_roundw
     case rel => exact .inl ⟨k + 1, rfl, HLT.out, HJ3.out, HW3.out, by omega⟩
     case measure =>
      rw [leftOf_true, leftOf_true, wordK_eq HK.out HWD2.out, wordK_eq HLT.out HW3.out]
      have := HLT.out
      omega
    ·rw [decide_eq_false hlt]
     rw [words_all n k hlt] at hj3
     have HJ3 := lh hj3; have HK3 := HK.out
     clear hw3 hj3 hlt hk3
     gi_wp2
     go_roundw
     case rel => exact .inr ⟨rfl, HJ3.out⟩
     case measure =>
      rw [leftOf_true, leftOf_false, wordK_eq HK.out HWD2.out]
      have := HK.out
      omega
   ·gi_wp2
    exact bodyPost_ret (results_none rfl _ _ _) rfl (.inl ⟨⟨_, rfl⟩, .inr hjx⟩)
   ·gi_wp2
    exact ⟨rfl, .inr ⟨ch, rfl, hjp⟩⟩
  ·have HJD := lh hj
   clear hj
   gi_wp2
   go_end0
   exact .inl ⟨⟨_, rfl⟩, .inl HJD.out⟩
end Go.Proofs.YtjpahjfjpkbcnaaGreat
namespace Go.Proofs.YtjpahjfjpkbcnaaGreat
open Go.Proofs Go.RowKit
attribute [local go_sem] Oper.semAt_some
def freshB (mem : List UInt8 → Bool) (s : ByteArray) : Bool := nameB s && !mem s.toList
def firstFrom (mem : List UInt8 → Bool) : Nat → Nat → ByteArray
 | 0, _ => ⟨#[]⟩
 | f + 1, size => match (wordsN size).find? (freshB mem) with
  | some s => s
  | none => firstFrom mem f (size + 1)
theorem firstFrom_none (mem : List UInt8 → Bool) (f size : Nat) (h : ∀ s ∈ wordsN size, freshB mem s = false) : firstFrom mem (f + 1) size = firstFrom mem f (size + 1) := by
 have hn : (wordsN size).find? (freshB mem) = none := List.find?_eq_none.2 fun s hs => by simp [h s hs]
 conv => lhs; unfold firstFrom
 rw [hn]
theorem firstFrom_some (mem : List UInt8 → Bool) (f size : Nat) (pre post : List ByteArray) (x : ByteArray) (hx : wordsN size = pre ++ x :: post) (h : ∀ s ∈ pre, freshB mem s = false) (hf : freshB mem x = true) : firstFrom mem (f + 1) size = x := by
 have hn : (wordsN size).find? (freshB mem) = some x := by
  rw [hx, List.find?_append, List.find?_eq_none.2 fun s hs => by simp [h s hs]]
  simp [hf]
 conv => lhs; unfold firstFrom
 rw [hn]
theorem word_size {n : Nat} {x : ByteArray} (h : x ∈ wordsN n) : x.size = n := by
 obtain ⟨k, -, rfl⟩ := List.mem_map.1 h
 simp [wordB, letters, ByteArray.size, dig_len]
def firstW (mem : List UInt8 → Bool) : ByteArray := firstFrom mem 8 1
structure FirstSt (w : World) (mb n : Nat) (mem : List UInt8 → Bool) (wr : World) (ds : List Deferred) : Prop where
 set : SetAt wr mb n mem
 box1 : wr.heap[w.heap.size]? = some (.cells #[.map (some mb)] 87 (0, 0))
 box3 : wr.heap[w.heap.size + 1]? = some (.cells #[.string ⟨#[]⟩] 9 (0, 0))
 marks : Marks (w.heap.size + 2) wr ds
 below : Below w.heap.size w wr
 size : w.heap.size + 2 ≤ wr.heap.size
theorem FirstSt.keep {w : World} {mb n : Nat} {mem : List UInt8 → Bool} {wr w' : World} {ds : List Deferred} {S : Nat → Prop} (h : FirstSt w mb n mem wr ds) (hk : Kept S wr w') (h1 : ¬ S mb) (h2 : ¬ S w.heap.size) (h3 : ¬ S (w.heap.size + 1))
  (h4 : ∀ E, markOf E ∈ ds → ¬ S E) (h5 : ∀ k, S k → w.heap.size ≤ k) : FirstSt w mb n mem w' ds :=
 ⟨h.set.kept hk h1, hk.get h.box1 h2, hk.get h.box3 h3, h.marks.keep hk ds h4, h.below.trans (hk.below h.below.size h5), Nat.le_trans h.size hk.size⟩
set_option maxHeartbeats 4000000 in
set_option maxRecDepth 100000 in
theorem first_any (mb n : Nat) (mem : List UInt8 → Bool) (w : World) (hset : SetAt w mb n mem) :
  CallsIn Fence.wide 0 Tryz.prog 64 #[.agg #[.map (some mb)]] w fun e w' => e = .returned (.string (firstW mem)) ∧ Below w.heap.size w w' := by
 have hmb := hset.lt
 refine calls_of_wpF Tryz.func64 rfl ?_
 simp only [Tryz.ntmps64, List.size_toArray, List.length_cons, List.length_nil, Nat.reduceAdd, Nat.reduceSub, Array.replicate_succ, Array.replicate_zero, List.push_toArray, List.append_toArray, List.nil_append, List.cons_append]
 refine wpF_seq ?_
 intro K hK
 refine wpF_of (n := 0) ?_
 gi_wp2
 refine wpF_scope ?_
 refine wpF_seq ?_
 intro K2 hK2
 refine wpF_of (n := 0) ?_
 gi_wp2
 refine wpF_seq ?_
 intro K3 hK3
 refine wpF_of (n := 0) ?_
 gi_wp2
 have hbW : Below w.heap.size w ((w.alloc (.cells #[.map (some mb)] 87)).alloc (.cells #[.string ⟨#[]⟩] 9)) := ((Below.refl _ w).alloc (Nat.le_refl _) _).alloc (by simp) _
 have hst0 : FirstSt w mb n mem ((w.alloc (.cells #[.map (some mb)] 87)).alloc (.cells #[.string ⟨#[]⟩] 9)) [] :=
  ⟨hset.below hbW hmb, by rw [Below.heap_alloc _ _ _ (by simp)]; exact heap_alloc_new _ _, by have := heap_alloc_new (w.alloc (.cells #[.map (some mb)] 87)) (.cells #[.string ⟨#[]⟩] 9); simpa using this, trivial, hbW, by simp⟩
 generalize ((w.alloc (.cells #[.map (some mb)] 87)).alloc (.cells #[.string ⟨#[]⟩] 9)) = W at *
 have HST0 := lh hst0
 clear hst0 hbW
 refine wpIn_label ?_
 refine hK3 _ _ ?_
 clear hK3
 refine wpF_seq ?_
 intro K4 hK4
 have fin : ∀ (u5 u6 u7 u8 u9 u10 u11 u12 u13 u14 u15 u16 u17 u18 u19 u20 u21 u22 u23 v4 : Value) (ds : List Deferred) (V : World), V.heap[w.heap.size + 1]? = some (.cells #[.string (firstW mem)] 9 (0, 0)) → Marks (w.heap.size + 2) V ds → Below w.heap.size w V → w.heap.size + 2 ≤ V.heap.size →
   K4 { tmps := #[.agg #[.map (some mb)], .pointer (some ⟨w.heap.size, 0, none⟩), .string ⟨#[]⟩, .pointer (some ⟨w.heap.size + 1, 0, none⟩), v4, u5, u6, u7, u8, u9, u10, u11, u12, u13, u14, u15, u16, u17, u18, u19, u20, u21, u22, u23], defers := ds } V := by
  intro u5 u6 u7 u8 u9 u10 u11 u12 u13 u14 u15 u16 u17 u18 u19 u20 u21 u22 u23 v4 ds V hbx hmk hbl hsz
  refine hK4 _ _ ?_
  have c3 := cell_of_one hbx
  have HMK := lh hmk; have HBL := lh hbl
  clear hbx hmk hbl hK4
  refine wpF_of (n := 0) ?_
  gi_wp2
  refine leavesM_marks (by simp) ds _ HMK.out fun w' hb hsame => ?_
  exact ⟨_, results_tmp rfl _ _ _, rfl, HBL.out.trans (hb.mono (by omega))⟩
 have FIN := lh fin
 clear fin hK4
 refine wpF_seq ?_
 intro K5 hK5
 refine wpF_of (n := 0) ?_
 gi_wp2
 refine wpF_block ?_
 refine wpF_loop (fun a wr => ∃ (size : Nat) (ds : List Deferred) (u5 u6 u7 u8 u9 u10 u11 u12 u13 u14 u15 u16 u17 u18 u19 u20 u21 u22 u23 : Value), a = { tmps := #[.agg #[.map (some mb)], .pointer (some ⟨w.heap.size, 0, none⟩), .string ⟨#[]⟩, .pointer (some ⟨w.heap.size + 1, 0, none⟩), .int .i64 size, u5, u6, u7, u8, u9, u10, u11, u12, u13, u14, u15, u16, u17, u18, u19, u20, u21, u22, u23], defers := ds } ∧ 1 ≤ size ∧ size ≤ 9 ∧ FirstSt w mb n mem wr ds ∧ Hid (firstW mem = firstFrom mem (9 - size) size)) (fun a _ => 9 - (intOf (a.tmps.getD 4 undef)).toNat) ?h0 ?round
 case h0 => exact ⟨1, [], _, _, _, _, _, _, _, _, _, _, _, _, _, _, _, _, _, _, _, rfl, Nat.le_refl _, by omega, HST0.out, rfl⟩
 case round =>
  rintro a wr ⟨size, ds, u5, u6, u7, u8, u9, u10, u11, u12, u13, u14, u15, u16, u17, u18, u19, u20, u21, u22, u23, rfl, hs1, hs9, hst, hfw⟩
  refine wpF_seq ?_
  intro K6 hK6
  by_cases h8 : size ≤ 8
  ·have h8' : (size : Int) ≤ 8 := by omega
   refine wpF_of (n := 0) ?_
   gi_wp2
   refine wpF_seq ?_
   intro K7 hK7
   refine wpF_block ?_
   refine wpF_seq ?_
   intro K8 hK8
   refine wpF_of (n := 0) ?_
   gi_wp2_with fail
   refine ⟨trivial, rfl, (callsIn_wide.2 (spelt_any size wr)).mono ?_⟩
   rintro e W2 ⟨rfl, hW2⟩
   have hs2 : W2.heap.size = wr.heap.size + 1 := by rw [hW2]; simp
   have hB2 : W2.heap[wr.heap.size]? = some (.cells #[.int .i64 size] 3 (0, 0)) := by rw [hW2]; exact heap_alloc_new _ _
   have hb2 : Below wr.heap.size wr W2 := by rw [hW2]; exact (Below.refl _ wr).alloc (Nat.le_refl _) _
   clear hW2
   have hds := fun E (h : markOf E ∈ ds) => Marks.lt ds hst.marks E h
   have hst2 : FirstSt w mb n mem W2 ds := hst.keep (.of_below hb2 (S := fun _ => False)) id id id (fun _ _ => id) (fun _ h => h.elim)
   have hws := hst.size
   have HDS := lh hds; have HST2 := lh hst2; have HFW := hfw
   clear hds hst2 hst hfw hb2
   gi_wp2
   refine wpF_block ?_
   refine wpF_range (fn := Tryz.f64) rfl (gf := 154) rfl (enters_of Tryz.func154 (by kernel_rfl) rfl) (w0 := W2) (iterS hs1 h8 hB2) (Below.refl _ _) (fun _ => rfl)
    (fun k => k = w.heap.size + 1) ?hS ?hD
    (fun pre V => ∃ post, wordsN size = pre ++ post ∧ Hid (∀ s ∈ pre, freshB mem s = false) ∧ FirstSt w mb n mem V ds)
    (fun c V => c = .exit 0 ∧ V.heap[w.heap.size + 1]? = some (.cells #[.string (firstW mem)] 9 (0, 0)) ∧ Marks (w.heap.size + 2) V ds ∧ Below w.heap.size w V ∧ w.heap.size + 2 ≤ V.heap.size)
    (fun _ _ => False) ?hI ?hIx ?h0 ?hround ?hdone ?hstop ?hpanic
   case hS => rintro k rfl; omega
   case hD => rintro k rfl; omega
   case hI =>
    rintro pre V1 V2 ⟨post, h1, h2, h3⟩ hV
    exact ⟨post, h1, h2, h3.keep (S := fun k => W2.heap.size ≤ k) ⟨hV.os, hV.tape, hV.output, hV.size, fun k _ hs => hV.block k (by omega)⟩ (by omega) (by omega) (by omega) (fun E h => by have := (HDS.out E h).2.1; omega) (fun k h => by omega)⟩
   case hIx =>
    rintro c V1 V2 ⟨h0, h1, h2, h3, h4⟩ hV
    have hk : Kept (fun k => W2.heap.size ≤ k) V1 V2 := ⟨hV.os, hV.tape, hV.output, hV.size, fun k _ hs => hV.block k (by omega)⟩
    exact ⟨h0, bget hV h1 (by omega), Marks.keep hk ds h2 fun E h => by have := (HDS.out E h).2.1; omega, h3.trans (hV.mono (by omega)), Nat.le_trans h4 hV.size⟩
   case h0 => exact ⟨_, (List.nil_append _).symm, (by intro s h; cases h), HST2.out⟩
   case hpanic => intro _ _ _ _ h; exact h.elim
   case hdone =>
    rintro E V hE ⟨post, h1, h2, h3⟩ hV
    refine hK7 _ _ (wpF_of (n := 0) ?_)
    have H2 := lh h2.out; have H3 := lh h3; have HV := lh hV
    clear h1 h2 h3 hV
    gi_wp2
    refine ⟨⟨size + 1, markOf E :: ds, ⟨_, _, _, _, _, _, _, _, _, _, _, _, _, _, _, _, _, _, _, rfl⟩, by omega, by omega, ⟨H3.out.set, H3.out.box1, H3.out.box3, ⟨E, rfl, by omega, HV.out, fun h => by have := (HDS.out E h).2.1; omega, H3.out.marks⟩, H3.out.below, H3.out.size⟩, ?_⟩, ?_⟩
    ·unfold Hid
     rw [HFW.out, show 9 - size = (9 - (size + 1)) + 1 by omega, firstFrom_none _ _ _ H2.out]
    ·simp [intOf]; omega
   case hstop =>
    rintro E c V hE ⟨rfl, h1, h2, h3, h4⟩ hV
    have hm : Marks (w.heap.size + 2) V (markOf E :: ds) := ⟨E, rfl, by omega, hV, fun h => by have := (HDS.out E h).2.1; omega, h2⟩
    have H1 := lh h1; have HM := lh hm; have H3 := lh h3
    clear h1 h2 hm h3 hV
    gi_wp2
    exact FIN.out _ _ _ _ _ _ _ _ _ _ _ _ _ _ _ _ _ _ _ _ _ V H1.out HM.out H3.out h4
   case hround =>
    rintro l pre x post V hl hlV hx ⟨post', h1, h2, h3⟩
    have hxs := word_size (n := size) (x := x) (by rw [hx]; simp)
    have hxm : x.size ≤ maxLen := by unfold maxLen; omega
    have HX := lh hx; have H2 := lh h2.out; have H3 := lh h3; have HXM := lh hxm
    clear hx h1 h2 h3 hxs hxm
    dsimp only [encS]
    simp only [List.zip_toArray, List.zip_cons_cons, List.zip_nil_right, List.foldl_toArray', List.foldl_cons, List.foldl_nil, List.setIfInBounds_toArray, List.set_cons_succ, List.set_cons_zero]
    gi_wp2
    refine ⟨Below.refl _ _, fun V2 hk2 => ?_⟩
    have hst3 := H3.out.keep hk2 (by omega) (by omega) (by omega) (fun E h => by have := (HDS.out E h).2.1; omega) (fun k h => by omega)
    have HST3 := lh hst3
    clear hst3 hk2
    gi_wp2_with fail
    refine ⟨trivial, rfl, (CallsIn.inRound l (callsIn_wide.2 (Name_any x V2))).mono ?_⟩
    rintro e V3 ⟨rfl, hb3⟩
    have hst4 := HST3.out.keep (S := fun _ => False) (.of_below hb3) id id id (fun _ _ => id) (fun _ h => h.elim)
    have hkb : Kept (fun k => k = w.heap.size + 1) V2 V3 := .of_below hb3
    have c1 := cell_of_one hst4.box1
    have c3 := cell_of_one hst4.box3
    have f3 := free_of_one hst4.box3
    have hlook := hst4.set.look x HXM.out
    have HST4 := lh hst4; have HKB := lh hkb
    clear hst4 hkb hb3
    have hnotf : freshB mem x = false → ∃ post_1, wordsN size = (pre ++ [x]) ++ post_1 ∧ Hid (∀ s ∈ pre ++ [x], freshB mem s = false) ∧ FirstSt w mb n mem V3 ds := fun hf =>
     ⟨post, by rw [HX.out]; simp, by
      unfold Hid
      intro s hs
      rcases List.mem_append.1 hs with h | h
      ·exact H2.out s h
      ·simp at h; subst h; exact hf, HST4.out⟩
    have HNF := lh hnotf
    clear hnotf
    cases hnm : nameB x
    ·have hf := HNF.out (by simp [freshB, hnm])
     have HF := lh hf
     clear hf hlook
     gi_wp2
     exact ⟨HKB.out, HF.out⟩
    ·cases hmm : mem x.toList
     ·rw [hmm] at hlook
      have hfx : firstW mem = x := by
       rw [HFW.out, show 9 - size = (8 - size) + 1 by omega]
       exact firstFrom_some mem _ _ _ _ _ HX.out H2.out (by simp [freshB, hnm, hmm])
      have HFX := lh hfx
      clear hfx
      gi_wp2
      have hks : Kept (fun k => k = w.heap.size + 1) V3 (V3.setCell ⟨w.heap.size + 1, 0, none⟩ (.string x)) := Kept.setCell (S := fun k => k = w.heap.size + 1) _ rfl _
      refine ⟨HKB.out.trans hks, rfl, ?_, HST4.out.marks.keep hks ds fun E h => by have := (HDS.out E h).1; omega, HST4.out.below.trans (hks.below HST4.out.below.size (by rintro k rfl; omega)), Nat.le_trans HST4.out.size hks.size⟩
      rw [HFX.out]
      exact one_setCell HST4.out.box3
     ·rw [hmm] at hlook
      have hf := HNF.out (by simp [freshB, hnm, hmm])
      have HF := lh hf
      clear hf
      gi_wp2
      exact ⟨HKB.out, HF.out⟩
  ·obtain rfl : size = 9 := by omega
   refine wpF_of (n := 0) ?_
   gi_wp2
   exact FIN.out _ _ _ _ _ _ _ _ _ _ _ _ _ _ _ _ _ _ _ _ ds wr (by rw [hfw.out]; exact hst.box3) hst.marks hst.below hst.size
end Go.Proofs.YtjpahjfjpkbcnaaGreat
namespace Go.Proofs.YtjpahjfjpkbcnaaGreat
open Go.Proofs Go.RowKit
theorem firstFrom_size (mem : List UInt8 → Bool) : ∀ (f size : Nat), (firstFrom mem f size).size ≤ size + f
 | 0, size => by unfold firstFrom; exact Nat.zero_le _
 | f + 1, size => by
  unfold firstFrom
  split
  ·rename_i s hs
   have := word_size (List.mem_of_find?_eq_some hs)
   omega
  ·have := firstFrom_size mem f (size + 1)
   omega
theorem firstW_size (mem : List UInt8 → Bool) : (firstW mem).size ≤ 9 := firstFrom_size mem 8 1
set_option maxHeartbeats 1000000 in
theorem choose_any (mb n : Nat) (mem : List UInt8 → Bool) (w : World) (hset : SetAt w mb n mem) (hn : n ≤ 100000000) :
  Calls Tryz.prog 150 #[.agg #[.map (some mb)]] w fun e w' => e = .returned (.string (firstW mem)) ∧ SetAt w' mb (n + 1) (fun k => mem k || k == (firstW mem).toList) ∧ Kept (· = mb) w w' := by
 have hmb := hset.lt
 have hb0 : Below w.heap.size w (w.alloc (.cells #[.map (some mb)] 87)) := (Below.refl _ w).alloc (Nat.le_refl _) _
 have hx := heap_alloc_new w (.cells #[.map (some mb)] 87)
 have hset0 := hset.here hb0
 have hf := callsIn_wide.1 (first_any mb n mem _ hset0)
 have HF := lh hf; have HB0 := lh hb0; have HX := lh hx; have HS0 := lh hset0
 clear hf hb0 hx hset0 hset
 go_enter Tryz.func150, Tryz.ntmps150
 go_wp2_with fail
 refine HF.out.mono ?_
 rintro e w1 ⟨rfl, hb1⟩
 have c0 := cell_of_one (bget' hb1 HX.out)
 obtain ⟨w5, hput, hset5, hgr5⟩ := (HS0.out.here hb1).put (firstW mem) (by have := firstW_size mem; unfold maxLen; omega) (by unfold maxLen; omega)
 have hb01 := HB0.out.trans (hb1.mono (by simp))
 have HS5 := lh hset5; have HG5 := lh hgr5; have HB01 := lh hb01
 clear hset5 hgr5 hb1 hb01 HF
 go_wp2
 go_ret
 exact ⟨rfl, HS5.out, (Kept.of_below HB01.out).trans ⟨HG5.out.os, HG5.out.tape, HG5.out.output, HG5.out.size, fun i h hs => HG5.out.block i h (by simpa using hs)⟩⟩
theorem pickAll_any (s : ByteArray) (Bx mb n : Nat) (mem : List UInt8 → Bool) (w : World) (hb : w.heap[Bx]? = some (.cells #[.map (some mb)] 87 (0, 0))) (hset : SetAt w mb n mem) (hn : n ≤ 100000000) :
  Calls Tryz.prog 149 #[.string s, .pointer (some ⟨Bx, 0, none⟩)] w fun e w' => e = .returned (.string (firstW mem)) ∧ SetAt w' mb (n + 1) (fun k => mem k || k == (firstW mem).toList) ∧ Kept (· = mb) w w' := by
 have c0 := cell_of_one hb
 have HC := lh (choose_any mb n mem w hset hn)
 clear hb hset hn
 go_enter Tryz.func149, Tryz.ntmps149
 go_wp2_with fail
 refine HC.out.mono ?_
 rintro e w1 ⟨rfl, hs, hk⟩
 have HS := lh hs; have HK := lh hk
 clear hs hk HC
 go_wp2
 go_ret
 exact ⟨rfl, HS.out, HK.out⟩
theorem pickSome_any (s : ByteArray) (free : List ByteArray) (fv : Value) (Bx Bn mb n : Nat) (mem : List UInt8 → Bool) (w : World) (hx : w.cell? ⟨Bx, 6, none⟩ = some fv) (hb : w.heap[Bn]? = some (.cells #[.map (some mb)] 87 (0, 0)))
  (hf : SlV w.heap.size fv free.length fun b o => StrsAt w free b o) (hl : free.length ≤ 1000000) (hset : SetAt w mb n mem) (hn : n ≤ 100000000) :
  Calls Tryz.prog 166 #[.string s, .pointer (some ⟨Bx, 0, none⟩), .pointer (some ⟨Bn, 0, none⟩)] w fun e w' =>
   (hasL free s = true → e = .returned (.string (firstW mem)) ∧ SetAt w' mb (n + 1) (fun k => mem k || k == (firstW mem).toList) ∧ Kept (· = mb) w w') ∧ (hasL free s = false → e = .returned (.string s) ∧ w' = w) := by
 obtain ⟨fa, fcap, rfl, -⟩ := hf.split
 have c0 := cell_of_one hb
 have HC := lh (choose_any mb n mem w hset hn)
 have HI := lh (Contains_any free s _ w hf hl)
 clear hb hset hn hf
 go_enter Tryz.func166, Tryz.ntmps166
 go_wp2_with fail
 refine HI.out.mono ?_
 rintro e w1 ⟨rfl, rfl⟩
 cases hh : hasL free s
 ·clear HC HI
  go_wp2
  go_ret
  exact ⟨fun h => (by rw [hh] at h; cases h), fun _ => ⟨rfl, rfl⟩⟩
 ·go_wp2_with fail
  refine HC.out.mono ?_
  rintro e w2 ⟨rfl, hs, hk⟩
  have HS := lh hs; have HK := lh hk
  clear hs hk HC HI
  go_wp2
  go_ret
  exact ⟨fun _ => ⟨rfl, HS.out, HK.out⟩, fun h => (by rw [hh] at h; cases h)⟩
def chSame : Ch := fun σ s => (s, σ)
theorem chs_same (base : Nat) : Chs 142 #[] base (fun _ _ => True) (fun _ => False) chSame where
 eg := enters_of Tryz.func142 (by kernel_rfl) rfl
 keep := fun _ _ _ _ _ _ _ => trivial
 call := fun _ s W _ _ _ _ => (same_any s W).mono (by rintro e w' ⟨rfl, rfl⟩; exact ⟨rfl, trivial, Kept.refl _ _⟩)
 size := fun _ _ h => h
 count := fun _ _ => by simp [chSame]
def chNew : Ch := fun σ _ => (firstW σ.2, (σ.1 + 1, fun k => σ.2 k || k == (firstW σ.2).toList))
theorem chs_new (w : World) (Bn mb : Nat) (hb : w.heap[Bn]? = some (.cells #[.map (some mb)] 87 (0, 0))) (hne : Bn ≠ mb) :
  Chs 149 #[.pointer (some ⟨Bn, 0, none⟩)] w.heap.size (fun σ W => SetAt W mb σ.1 σ.2 ∧ W.heap[Bn]? = some (.cells #[.map (some mb)] 87 (0, 0)) ∧ mb < w.heap.size) (· = mb) chNew where
 eg := enters_of Tryz.func149 (by kernel_rfl) rfl
 keep := fun σ S W W' ⟨h1, h2, h3⟩ hk hS => ⟨h1.kept hk (fun h => by have := hS _ h; omega), hk.get h2 (fun h => by have := hS _ h; have := lt_of_block hb; omega), h3⟩
 call := fun σ s W ⟨h1, h2, h3⟩ _ hn hs => (pickAll_any s Bn mb σ.1 σ.2 W h2 h1 hn).mono (by
  rintro e w' ⟨rfl, hset, hk⟩
  exact ⟨rfl, ⟨hset, hk.get h2 hne, h3⟩, hk⟩)
 size := fun σ s _ => by have := firstW_size σ.2; unfold maxLen; show (firstW σ.2).size ≤ _; omega
 count := fun _ _ => Nat.le_refl _
def chSome (fr : List ByteArray) : Ch := fun σ s => if hasL fr s then (firstW σ.2, (σ.1 + 1, fun k => σ.2 k || k == (firstW σ.2).toList)) else (s, σ)
theorem chs_some (w : World) (Bx Bn mb n₀ : Nat) (fr : List ByteArray) (fv : Value) (hx : w.cell? ⟨Bx, 6, none⟩ = some fv) (hb : w.heap[Bn]? = some (.cells #[.map (some mb)] 87 (0, 0))) (hf : SlV n₀ fv fr.length fun b o => StrsAt w fr b o) (hn₀ : n₀ ≤ w.heap.size) (hl : fr.length ≤ 1000000)
  (hne : Bn ≠ mb) (hne2 : Bx ≠ mb) (hlt : n₀ ≤ mb) :
  Chs 166 #[.pointer (some ⟨Bx, 0, none⟩), .pointer (some ⟨Bn, 0, none⟩)] w.heap.size (fun σ W => SetAt W mb σ.1 σ.2 ∧ Kept (· = mb) w W ∧ mb < w.heap.size) (· = mb) (chSome fr) where
 eg := enters_of Tryz.func166 (by kernel_rfl) rfl
 keep := fun σ S W W' ⟨h1, h2, h3⟩ hk hS => ⟨h1.kept hk (fun h => by have := hS _ h; omega), ⟨hk.os.trans h2.os, hk.tape.trans h2.tape, hk.output.trans h2.output, Nat.le_trans h2.size hk.size, fun b hb hm => (hk.block b (by have := h2.size; omega) (fun h => by have := hS _ h; omega)).trans (h2.block b hb hm)⟩, h3⟩
 call := fun σ s W ⟨h1, h2, h3⟩ _ hn hs => by
  have hbx := World.block_lt_of_cell? _ _ hx
  have hbw : Below n₀ w W := h2.below hn₀ (by rintro b rfl; exact hlt)
  have hp := pickSome_any s fr fv Bx Bn mb σ.1 σ.2 W ((World.cell?_of_block (h2.block Bx hbx hne2)).trans hx) (h2.get hb hne) (hf.mono (by have := h2.size; omega) fun b o hlt hr => StrsAt.keep hbw _ _ _ hlt hr) hl h1 hn
  refine hp.mono ?_
  rintro e w' ⟨h5, h6⟩
  unfold chSome
  cases hh : hasL fr s
  ·obtain ⟨rfl, rfl⟩ := h6 hh
   exact ⟨rfl, ⟨h1, h2, h3⟩, Kept.refl _ _⟩
  ·obtain ⟨rfl, h7, h8⟩ := h5 hh
   exact ⟨rfl, ⟨h7, h2.trans h8, h3⟩, h8⟩
 size := fun σ s hs => by
  unfold chSome
  split
  ·have := firstW_size σ.2; unfold maxLen; show (firstW σ.2).size ≤ _; omega
  ·exact hs
 count := fun σ s => by
  unfold chSome
  split
  ·exact Nat.le_refl _
  ·exact Nat.le_succ _
end Go.Proofs.YtjpahjfjpkbcnaaGreat
