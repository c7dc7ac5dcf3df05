/- Contracts of the program's functions. -/
import Derived.Test.YtjpahjfjpkbcnaaGreatG11
import Derived.Test.YtjpahjfjpkbcnaaGreatG05

/- Lists of numbers, of strings, and modules that are read as data, as trees. -/
namespace Go.Proofs.YtjpahjfjpkbcnaaGreat
open Go.ChangeShapes Go.WideShapes Go.ChangeAt Go.RowKit
set_option maxRecDepth 100000

theorem Tz.cells59 : Tryz.prog.cellsOf 59 = 1 := by kernel_rfl
theorem Tz.cells53 : Tryz.prog.cellsOf 53 = 1 := by kernel_rfl
theorem Tz.cells54 : Tryz.prog.cellsOf 54 = 1 := by kernel_rfl
theorem Tz.cells56 : Tryz.prog.cellsOf 56 = 3 := by kernel_rfl
theorem Tz.cells110 : Tryz.prog.cellsOf 110 = 1 := by kernel_rfl
theorem Tz.cells112 : Tryz.prog.cellsOf 112 = 2 := by kernel_rfl
theorem Tz.cells114 : Tryz.prog.cellsOf 114 = 15 := by kernel_rfl
theorem Tz.cells145 : Tryz.prog.cellsOf 145 = 2 := by kernel_rfl

/-- A constructor, a data type, a function, a module. -/
structure Co where
  name : ByteArray
  types : List Ty
structure Dt where
  name : ByteArray
  cons : List Co
structure Fn where
  name : ByteArray
  param : ByteArray
  dom : Ty
  cod : Ty
  body : Tm
structure Md where
  name : ByteArray
  datas : List Dt
  funs : List Fn
instance : Inhabited Co := ⟨⟨⟨#[]⟩, []⟩⟩
instance : Inhabited Dt := ⟨⟨⟨#[]⟩, []⟩⟩
instance : Inhabited Fn := ⟨⟨⟨#[]⟩, ⟨#[]⟩, .mk 0 0 ⟨#[]⟩ [], .mk 0 0 ⟨#[]⟩ [], .mk 0 0 ⟨#[]⟩ [] []⟩⟩

def CoAt (n₀ : Nat) (w : World) (c : Co) (v : Value) : Prop := ∃ kv, v = .agg #[.string c.name, kv] ∧ c.name.size ≤ maxLen ∧ SlV n₀ kv c.types.length fun b o => TysAt n₀ w c.types b o
def CosAt (n₀ : Nat) (w : World) (cs : List Co) (b o : Nat) : Prop := ∀ i (h : i < cs.length), ∃ c0 c1, w.cell? ⟨b, o + i * 2, none⟩ = some c0 ∧ w.cell? ⟨b, o + i * 2 + 1, none⟩ = some c1 ∧ CoAt n₀ w cs[i] (.agg #[c0, c1])
def DtAt (n₀ : Nat) (w : World) (d : Dt) (v : Value) : Prop := ∃ kv, v = .agg #[.string d.name, kv] ∧ d.name.size ≤ maxLen ∧ SlV n₀ kv d.cons.length fun b o => CosAt n₀ w d.cons b o
def DtsAt (n₀ : Nat) (w : World) (ds : List Dt) (b o : Nat) : Prop := ∀ i (h : i < ds.length), ∃ c0 c1, w.cell? ⟨b, o + i * 2, none⟩ = some c0 ∧ w.cell? ⟨b, o + i * 2 + 1, none⟩ = some c1 ∧ DtAt n₀ w ds[i] (.agg #[c0, c1])
def FnAt (n₀ : Nat) (w : World) (f : Fn) (v : Value) : Prop := ∃ a0 a1 a2 a3 b0 b1 b2 b3 d0 d1 d2 d3 d4, v = .agg #[.string f.name, .string f.param, a0, a1, a2, a3, b0, b1, b2, b3, d0, d1, d2, d3, d4] ∧ f.name.size ≤ maxLen ∧ f.param.size ≤ maxLen ∧
  TyAt n₀ w f.dom (.agg #[a0, a1, a2, a3]) ∧ TyAt n₀ w f.cod (.agg #[b0, b1, b2, b3]) ∧ TmAt n₀ w f.body (.agg #[d0, d1, d2, d3, d4])
def FnsAt (n₀ : Nat) (w : World) (fs : List Fn) (b o : Nat) : Prop := ∀ i (h : i < fs.length), ∃ cs : List Value, cs.length = 15 ∧ (∀ j, j < 15 → w.cell? ⟨b, o + i * 15 + j, none⟩ = cs[j]?) ∧ FnAt n₀ w fs[i] (.agg cs.toArray)
def MdAt (n₀ : Nat) (w : World) (m : Md) (v : Value) : Prop := ∃ dv fv, v = .agg #[.string m.name, dv, fv] ∧ m.name.size ≤ maxLen ∧ (SlV n₀ dv m.datas.length fun b o => DtsAt n₀ w m.datas b o) ∧ SlV n₀ fv m.funs.length fun b o => FnsAt n₀ w m.funs b o

section
variable {H : Type} {enc : TypeId × Value → H} {W : World} {spare : Nat → Bool} {held : Bool}

theorem cells_two {w : World} {b o : Nat} {cs : List Value} (hl : cs.length = 2) (h : ∀ j, j < 2 → w.cell? ⟨b, o + j, none⟩ = cs[j]?) :
    ∃ c0 c1, cs = [c0, c1] ∧ w.cell? ⟨b, o, none⟩ = some c0 ∧ w.cell? ⟨b, o + 1, none⟩ = some c1 := by
  match cs, hl with
  | [c0, c1], _ => exact ⟨c0, c1, rfl, h 0 (by omega), h 1 (by omega)⟩

theorem co_open (fuel : Nat) (cs : List Value) (x : DataW H × List MemPlace) : DataW.trod enc Tryz.prog W 0 spare held fuel 145 cs = some x → ∃ c : Co, CoAt W.heap.size W c (.agg cs.toArray) := by
  intro h
  obtain ⟨xs, n, rfl, rfl, hl, hxl, hf⟩ := DataW.trod_struct Tryz.underlying145 h
  rw [Tz.cells145] at hl
  have hxl' : xs.length = 2 := hxl
  match cs, hl, xs, hxl', hf with
  | [c0, c1], _, [y0, y1], _, hf =>
    have f0 : DataW.trod enc Tryz.prog W 0 spare held n 9 (List.take (Tryz.prog.cellsOf 9) (List.drop 0 [c0, c1])) = some y0 := hf 0 _ rfl
    rw [Tz.cells9] at f0
    change DataW.trod enc Tryz.prog W 0 spare held n 9 [c0] = some y0 at f0
    have f1 : DataW.trod enc Tryz.prog W 0 spare held n 37 (List.take (Tryz.prog.cellsOf 37) (List.drop 1 [c0, c1])) = some y1 := hf 1 _ rfl
    rw [Tz.cells37] at f1
    change DataW.trod enc Tryz.prog W 0 spare held n 37 [c1] = some y1 at f1
    obtain ⟨s, e0, -, hs⟩ := DataW.trod_string Tryz.underlying9 f0
    obtain ⟨v, ps, e1, hsl⟩ := slice_open (α := Ty) Tryz.underlying37 Tz.cells39 (by decide) (fun p cs => TyAt W.heap.size W p (.agg cs.toArray)) (fun k cs' x' hk h' => ty_open k cs' x' h') f1
    simp only [List.cons.injEq, and_true] at e0 e1
    subst e0 e1
    exact ⟨⟨s, ps⟩, _, rfl, hs, hsl.mono (Nat.le_refl _) fun b o _ hr => tysAt_of ps o hr⟩
theorem dt_open (fuel : Nat) (cs : List Value) (x : DataW H × List MemPlace) : DataW.trod enc Tryz.prog W 0 spare held fuel 112 cs = some x → ∃ c : Dt, DtAt W.heap.size W c (.agg cs.toArray) := by
  intro h
  obtain ⟨xs, n, rfl, rfl, hl, hxl, hf⟩ := DataW.trod_struct Tryz.underlying112 h
  rw [Tz.cells112] at hl
  have hxl' : xs.length = 2 := hxl
  match cs, hl, xs, hxl', hf with
  | [c0, c1], _, [y0, y1], _, hf =>
    have f0 : DataW.trod enc Tryz.prog W 0 spare held n 9 (List.take (Tryz.prog.cellsOf 9) (List.drop 0 [c0, c1])) = some y0 := hf 0 _ rfl
    rw [Tz.cells9] at f0
    change DataW.trod enc Tryz.prog W 0 spare held n 9 [c0] = some y0 at f0
    have f1 : DataW.trod enc Tryz.prog W 0 spare held n 110 (List.take (Tryz.prog.cellsOf 110) (List.drop 1 [c0, c1])) = some y1 := hf 1 _ rfl
    rw [Tz.cells110] at f1
    change DataW.trod enc Tryz.prog W 0 spare held n 110 [c1] = some y1 at f1
    obtain ⟨s, e0, -, hs⟩ := DataW.trod_string Tryz.underlying9 f0
    obtain ⟨v, ps, e1, hsl⟩ := slice_open (α := Co) Tryz.underlying110 Tz.cells145 (by decide) (fun p cs => CoAt W.heap.size W p (.agg cs.toArray)) (fun k cs' x' hk h' => co_open k cs' x' h') f1
    simp only [List.cons.injEq, and_true] at e0 e1
    subst e0 e1
    refine ⟨⟨s, ps⟩, _, rfl, hs, hsl.mono (Nat.le_refl _) fun b o _ hr i hi => ?_⟩
    obtain ⟨cs', hl', hc, hp⟩ := hr i hi
    obtain ⟨c0, c1, rfl, h0, h1⟩ := cells_two hl' hc
    exact ⟨c0, c1, h0, h1, hp⟩
theorem fn_open (fuel : Nat) (cs : List Value) (x : DataW H × List MemPlace) : DataW.trod enc Tryz.prog W 0 spare held fuel 114 cs = some x → ∃ c : Fn, FnAt W.heap.size W c (.agg cs.toArray) := by
  intro h
  obtain ⟨xs, n, rfl, rfl, hl, hxl, hf⟩ := DataW.trod_struct Tryz.underlying114 h
  rw [Tz.cells114] at hl
  have hxl' : xs.length = 5 := hxl
  match cs, hl, xs, hxl', hf with
  | [c0, c1, c2, c3, c4, c5, c6, c7, c8, c9, c10, c11, c12, c13, c14], _, [y0, y1, y2, y3, y4], _, hf =>
    have f0 : DataW.trod enc Tryz.prog W 0 spare held n 9 (List.take (Tryz.prog.cellsOf 9) (List.drop 0 [c0, c1, c2, c3, c4, c5, c6, c7, c8, c9, c10, c11, c12, c13, c14])) = some y0 := hf 0 _ rfl
    rw [Tz.cells9] at f0
    change DataW.trod enc Tryz.prog W 0 spare held n 9 [c0] = some y0 at f0
    have f1 : DataW.trod enc Tryz.prog W 0 spare held n 9 (List.take (Tryz.prog.cellsOf 9) (List.drop 1 [c0, c1, c2, c3, c4, c5, c6, c7, c8, c9, c10, c11, c12, c13, c14])) = some y1 := hf 1 _ rfl
    rw [Tz.cells9] at f1
    change DataW.trod enc Tryz.prog W 0 spare held n 9 [c1] = some y1 at f1
    have f2 : DataW.trod enc Tryz.prog W 0 spare held n 39 (List.take (Tryz.prog.cellsOf 39) (List.drop 2 [c0, c1, c2, c3, c4, c5, c6, c7, c8, c9, c10, c11, c12, c13, c14])) = some y2 := hf 2 _ rfl
    rw [Tz.cells39] at f2
    change DataW.trod enc Tryz.prog W 0 spare held n 39 [c2, c3, c4, c5] = some y2 at f2
    have f3 : DataW.trod enc Tryz.prog W 0 spare held n 39 (List.take (Tryz.prog.cellsOf 39) (List.drop 6 [c0, c1, c2, c3, c4, c5, c6, c7, c8, c9, c10, c11, c12, c13, c14])) = some y3 := hf 3 _ rfl
    rw [Tz.cells39] at f3
    change DataW.trod enc Tryz.prog W 0 spare held n 39 [c6, c7, c8, c9] = some y3 at f3
    have f4 : DataW.trod enc Tryz.prog W 0 spare held n 32 (List.take (Tryz.prog.cellsOf 32) (List.drop 10 [c0, c1, c2, c3, c4, c5, c6, c7, c8, c9, c10, c11, c12, c13, c14])) = some y4 := hf 4 _ rfl
    rw [Tz.cells32] at f4
    change DataW.trod enc Tryz.prog W 0 spare held n 32 [c10, c11, c12, c13, c14] = some y4 at f4
    obtain ⟨s0, e0, -, hs0⟩ := DataW.trod_string Tryz.underlying9 f0
    obtain ⟨s1, e1, -, hs1⟩ := DataW.trod_string Tryz.underlying9 f1
    obtain ⟨p2, hp2⟩ := ty_open _ _ _ f2
    obtain ⟨p3, hp3⟩ := ty_open _ _ _ f3
    obtain ⟨p4, hp4⟩ := tm_open _ _ _ f4
    simp only [List.cons.injEq, and_true] at e0 e1
    subst e0 e1
    exact ⟨⟨s0, s1, p2, p3, p4⟩, _, _, _, _, _, _, _, _, _, _, _, _, _, rfl, hs0, hs1, hp2, hp3, hp4⟩
theorem md_open (fuel : Nat) (cs : List Value) (x : DataW H × List MemPlace) : DataW.trod enc Tryz.prog W 0 spare held fuel 56 cs = some x → ∃ m : Md, MdAt W.heap.size W m (.agg cs.toArray) := by
  intro h
  obtain ⟨xs, n, rfl, rfl, hl, hxl, hf⟩ := DataW.trod_struct Tryz.underlying56 h
  rw [Tz.cells56] at hl
  have hxl' : xs.length = 3 := hxl
  match cs, hl, xs, hxl', hf with
  | [c0, c1, c2], _, [y0, y1, y2], _, hf =>
    have f0 : DataW.trod enc Tryz.prog W 0 spare held n 9 (List.take (Tryz.prog.cellsOf 9) (List.drop 0 [c0, c1, c2])) = some y0 := hf 0 _ rfl
    rw [Tz.cells9] at f0
    change DataW.trod enc Tryz.prog W 0 spare held n 9 [c0] = some y0 at f0
    have f1 : DataW.trod enc Tryz.prog W 0 spare held n 53 (List.take (Tryz.prog.cellsOf 53) (List.drop 1 [c0, c1, c2])) = some y1 := hf 1 _ rfl
    rw [Tz.cells53] at f1
    change DataW.trod enc Tryz.prog W 0 spare held n 53 [c1] = some y1 at f1
    have f2 : DataW.trod enc Tryz.prog W 0 spare held n 54 (List.take (Tryz.prog.cellsOf 54) (List.drop 2 [c0, c1, c2])) = some y2 := hf 2 _ rfl
    rw [Tz.cells54] at f2
    change DataW.trod enc Tryz.prog W 0 spare held n 54 [c2] = some y2 at f2
    obtain ⟨s, e0, -, hs⟩ := DataW.trod_string Tryz.underlying9 f0
    obtain ⟨v, ps, e1, hsl⟩ := slice_open (α := Dt) Tryz.underlying53 Tz.cells112 (by decide) (fun p cs => DtAt W.heap.size W p (.agg cs.toArray)) (fun k cs' x' hk h' => dt_open k cs' x' h') f1
    obtain ⟨v', qs, e2, hsl'⟩ := slice_open (α := Fn) Tryz.underlying54 Tz.cells114 (by decide) (fun p cs => FnAt W.heap.size W p (.agg cs.toArray)) (fun k cs' x' hk h' => fn_open k cs' x' h') f2
    simp only [List.cons.injEq, and_true] at e0 e1 e2
    subst e0 e1 e2
    refine ⟨⟨s, ps, qs⟩, _, _, rfl, hs, hsl.mono (Nat.le_refl _) fun b o _ hr i hi => ?_, hsl'.mono (Nat.le_refl _) fun b o _ hr => hr⟩
    obtain ⟨cs', hl', hc, hp⟩ := hr i hi
    obtain ⟨c0, c1, rfl, h0, h1⟩ := cells_two hl' hc
    exact ⟨c0, c1, h0, h1, hp⟩
theorem open_md {r : Reach} {b0 : Nat} {v : Value} {d : DataW H} {ps : List MemPlace} (hv : Value.okWide Tryz.prog W r b0 56 v) (h : DataW.Trod enc Tryz.prog W 0 spare held 56 v d ps) : ∃ m : Md, MdAt W.heap.size W m v := by
  obtain ⟨cs, rfl, -⟩ := okWide_struct Tryz.underlying56 hv
  obtain ⟨fuel, hf⟩ := h
  obtain ⟨T, hT⟩ := md_open fuel _ _ hf
  exact ⟨T, by simpa [Value.cells] using hT⟩

theorem intsAt_of {w : World} {b : Nat} : ∀ (xs : List Int) (o : Nat), (∀ i (h : i < xs.length), w.cell? ⟨b, o + i, none⟩ = some (.int .i64 xs[i])) → IntsAt w xs b o
  | [], _, _ => trivial
  | x :: xs, o, h => ⟨h 0 (Nat.succ_pos _), intsAt_of xs (o + 1) fun i hi => by
      have := h (i + 1) (by simpa using hi)
      rw [show o + 1 + i = o + (i + 1) by omega]
      simpa using this⟩
theorem strsAt_of2 {w : World} {b : Nat} : ∀ (ss : List ByteArray) (o : Nat), (∀ i (h : i < ss.length), w.cell? ⟨b, o + i, none⟩ = some (.string ss[i]) ∧ ss[i].size ≤ maxLen) → StrsAt w ss b o
  | [], _, _ => trivial
  | s :: ss, o, h => ⟨h 0 (Nat.succ_pos _), strsAt_of2 ss (o + 1) fun i hi => by
      have := h (i + 1) (by simpa using hi)
      rw [show o + 1 + i = o + (i + 1) by omega]
      simpa using this⟩
theorem open_ns {r : Reach} {b0 : Nat} {v : Value} {d : DataW H} {ps : List MemPlace} (hv : Value.okWide Tryz.prog W r b0 59 v) (h : DataW.Trod enc Tryz.prog W 0 spare held 59 v d ps) : ∃ l : List Int, SlV W.heap.size v l.length fun b o => IntsAt W l b o := by
  obtain ⟨a0, len, cap, rfl⟩ := okWide_slice Tryz.underlying59 hv
  obtain ⟨fuel, hf⟩ := h
  obtain ⟨v, l, e, hsl⟩ := slice_open (α := Int) Tryz.underlying59 Tz.cells3 (by decide) (fun n cs => cs = [.int .i64 n]) (fun k cs' x' hk h' => by obtain ⟨m, e, -⟩ := DataW.trod_int Tryz.underlying3 h'; exact ⟨m, e⟩) hf
  simp [Value.cells] at e
  subst e
  refine ⟨l, hsl.mono (Nat.le_refl _) fun b o _ hr => intsAt_of l o fun i hi => ?_⟩
  obtain ⟨cs', -, hc, rfl⟩ := hr i hi
  simpa using hc 0 (by decide)
theorem open_ss {r : Reach} {b0 : Nat} {v : Value} {d : DataW H} {ps : List MemPlace} (hv : Value.okWide Tryz.prog W r b0 22 v) (h : DataW.Trod enc Tryz.prog W 0 spare held 22 v d ps) : ∃ l : List ByteArray, SsAt W.heap.size W l v := by
  obtain ⟨a0, len, cap, rfl⟩ := okWide_slice Tryz.underlying22 hv
  obtain ⟨fuel, hf⟩ := h
  obtain ⟨v, l, e, hsl⟩ := slice_open (α := ByteArray) Tryz.underlying22 Tz.cells9 (by decide) (fun s cs => cs = [.string s] ∧ s.size ≤ maxLen) (fun k cs' x' hk h' => by obtain ⟨s, e, -, hs⟩ := DataW.trod_string Tryz.underlying9 h'; exact ⟨s, e, hs⟩) hf
  simp [Value.cells] at e
  subst e
  refine ⟨l, hsl.mono (Nat.le_refl _) fun b o _ hr => strsAt_of2 l o fun i hi => ?_⟩
  obtain ⟨cs', -, hc, rfl, hs⟩ := hr i hi
  exact ⟨by simpa using hc 0 (by decide), hs⟩
end

end Go.Proofs.YtjpahjfjpkbcnaaGreat
