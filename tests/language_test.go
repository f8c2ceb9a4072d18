package tests

import (
	"go/ast"
	"go/format"
	"go/parser"
	"go/token"
	"os"
	"path/filepath"
	"strconv"
	"strings"
	"testing"
)

// What the program's language page asks, as far as a look at its text tells it.

const maxFunctionLines = 60

const allowedImports = " bytes cmp container/heap errors iter maps math math/bits slices sort strconv strings sync sync/atomic unicode unicode/utf8 "

func programFiles(t *testing.T) []string {
	t.Helper()
	files, err := filepath.Glob(filepath.Join("..", "impl", "*.go"))
	if err != nil || len(files) == 0 {
		t.Fatal("no files of the program", err)
	}
	var program []string
	for _, file := range files {
		if !strings.HasSuffix(file, "_test.go") {
			program = append(program, file)
		}
	}
	return program
}

func parsed(t *testing.T, file string) (*token.FileSet, *ast.File) {
	t.Helper()
	set := token.NewFileSet()
	tree, err := parser.ParseFile(set, file, nil, parser.ParseComments)
	if err != nil {
		t.Fatal(err)
	}
	return set, tree
}

func TestImports(t *testing.T) {
	for _, file := range programFiles(t) {
		_, tree := parsed(t, file)
		for _, spec := range tree.Imports {
			path, _ := strconv.Unquote(spec.Path.Value)
			if !strings.Contains(allowedImports, " "+path+" ") {
				t.Errorf("%s imports %s", file, path)
			}
		}
	}
}

func TestFunctionsAreSmall(t *testing.T) {
	for _, file := range programFiles(t) {
		set, tree := parsed(t, file)
		for _, d := range tree.Decls {
			f, ok := d.(*ast.FuncDecl)
			if !ok {
				continue
			}
			if lines := set.Position(f.End()).Line - set.Position(f.Pos()).Line + 1; lines > maxFunctionLines {
				t.Errorf("%s: %s has %d lines", file, f.Name.Name, lines)
			}
		}
	}
}

func TestLayout(t *testing.T) {
	for _, file := range programFiles(t) {
		text, err := os.ReadFile(file)
		if err != nil {
			t.Fatal(err)
		}
		if laid, err := format.Source(text); err != nil || string(laid) != string(text) {
			t.Errorf("%s is not in gofmt's layout (%v)", file, err)
		}
		if strings.Contains(string(text), "//go:") {
			t.Errorf("%s has a //go: line", file)
		}
	}
}

// TestFormulasLoopOverWords: the chapter 'Ways' has formulas read by a labelled loop.
func TestFormulasLoopOverWords(t *testing.T) {
	_, tree := parsed(t, filepath.Join("..", "impl", "l01_formula.go"))
	found := false
	ast.Inspect(tree, func(n ast.Node) bool {
		if l, ok := n.(*ast.LabeledStmt); ok {
			_, loop := l.Stmt.(*ast.RangeStmt)
			found = found || loop
		}
		return true
	})
	if !found {
		t.Error("no labelled loop")
	}
}

// TestModelsWatchLiterals: the chapter 'Ways' has watched literals in maps from literals, and a clause as a value that is compared.
func TestModelsWatchLiterals(t *testing.T) {
	_, tree := parsed(t, filepath.Join("..", "impl", "l02_models.go"))
	maps, values := 0, 0
	ast.Inspect(tree, func(n ast.Node) bool {
		switch x := n.(type) {
		case *ast.MapType:
			if key, ok := x.Key.(*ast.Ident); ok && key.Name == "int" {
				maps++
			}
		case *ast.BinaryExpr:
			if _, ok := ast.Unparen(x.Y).(*ast.CompositeLit); ok && (x.Op == token.EQL || x.Op == token.NEQ) {
				values++
			}
		}
		return true
	})
	if maps == 0 || values == 0 {
		t.Errorf("%d maps from literals, %d clauses compared as values", maps, values)
	}
}

// TestProofsThrowFaults: the chapter 'Ways' has a fault that is an error type, thrown by a panic, recovered, and found by errors.As.
func TestProofsThrowFaults(t *testing.T) {
	_, tree := parsed(t, filepath.Join("..", "impl", "l03_proofs.go"))
	errorTypes, thrown, found := map[string]bool{}, map[string]bool{}, 0
	for _, d := range tree.Decls {
		if f, ok := d.(*ast.FuncDecl); ok && f.Recv != nil && f.Name.Name == "Error" {
			if name, ok := f.Recv.List[0].Type.(*ast.Ident); ok {
				errorTypes[name.Name] = true
			}
		}
	}
	recovered := 0
	ast.Inspect(tree, func(n ast.Node) bool {
		switch x := n.(type) {
		case *ast.DeferStmt:
			if literal, ok := x.Call.Fun.(*ast.FuncLit); ok {
				recovered += callsOf(literal, "recover")
			}
		case *ast.SelectorExpr:
			if of, ok := x.X.(*ast.Ident); ok && of.Name == "errors" && x.Sel.Name == "As" {
				found++
			}
		case *ast.CallExpr:
			if name, ok := x.Fun.(*ast.Ident); ok && name.Name == "panic" {
				if value, ok := x.Args[0].(*ast.CompositeLit); ok {
					thrown[value.Type.(*ast.Ident).Name] = true
				}
			}
		}
		return true
	})
	if len(thrown) == 0 || recovered == 0 || recovered != callsOf(tree, "recover") || found == 0 {
		t.Errorf("thrown: %v, recovered in %d deferred functions, found %d times", thrown, recovered, found)
	}
	for name := range thrown {
		if !errorTypes[name] {
			t.Errorf("%s is thrown, and no error type", name)
		}
	}
}

// TestCircuitsFindGates: the chapter 'Ways' has a map with arrays of two literals as keys, and method values for the operators.
func TestCircuitsFindGates(t *testing.T) {
	_, tree := parsed(t, filepath.Join("..", "impl", "l04_circuit.go"))
	methods, maps := map[string]bool{}, 0
	for _, d := range tree.Decls {
		if f, ok := d.(*ast.FuncDecl); ok && f.Recv != nil {
			methods[f.Name.Name] = true
		}
	}
	values := map[string]bool{}
	ast.Inspect(tree, func(n ast.Node) bool {
		switch x := n.(type) {
		case *ast.MapType:
			if key, ok := x.Key.(*ast.ArrayType); ok && key.Len != nil {
				maps++
			}
		case *ast.KeyValueExpr:
			if value, ok := x.Value.(*ast.SelectorExpr); ok && methods[value.Sel.Name] {
				values[value.Sel.Name] = true
			}
		}
		return true
	})
	if maps == 0 || len(values) < 5 {
		t.Errorf("%d maps from two literals, method values %v", maps, values)
	}
}

// TestWordsGoOverRows: the chapter 'Ways' has generic functions over rows, and three-index slices of bits.
func TestWordsGoOverRows(t *testing.T) {
	_, tree := parsed(t, filepath.Join("..", "impl", "l05_words.go"))
	generic, slices := map[string]bool{}, 0
	for _, d := range tree.Decls {
		if f, ok := d.(*ast.FuncDecl); ok && f.Type.TypeParams != nil {
			generic[f.Name.Name] = true
		}
	}
	ast.Inspect(tree, func(n ast.Node) bool {
		if s, ok := n.(*ast.SliceExpr); ok && s.Slice3 {
			slices++
		}
		return true
	})
	if len(generic) == 0 || slices == 0 {
		t.Errorf("generic functions %v, %d slices with three indexes", generic, slices)
	}
	for name := range generic {
		if callsOf(tree, name) == 0 {
			t.Errorf("%s is never called", name)
		}
	}
}

// TestNetworksReadByFirstWord: the chapter 'Ways' has a map from a line's first word to a method expression, and an embedding of what has a name.
func TestNetworksReadByFirstWord(t *testing.T) {
	_, tree := parsed(t, filepath.Join("..", "impl", "l06_network.go"))
	words, embedded := map[string]string{}, 0
	ast.Inspect(tree, func(n ast.Node) bool {
		switch x := n.(type) {
		case *ast.KeyValueExpr:
			key, isText := x.Key.(*ast.BasicLit)
			method, isMethod := x.Value.(*ast.SelectorExpr)
			if !isText || !isMethod {
				break
			}
			// A method expression names the type, here a pointer in parentheses, and not a value.
			if _, ok := method.X.(*ast.ParenExpr); ok {
				words[key.Value] = method.Sel.Name
			}
		case *ast.StructType:
			for _, field := range x.Fields.List {
				if len(field.Names) == 0 {
					embedded++
				}
			}
		}
		return true
	})
	for _, word := range []string{"router", "link", "origin", "external", "import", "filter"} {
		if words[strconv.Quote(word)] == "" {
			t.Errorf("no method expression for the first word %q", word)
		}
	}
	if embedded == 0 {
		t.Error("nothing is embedded")
	}
}

// TestRoutesGoThroughChoices: the chapter 'Ways' has an iterator over choices, ranged over as a function, and a memo made once for each network.
func TestRoutesGoThroughChoices(t *testing.T) {
	_, tree := parsed(t, filepath.Join("..", "impl", "l07_routes.go"))
	iterators, onces := map[string]bool{}, map[string]bool{}
	ast.Inspect(tree, func(n ast.Node) bool {
		switch x := n.(type) {
		case *ast.FuncDecl:
			if x.Type.Results != nil && namesOf(x.Type.Results, "iter", "Seq") > 0 {
				iterators[x.Name.Name] = true
			}
		case *ast.StructType:
			for _, field := range x.Fields.List {
				if len(field.Names) == 1 && namesOf(field.Type, "sync", "Once") > 0 {
					onces[field.Names[0].Name] = true
				}
			}
		case *ast.ValueSpec:
			if namesOf(x, "sync", "Once") > 0 {
				t.Error("a sync.Once that belongs to no network")
			}
		}
		return true
	})
	ranged, done := 0, 0
	ast.Inspect(tree, func(n ast.Node) bool {
		switch x := n.(type) {
		case *ast.RangeStmt:
			if call, ok := x.X.(*ast.CallExpr); ok {
				if f, ok := call.Fun.(*ast.SelectorExpr); ok && iterators[f.Sel.Name] {
					ranged++
				}
			}
		case *ast.CallExpr:
			if do, ok := x.Fun.(*ast.SelectorExpr); ok && do.Sel.Name == "Do" {
				if once, ok := do.X.(*ast.SelectorExpr); ok && onces[once.Sel.Name] {
					done++
				}
			}
		}
		return true
	})
	if ranged == 0 || done == 0 {
		t.Errorf("iterators %v ranged over %d times, memos %v made at %d places", iterators, ranged, onces, done)
	}
}

// TestVerdictsCountStates: the chapter 'Ways' has counts of states in atomic numbers, and a defer that adds them.
func TestVerdictsCountStates(t *testing.T) {
	_, tree := parsed(t, filepath.Join("..", "impl", "l08_verify.go"))
	counts := map[string]bool{}
	ast.Inspect(tree, func(n ast.Node) bool {
		switch x := n.(type) {
		case *ast.StructType:
			for _, field := range x.Fields.List {
				if len(field.Names) == 1 && namesOf(field.Type, "atomic", "Int64") > 0 {
					counts[field.Names[0].Name] = true
				}
			}
		case *ast.ValueSpec:
			if namesOf(x, "atomic", "Int64") > 0 {
				t.Error("a count that belongs to no call")
			}
		}
		return true
	})
	added := 0
	ast.Inspect(tree, func(n ast.Node) bool {
		if x, ok := n.(*ast.DeferStmt); ok {
			if add, ok := x.Call.Fun.(*ast.SelectorExpr); ok && add.Sel.Name == "Add" {
				if count, ok := add.X.(*ast.SelectorExpr); ok && counts[count.Sel.Name] {
					added++
				}
			}
		}
		return true
	})
	if added == 0 {
		t.Errorf("no defer adds to the counts %v", counts)
	}
}

// TestProvingAsksWhatIsChecked: the chapter 'Ways' has an interface for what is checked, asked by a type switch; no function that the document lists has one.
func TestProvingAsksWhatIsChecked(t *testing.T) {
	_, tree := parsed(t, filepath.Join("..", "impl", "l09_prove.go"))
	wanted, methods, asked := map[string]bool{}, map[string]map[string]bool{}, map[string]bool{}
	for _, d := range tree.Decls {
		f, ok := d.(*ast.FuncDecl)
		if ok && f.Recv != nil {
			if of, ok := f.Recv.List[0].Type.(*ast.Ident); ok {
				if methods[of.Name] == nil {
					methods[of.Name] = map[string]bool{}
				}
				methods[of.Name][f.Name.Name] = true
			}
		}
		ast.Inspect(d, func(n ast.Node) bool {
			switch x := n.(type) {
			case *ast.InterfaceType:
				for _, method := range x.Methods.List {
					wanted[method.Names[0].Name] = true
				}
			case *ast.TypeSwitchStmt:
				if f.Name.IsExported() {
					t.Errorf("%s has a type switch", f.Name.Name)
				}
				for _, clause := range x.Body.List {
					for _, of := range clause.(*ast.CaseClause).List {
						asked[of.(*ast.Ident).Name] = true
					}
				}
			}
			return true
		})
	}
	if len(wanted) == 0 || len(asked) < 2 {
		t.Errorf("methods of interfaces %v, kinds asked for %v", wanted, asked)
	}
	for kind := range asked {
		for method := range wanted {
			if !methods[kind][method] {
				t.Errorf("%s has no %s", kind, method)
			}
		}
	}
}

// TestConsoleCommandsAreClosures: the chapter 'Ways' has closures for commands, and goto in the reading of a line.
func TestConsoleCommandsAreClosures(t *testing.T) {
	_, tree := parsed(t, filepath.Join("..", "impl", "l10_console.go"))
	commands, jumps, labels := map[string]bool{}, map[string]int{}, map[string]bool{}
	ast.Inspect(tree, func(n ast.Node) bool {
		switch x := n.(type) {
		case *ast.KeyValueExpr:
			key, isText := x.Key.(*ast.BasicLit)
			if _, isClosure := x.Value.(*ast.FuncLit); isText && isClosure {
				commands[key.Value] = true
			}
		case *ast.BranchStmt:
			if x.Tok == token.GOTO {
				jumps[x.Label.Name]++
			}
		case *ast.LabeledStmt:
			labels[x.Label.Name] = true
		}
		return true
	})
	for _, word := range []string{"verify", "show"} {
		if !commands[strconv.Quote(word)] {
			t.Errorf("no closure for the command %q", word)
		}
	}
	if len(jumps) == 0 {
		t.Errorf("no goto, labels %v", labels)
	}
}

// namesOf counts where a name of a package is meant.
func namesOf(tree ast.Node, pack, name string) int {
	count := 0
	ast.Inspect(tree, func(n ast.Node) bool {
		if x, ok := n.(*ast.SelectorExpr); ok && x.Sel.Name == name {
			if of, ok := x.X.(*ast.Ident); ok && of.Name == pack {
				count++
			}
		}
		return true
	})
	return count
}

// callsOf counts the calls of a function by its name.
func callsOf(tree ast.Node, name string) int {
	count := 0
	ast.Inspect(tree, func(n ast.Node) bool {
		if call, ok := n.(*ast.CallExpr); ok {
			if f, ok := call.Fun.(*ast.Ident); ok && f.Name == name {
				count++
			}
		}
		return true
	})
	return count
}
